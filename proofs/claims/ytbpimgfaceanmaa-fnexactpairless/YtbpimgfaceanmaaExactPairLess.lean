/-
  laws.FnExactPairLess returns true for all pairs: impl.PairLess and spec.PairLess return the same bool. No conditions.
-/
import Derived.Test.YtbpimgfaceanmaaCmpPairs
import Derived.Deep.RegionHeld3
namespace Go.Proofs.Ytbpimgfaceanmaa
open Go.RowKit

set_option maxRecDepth 100000 in
theorem implPairLess_any (k l r : ByteArray) (x y : Bool) (k2 l2 r2 : ByteArray) (x2 y2 : Bool) (w : World) :
    Calls Try.prog 24 #[.agg #[.string k, .string l, .string r, .bool x, .bool y], .agg #[.string k2, .string l2, .string r2, .bool x2, .bool y2]] w fun e w' => e = .returned (.bool (lessP k l r x y k2 l2 r2 x2 y2)) ∧ Below w.heap.size w w' := by
  have E := Lib.hid (orL_less k l r x y k2 l2 r2 x2 y2)
  go_enter Try.func24, Try.ntmps24
  go_wp2_with fail
  refine (comparePairs_any k l r x y k2 l2 r2 x2 y2 _).mono ?_
  rintro e w1 ⟨rfl, hb1⟩
  go_wp2_with fail
  go_ret
  exact ⟨ret_bool E.out, (bl2 _ _ _).trans (hb1.mono (by simp; omega))⟩
set_option maxRecDepth 100000 in
theorem specPairLess_any (k l r : ByteArray) (x y : Bool) (k2 l2 r2 : ByteArray) (x2 y2 : Bool) (w : World) :
    Calls Try.prog 23 #[.agg #[.string k, .string l, .string r, .bool x, .bool y], .agg #[.string k2, .string l2, .string r2, .bool x2, .bool y2]] w fun e w' => e = .returned (.bool (lessP k l r x y k2 l2 r2 x2 y2)) ∧ Below w.heap.size w w' := by
  go_enter Try.func23, Try.ntmps23
  go_wp2_with fail
  refine (l5Less_any k l r x y k2 l2 r2 x2 y2 _).mono ?_
  rintro e w1 ⟨rfl, hb1⟩
  go_wp2_with fail
  go_ret
  exact ⟨rfl, (bl2 _ _ _).trans (hb1.mono (by simp; omega))⟩

theorem two_keep5 {w W W' : World} {a b c d e f g h i j : Value} (H : Below W.heap.size W W')
    (G : W.cell? ⟨w.heap.size, 0, none⟩ = some a ∧ W.cell? ⟨w.heap.size, 1, none⟩ = some b ∧ W.cell? ⟨w.heap.size, 2, none⟩ = some c ∧ W.cell? ⟨w.heap.size, 3, none⟩ = some d ∧ W.cell? ⟨w.heap.size, 4, none⟩ = some e ∧ W.cell? ⟨w.heap.size + 1, 0, none⟩ = some f ∧ W.cell? ⟨w.heap.size + 1, 1, none⟩ = some g ∧ W.cell? ⟨w.heap.size + 1, 2, none⟩ = some h ∧ W.cell? ⟨w.heap.size + 1, 3, none⟩ = some i ∧ W.cell? ⟨w.heap.size + 1, 4, none⟩ = some j ∧ Below w.heap.size w W ∧ w.heap.size + 1 < W.heap.size) :
    W'.cell? ⟨w.heap.size, 0, none⟩ = some a ∧ W'.cell? ⟨w.heap.size, 1, none⟩ = some b ∧ W'.cell? ⟨w.heap.size, 2, none⟩ = some c ∧ W'.cell? ⟨w.heap.size, 3, none⟩ = some d ∧ W'.cell? ⟨w.heap.size, 4, none⟩ = some e ∧ W'.cell? ⟨w.heap.size + 1, 0, none⟩ = some f ∧ W'.cell? ⟨w.heap.size + 1, 1, none⟩ = some g ∧ W'.cell? ⟨w.heap.size + 1, 2, none⟩ = some h ∧ W'.cell? ⟨w.heap.size + 1, 3, none⟩ = some i ∧ W'.cell? ⟨w.heap.size + 1, 4, none⟩ = some j ∧ Below w.heap.size w W' ∧ w.heap.size + 1 < W'.heap.size := by
  obtain ⟨g0, g1, g2, g3, g4, g5, g6, g7, g8, g9, gb, gz⟩ := G
  have hs := H.size
  exact ⟨(H.cell (by exact Nat.lt_of_succ_lt gz)).trans g0, (H.cell (by exact Nat.lt_of_succ_lt gz)).trans g1, (H.cell (by exact Nat.lt_of_succ_lt gz)).trans g2, (H.cell (by exact Nat.lt_of_succ_lt gz)).trans g3, (H.cell (by exact Nat.lt_of_succ_lt gz)).trans g4, (H.cell (by exact gz)).trans g5, (H.cell (by exact gz)).trans g6, (H.cell (by exact gz)).trans g7, (H.cell (by exact gz)).trans g8, (H.cell (by exact gz)).trans g9, gb.trans (H.mono (by omega)), by omega⟩
set_option maxRecDepth 100000 in
theorem walk_ExactPairLess (p q : PairV) (w : World) (hp : p.Ok) (hq : q.Ok) :
    Calls Try.prog 5 #[.agg #[.string p.key, .string p.l, .string p.r, .bool p.hl, .bool p.hr], .agg #[.string q.key, .string q.l, .string q.r, .bool q.hl, .bool q.hr]] w fun e w' => e = .returned (.bool true) ∧ Below w.heap.size w w' := by
  obtain ⟨k, l, r, x, y⟩ := p
  obtain ⟨hk, hl, hr⟩ := hp
  obtain ⟨k2, l2, r2, x2, y2⟩ := q
  obtain ⟨hk2, hl2, hr2⟩ := hq
  have hz := szP_bd k l r 1048576 (by omega) (by omega)
  have c1 := (At5.new w (.string k) (.string l) (.string r) (.bool x) (.bool y) 30).keep (bl1 _ (.cells #[.string k2, .string l2, .string r2, .bool x2, .bool y2] 30)) (by simp)
  have d1 := At5.new (w.alloc (.cells #[.string k, .string l, .string r, .bool x, .bool y] 30)) (.string k2) (.string l2) (.string r2) (.bool x2) (.bool y2) 30
  have hb := bl2 w (.cells #[.string k, .string l, .string r, .bool x, .bool y] 30) (.cells #[.string k2, .string l2, .string r2, .bool x2, .bool y2] 30)
  have hB : w.heap.size + 1 < ((w.alloc (.cells #[.string k, .string l, .string r, .bool x, .bool y] 30)).alloc (.cells #[.string k2, .string l2, .string r2, .bool x2, .bool y2] 30)).heap.size := by simp
  simp only [World.size_alloc] at d1
  go_enter Try.func5, Try.ntmps5
  go_wp2_with fail
  generalize (w.alloc (.cells #[.string k, .string l, .string r, .bool x, .bool y] 30)).alloc (.cells #[.string k2, .string l2, .string r2, .bool x2, .bool y2] 30) = w0 at *
  refine (szPair_any k l r x y _ _ hk hl hr (by omega) (by omega)).mono ?_
  rintro e w1 ⟨rfl, hb1⟩
  replace c1 := c1.keep hb1 (by omega)
  replace d1 := d1.keep hb1 hB
  replace hB : w.heap.size + 1 < w1.heap.size := by have := hb1.size; omega
  replace hb := hb.trans (hb1.mono hb.size)
  clear hb1
  generalize szP k l r 1048576 = z at *
  rcases hz with rfl | ⟨hz0, hz1, hz2⟩
  · go_wp2_with fail
    go_ret
    exact ⟨rfl, hb⟩
  have hy := szP_bd k2 l2 r2 z hz0 hz1
  have ⟨v0, v1, v2, v3, v4⟩ := d1
  go_wp2_with fail
  refine (szPair_any k2 l2 r2 x2 y2 _ _ hk2 hl2 hr2 hz1 hz0).mono ?_
  rintro e w2 ⟨rfl, hb1⟩
  clear v0 v1 v2 v3 v4
  replace c1 := c1.keep hb1 (by omega)
  replace d1 := d1.keep hb1 hB
  replace hB : w.heap.size + 1 < w2.heap.size := by have := hb1.size; omega
  replace hb := hb.trans (hb1.mono hb.size)
  clear hb1
  generalize szP k2 l2 r2 z = y' at *
  rcases hy with rfl | ⟨hy0, hy1, hy2⟩
  · go_wp2_with fail
    go_ret
    exact ⟨rfl, hb⟩
  clear hz2 hy2
  have ⟨u0, u1, u2, u3, u4⟩ := c1
  have ⟨v0, v1, v2, v3, v4⟩ := d1
  go_wp2_with fail
  go_region_held3 (fun w' => w'.cell? ⟨w.heap.size, 0, none⟩ = some (.string k) ∧ w'.cell? ⟨w.heap.size, 1, none⟩ = some (.string l) ∧ w'.cell? ⟨w.heap.size, 2, none⟩ = some (.string r) ∧ w'.cell? ⟨w.heap.size, 3, none⟩ = some (.bool x) ∧ w'.cell? ⟨w.heap.size, 4, none⟩ = some (.bool y) ∧ w'.cell? ⟨w.heap.size + 1, 0, none⟩ = some (.string k2) ∧ w'.cell? ⟨w.heap.size + 1, 1, none⟩ = some (.string l2) ∧ w'.cell? ⟨w.heap.size + 1, 2, none⟩ = some (.string r2) ∧ w'.cell? ⟨w.heap.size + 1, 3, none⟩ = some (.bool x2) ∧ w'.cell? ⟨w.heap.size + 1, 4, none⟩ = some (.bool y2) ∧ Below w.heap.size w w' ∧ w.heap.size + 1 < w'.heap.size) (first | exact ⟨u0, u1, u2, u3, u4, v0, v1, v2, v3, v4, hb.drew, hB⟩ | exact two_keep5 hb' (by assumption))
    (first
      | (go_at_call 21; refine (toPair_any _ _ _ _ _ _).mono ?_; rintro e w' ⟨rfl, hb'⟩)
      | (go_at_call 23; refine (specPairLess_any _ _ _ _ _ _ _ _ _ _ _).mono ?_; rintro e w' ⟨rfl, hb'⟩))
  rename_i hH
  clear u0 u1 u2 u3 u4 v0 v1 v2 v3 v4 hb hB c1 d1
  obtain ⟨u0, u1, u2, u3, u4, v0, v1, v2, v3, v4, hb, hB⟩ := hH
  clear hb'
  go_wp2_with fail
  go_region_held3 (fun w' => w'.cell? ⟨w.heap.size, 0, none⟩ = some (.string k) ∧ w'.cell? ⟨w.heap.size, 1, none⟩ = some (.string l) ∧ w'.cell? ⟨w.heap.size, 2, none⟩ = some (.string r) ∧ w'.cell? ⟨w.heap.size, 3, none⟩ = some (.bool x) ∧ w'.cell? ⟨w.heap.size, 4, none⟩ = some (.bool y) ∧ w'.cell? ⟨w.heap.size + 1, 0, none⟩ = some (.string k2) ∧ w'.cell? ⟨w.heap.size + 1, 1, none⟩ = some (.string l2) ∧ w'.cell? ⟨w.heap.size + 1, 2, none⟩ = some (.string r2) ∧ w'.cell? ⟨w.heap.size + 1, 3, none⟩ = some (.bool x2) ∧ w'.cell? ⟨w.heap.size + 1, 4, none⟩ = some (.bool y2) ∧ Below w.heap.size w w' ∧ w.heap.size + 1 < w'.heap.size) (first | exact ⟨u0, u1, u2, u3, u4, v0, v1, v2, v3, v4, hb.drew, hB⟩ | exact two_keep5 hb' (by assumption))
    (first
      | (go_at_call 21; refine (toPair_any _ _ _ _ _ _).mono ?_; rintro e w' ⟨rfl, hb'⟩)
      | (go_at_call 24; refine (implPairLess_any _ _ _ _ _ _ _ _ _ _ _).mono ?_; rintro e w' ⟨rfl, hb'⟩))
  rename_i hH
  clear u0 u1 u2 u3 u4 v0 v1 v2 v3 v4 hb hB
  obtain ⟨_, _, _, _, _, _, _, _, _, _, hb, _⟩ := hH
  clear hb'
  go_wp2_with fail
  go_ret
  exact ⟨rfl, hb⟩
end Go.Proofs.Ytbpimgfaceanmaa
