/-
  DrawFilterNew, DrawFilterHas and DrawFilterOk by their contracts: some number, some filter and key, some filter. Conditions: a code of at most 1048576 bytes.
-/
import Derived.Test.YtfndodaknejhfaaHurt
import Derived.Test.YtfndodaknejhfaaDrawFilter
namespace Go.Proofs.Ytfndodaknejhfaa
open Go.RowKit
set_option maxRecDepth 100000 in
theorem drawFilterNew_any (a : Option Addr) (len cap : Nat) (w : World) (hl : len ≤ 1048576) (h : IsBy w w.heap.size a len) :
    Calls Try.prog 24 #[.slice a len cap] w fun e w' => ∃ N : Int, -9223372036854775808 ≤ N ∧ N ≤ 9223372036854775807 ∧ e = .returned (.int .i64 N) ∧ Below w.heap.size w w' := by
  go_enter Try.func24, Try.ntmps24
  go_wp2_with fail
  refine (l1Open_any a len cap w hl h).mono ?_
  rintro e w1 ⟨rfl, hR1, hb1⟩
  go_wp2_with fail
  refine (once_lit _ len 2 _ _ hR1 (by omega) (by omega) (by omega)).mono ?_
  rintro e w2 ⟨q, rfl, hD⟩
  cases q
  · go_wp2_with fail
    refine (off_any _ len 8 256 _ hD.rdr (by omega) (by omega) (by omega)).mono ?_
    rintro e w3 ⟨z, hz0, hz1, rfl, hD3⟩
    have b9 := below_drew hb1 (hD.trans hD3)
    go_wp2_with fail
    go_ret
    exact ⟨z, hz0, hz1, rfl, b9⟩
  · go_wp2_with fail
    refine (below_lit _ len 34 _ _ hD.rdr (by omega) (by omega) (by omega)).mono ?_
    rintro e w3 ⟨z, hz, rfl, hD3⟩
    have b9 := below_drew hb1 (hD.trans hD3)
    go_wp2_with fail
    go_ret
    first | exact ⟨8 * (z : Int), by omega, by omega, rfl, b9⟩ | exact ⟨_, by omega, by omega, rfl, b9⟩
set_option maxRecDepth 100000 in
theorem drawFilterHas_any (a : Option Addr) (len cap : Nat) (w : World) (hl : len ≤ 1048576) (h : IsBy w w.heap.size a len) :
    Calls Try.prog 23 #[.slice a len cap] w fun e w' => ∃ (N : Int) (x s : ByteArray), x.size ≤ 32 ∧ s.size ≤ 5 ∧ e = .returned (.tuple #[.agg #[.int .i64 N, .string x], .string s]) ∧ Below w.heap.size w w' := by
  have hb0 := bl1 w (.cells #[.int .i64 0, .string ⟨#[]⟩] 36)
  have V := FVar.new w 0 ⟨#[]⟩ 36
  obtain ⟨bx, hx1, hx2⟩ := h
  have h' : IsBy (w.alloc (.cells #[.int .i64 0, .string ⟨#[]⟩] 36)) (w.alloc (.cells #[.int .i64 0, .string ⟨#[]⟩] 36)).heap.size a len := ⟨bx, (hx1.below hb0 (Nat.le_refl _)).more hb0.size, hx2⟩
  go_enter Try.func23, Try.ntmps23
  go_wp2_with fail
  generalize w.alloc (.cells #[.int .i64 0, .string ⟨#[]⟩] 36) = w0 at *
  refine (drawFilterAdd_any a len cap w0 hl h').mono ?_
  rintro e w1 ⟨N, x, s, hx, hs, rfl, hb1⟩
  have hg : w.heap.size < w0.heap.size := V.2.2
  replace V := V.below hb1 hg
  have ⟨v0, v1⟩ := V.1
  have b1 := hb0.trans (hb1.mono (Nat.le_of_lt hg))
  go_wp2_with (refine wpList_store_fil rfl _ _ rfl w.heap.size N x (by rfl) (by rfl) V.2 fun w7 hR hk => stop ?_)
  refine unstop ?_
  have hld := load_fil hR
  have b7 := hk w.heap.size w (Nat.le_refl _) b1
  go_wp2_with fail
  refine bodyPost_ret (v := .tuple #[.agg #[.int .i64 N, .string x], .string s]) ?_ rfl ⟨N, x, s, hx, hs, rfl, b7⟩
  first
    | (rw [results_cell_tmp rfl]; simp [asAddr, Result.andThen, hld])
    | simp [results, Try.results23, asAddr, hld]
set_option maxRecDepth 100000 in
set_option maxHeartbeats 1000000 in
theorem drawFilterOk_any (a : Option Addr) (len cap : Nat) (w : World) (hl : len ≤ 1048576) (h : IsBy w w.heap.size a len) :
    Calls Try.prog 27 #[.slice a len cap] w fun e w' => ∃ (N : Int) (x : ByteArray), x.size ≤ 34 ∧ e = .returned (.agg #[.int .i64 N, .string x]) ∧ Below w.heap.size w w' := by
  have hb0 := bl1 w (.cells #[.int .i64 0, .string ⟨#[]⟩] 36)
  have V := FVar.new w 0 ⟨#[]⟩ 36
  obtain ⟨bx, hx1, hx2⟩ := h
  have h' : IsBy (w.alloc (.cells #[.int .i64 0, .string ⟨#[]⟩] 36)) (w.alloc (.cells #[.int .i64 0, .string ⟨#[]⟩] 36)).heap.size a len := ⟨bx, (hx1.below hb0 (Nat.le_refl _)).more hb0.size, hx2⟩
  go_enter Try.func27, Try.ntmps27
  go_wp2_with fail
  generalize w.alloc (.cells #[.int .i64 0, .string ⟨#[]⟩] 36) = w0 at *
  refine (l1Open_any a len cap w0 hl h').mono ?_
  rintro e w1 ⟨rfl, hR1, hb1⟩
  have hlt := hR1.lt
  have hg : w.heap.size < w0.heap.size := V.2.2
  replace V := V.below hb1 hg
  have D := Drew.refl hR1
  go_wp2_with fail
  refine (filter_any _ len _ hR1).mono ?_
  rintro e w2 ⟨N, x, hx, rfl, hD⟩
  replace V := V.drew hD (by omega)
  replace D := D.trans hD
  clear hD
  have F := FVar.new w2 N x 36
  have hb2 := bl1 w2 (.cells #[.int .i64 N, .string x] 36)
  have hF0 : w1.heap.size ≤ w2.heap.size := D.size
  replace V := V.below hb2 V.2.2
  replace D := D.and hb2
  clear hb2
  go_wp2_with fail
  generalize w2.alloc (.cells #[.int .i64 N, .string x] 36) = w3 at *
  generalize w2.heap.size = F0 at *
  refine (once_lit _ len 4 _ _ D.rdr (by omega) (by omega) (by omega)).mono ?_
  rintro e w4 ⟨q, rfl, hD⟩
  replace V := V.drew hD (by omega)
  replace F := F.drew hD (by omega)
  replace D := D.trans hD
  clear hD
  cases q
  · have ⟨x0, x1⟩ := F.1
    have b4 := hb0.trans ((below_drew hb1 D).mono (Nat.le_of_lt hg))
    go_wp2_with (refine wpList_store_fil rfl _ _ rfl w.heap.size N x (by rfl) (by rfl) V.2 fun w7 hR hk => stop ?_)
    refine unstop ?_
    have hld := load_fil hR
    have b7 := hk w.heap.size w (Nat.le_refl _) b4
    go_wp2_with fail
    refine bodyPost_ret (v := .agg #[.int .i64 N, .string x]) ?_ rfl ⟨N, x, by omega, rfl, b7⟩
    simp [results, Try.results27, asAddr, hld]
  · have ⟨x0, x1⟩ := F.1
    go_wp2_with fail
    refine (hurt_any _ len x _ D.rdr (by omega)).mono ?_
    rintro e w5 ⟨t, ht, rfl, hD⟩
    clear x0 x1
    replace V := V.drew hD (by omega)
    replace F := F.drew hD (by omega)
    replace D := D.trans hD
    clear hD
    have ⟨x0, x1⟩ := F.1
    have f1 := (F.2.1 1 (by omega)).2
    rw [Nat.zero_add] at f1
    have V' := V.below ((Below.refl F0 w5).setCell (p := ⟨F0, 1, none⟩) (Nat.le_refl _) (.string t)) (by omega)
    have D' := D.set (o := 1) (b := F0) hlt (by omega) (.string t)
    have b4 := hb0.trans ((below_drew hb1 D').mono (Nat.le_of_lt hg))
    go_wp2_with (refine wpList_store_fil rfl _ _ rfl w.heap.size N t (by rfl) (by rfl) V'.2 fun w8 hR hk => stop ?_)
    refine unstop ?_
    have hld := load_fil hR
    have b7 := hk w.heap.size w (Nat.le_refl _) b4
    go_wp2_with fail
    refine bodyPost_ret (v := .agg #[.int .i64 N, .string t]) ?_ rfl ⟨N, t, by omega, rfl, b7⟩
    simp [results, Try.results27, asAddr, hld]
end Go.Proofs.Ytfndodaknejhfaa
