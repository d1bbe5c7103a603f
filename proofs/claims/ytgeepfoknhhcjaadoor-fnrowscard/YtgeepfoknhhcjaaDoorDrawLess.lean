/-
  spec.DrawLess by its contract: two rows. Condition: a code of at most 1048576 bytes.
-/
import Derived.Test.YtgeepfoknhhcjaaDoorRowVar
namespace Go.Proofs.YtgeepfoknhhcjaaDoor
open Go.RowKit

set_option maxRecDepth 100000 in
set_option maxHeartbeats 2000000 in
theorem drawLess_any (a : Option Addr) (len cap : Nat) (w : World) (hl : len ≤ 1048576) (h : IsBy w w.heap.size a len) :
    Calls Tryd.prog 18 #[.slice a len cap] w fun e w' => ∃ r s : RowV, (r.Ok ∧ r.key.size ≤ 5 ∧ r.val.size ≤ 14) ∧ (s.Ok ∧ s.key.size ≤ 5 ∧ s.val.size ≤ 14) ∧ e = .returned (.tuple #[.agg #[.string r.key, .int .i64 r.tag, .string r.val], .agg #[.string s.key, .int .i64 s.tag, .string s.val]]) ∧ Below w.heap.size w w' := by
  have hb0 := bl2 w (.cells #[.string ⟨#[]⟩, .int .i64 0, .string ⟨#[]⟩] 29) (.cells #[.string ⟨#[]⟩, .int .i64 0, .string ⟨#[]⟩] 29)
  have V := (Vb.new w noRow 29).keep (bl1 _ (.cells #[.string ⟨#[]⟩, .int .i64 0, .string ⟨#[]⟩] 29))
  have U := Vb.new (w.alloc (.cells #[.string ⟨#[]⟩, .int .i64 0, .string ⟨#[]⟩] 29)) noRow 29
  have h' := h.far hb0
  have hz : (w.alloc (.cells #[.string ⟨#[]⟩, .int .i64 0, .string ⟨#[]⟩] 29)).heap.size = w.heap.size + 1 := by simp
  rw [hz] at U
  go_enter Tryd.func18, Tryd.ntmps18
  go_wp2_with fail
  simp only [noRow] at V U
  generalize (w.alloc (.cells #[.string ⟨#[]⟩, .int .i64 0, .string ⟨#[]⟩] 29)).alloc (.cells #[.string ⟨#[]⟩, .int .i64 0, .string ⟨#[]⟩] 29) = w0 at *
  refine (l1Open_any a len cap w0 hl h').mono ?_
  rintro e w1 ⟨rfl, hR1, hb1⟩
  have hg := U.lt
  replace V := V.keep hb1
  replace U := U.keep hb1
  have hlt := hR1.lt
  go_wp2_with fail
  refine (row_small _ len _ hR1).mono ?_
  rintro e w2 ⟨r, hr, rfl, hD⟩
  replace V := V.drewn hD (by omega)
  replace U := U.drewn hD (by omega)
  have D := hD
  have hF0 : w1.heap.size ≤ w2.heap.size := hD.size
  clear hD
  have F := Vb.new w2 r 29
  have hb2 := bl1 w2 (.cells #[.string r.key, .int .i64 r.tag, .string r.val] 29)
  replace V := V.keep hb2
  replace U := U.keep hb2
  replace D := D.and hb2
  clear hb2
  go_wp2_with fail
  generalize w2.alloc (.cells #[.string r.key, .int .i64 r.tag, .string r.val] 29) = w3 at *
  generalize w2.heap.size = F0 at *
  have ⟨x0, x1, x2⟩ := F.cells
  have HD3 := Lib.hid (show Drew w1 w3.drew w0.heap.size len from D.and (Below.refl _ _).drew)
  have HV3 := Lib.hid (show Vb w3.drew w.heap.size _ from V)
  have HU3 := Lib.hid (show Vb w3.drew (w.heap.size + 1) _ from U)
  have HF3 := Lib.hid (show Vb w3.drew F0 r from F)
  have n1 : F0 ≠ w0.heap.size := by omega
  have n2 : w.heap.size ≠ w0.heap.size := by omega
  have n3 : w.heap.size + 1 ≠ w0.heap.size := by omega
  have n4 : F0 ≠ w.heap.size := by omega
  have n5 : F0 ≠ w.heap.size + 1 := by omega
  have n6 : w.heap.size ≠ w.heap.size + 1 := by omega
  have n7 : w.heap.size + 1 ≠ w.heap.size := by omega
  have hr' := Lib.hid hr
  have Hb := Lib.hid (show ∀ W, Drew w1 W w0.heap.size len → Below w.heap.size w W from fun W hD => hb0.trans ((below_drew hb1 hD).mono (by omega)))
  clear D V U F hr hb0 hb1 hR1 h' h
  have ⟨f0, f1, f2⟩ := HF3.out.cells
  go_region_with ((go_at_call 52; refine (row_small _ len _ HD3.out.rdr).mono ?_; rintro e w4 ⟨s, hs, rfl, hD⟩; have hF' := HF3.out.drewn hD n1; have hV4 := Lib.hid (HV3.out.drewn hD n2); have hU4 := Lib.hid (HU3.out.drewn hD n3); have D4 := Lib.hid (HD3.out.trans hD); have hs' := Lib.hid hs; clear hD hs; have ⟨p0, p1, p2⟩ := hF'.cells; have ⟨v0, v1, v2⟩ := hV4.out.cells; have ⟨u0, u1, u2⟩ := hU4.out.cells; have ⟨g0, g1, g2⟩ := hV4.out.frozen; have ⟨k0, k1, k2⟩ := hU4.out.frozen; simp only at v0 v1 v2 u0 u1 u2; clear hF' x0 x1 x2 f0 f1 f2))
  all_goals
    have V5 := ((((hV4.out.put r).far n6 0 (.string s.key)).far n6 1 (.int .i64 s.tag)).far n6 2 (.string s.val)).load
    have U5 := ((((hU4.out.far n7 0 (.string r.key)).far n7 1 (.int .i64 r.tag)).far n7 2 (.string r.val)).put s).load
    have b5 := ((((((Hb.out _ D4.out).setCell (p := ⟨w.heap.size, 0, none⟩) (Nat.le_refl _) (.string r.key)).setCell (p := ⟨w.heap.size, 1, none⟩) (Nat.le_refl _) (.int .i64 r.tag)).setCell (p := ⟨w.heap.size, 2, none⟩) (Nat.le_refl _) (.string r.val)).setCell (p := ⟨w.heap.size + 1, 0, none⟩) (Nat.le_succ _) (.string s.key)).setCell (p := ⟨w.heap.size + 1, 1, none⟩) (Nat.le_succ _) (.int .i64 s.tag)).setCell (p := ⟨w.heap.size + 1, 2, none⟩) (Nat.le_succ _) (.string s.val)
    clear p0 p1 p2 v0 v1 v2 u0 u1 u2 g0 g1 g2 k0 k1 k2 hV4 hU4 HV3 HU3 HF3 HD3 Hb
    generalize (((((w4.setCell ⟨w.heap.size, 0, none⟩ (.string r.key)).setCell ⟨w.heap.size, 1, none⟩ (.int .i64 r.tag)).setCell ⟨w.heap.size, 2, none⟩ (.string r.val)).setCell ⟨w.heap.size + 1, 0, none⟩ (.string s.key)).setCell ⟨w.heap.size + 1, 1, none⟩ (.int .i64 s.tag)).setCell ⟨w.heap.size + 1, 2, none⟩ (.string s.val) = w6 at *
    go_wp2_with fail
    refine bodyPost_ret (v := .tuple #[.agg #[.string r.key, .int .i64 r.tag, .string r.val], .agg #[.string s.key, .int .i64 s.tag, .string s.val]]) ?_ rfl ⟨r, s, hr'.out, hs'.out, rfl, b5⟩
    simp [results, Tryd.results18, asAddr, Result.andThen, V5, U5]
end Go.Proofs.YtgeepfoknhhcjaaDoor
