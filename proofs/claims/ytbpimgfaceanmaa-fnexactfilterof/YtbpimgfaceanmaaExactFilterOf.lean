/-
  laws.FnExactFilterOf returns true for all rows and numbers: impl.FilterOf and spec.FilterOf return the same, and the rows stay as they were. No conditions.
-/
import Derived.Test.YtbpimgfaceanmaaFilterOfSpec
import Derived.Test.YtbpimgfaceanmaaRowsMem
namespace Go.Proofs.Ytbpimgfaceanmaa
open Go.RowKit
set_option maxRecDepth 100000 in
theorem walk_ExactFilterOf (a : Option Addr) (len cap : Nat) (rs : List RowV) (n : Int) (w : World) (hI : IsRows w a len cap rs) (_hn : (Lit.int .i64 n).wf = true) :
    Calls Try.prog 10 #[.slice a len cap, .int .i64 n] w fun e w' => e = .returned (.bool true) ∧ Below w.heap.size w w' := by
  obtain ⟨hlc, hcm, hok, hR⟩ := hI
  obtain ⟨rn, rt, rb, e1⟩ : ∃ rn rt rb, ofV rs n = .tuple #[.agg #[.int .i64 rn, .string rt], .bool rb] := ⟨_, _, _, rfl⟩
  have CS := fun a len cap w => specFilterOf_any a len cap rs n w
  have CI := fun a len cap w => implFilterOf_any a len cap rs n w
  rw [e1] at CS CI
  clear e1
  go_enter Try.func10, Try.ntmps10
  go_wp2_with fail
  refine (szRowS_any a len cap rs _ _ (by omega) hok hR (by omega) (by omega)).mono ?_
  rintro e w1 ⟨z, rfl, hb1, hz⟩
  rcases hz with rfl | ⟨hz0, hz1, hz2⟩
  · go_wp2_with fail
    go_ret
    exact ⟨rfl, hb1⟩
  have hm : len ≤ 1048576 := by omega
  have R1 := (hR.below hb1 (Nat.le_refl _)).more hb1.size
  clear hR
  go_wp2_with fail
  refine (toRowS_any a len cap rs _ hm R1).mono ?_
  rintro e w2 ⟨rfl, hb2, hO2⟩
  have R2 := (R1.below hb2 (Nat.le_refl _)).more hb2.size
  have B2 := hb1.trans (hb2.mono hb1.size)
  clear hb1 hb2 R1
  go_wp2_with fail
  refine (CS _ len len _ hm hok (Rd.of_own hO2)).mono ?_
  rintro e w3 ⟨rfl, hb3⟩
  have R3 := (R2.below hb3 (Nat.le_refl _)).more hb3.size
  have B3 := B2.trans (hb3.mono B2.size)
  clear hO2 R2 B2 hb3 CS
  have d := At2.new w3 (.int .i64 rn) (.string rt) 26
  have hb2 := bl1 w3 (.cells #[.int .i64 rn, .string rt] 26)
  have hD : w3.heap.size < (w3.alloc (.cells #[.int .i64 rn, .string rt] 26)).heap.size := by simp
  replace B3 := B3.trans (hb2.mono B3.size)
  replace R3 := (R3.below hb2 (Nat.le_refl _)).more hb2.size
  clear hb2
  go_wp2_with fail
  generalize w3.alloc (.cells #[.int .i64 rn, .string rt] 26) = w4 at *
  generalize w3.heap.size = D at *
  refine (toRowS_any a len cap rs _ hm R3).mono ?_
  rintro e w5 ⟨rfl, hb4, hO4⟩
  have R4 := (R3.below hb4 (Nat.le_refl _)).more hb4.size
  have B4 := B3.trans (hb4.mono B3.size)
  have X4 := Rd.of_own hO4
  replace d := d.keep hb4 hD
  replace hD : D < w5.heap.size := Nat.lt_of_lt_of_le hD hb4.size
  clear hb4 hO4 R3 B3
  go_wp2_with fail
  refine (CI _ len len _ hm hok X4).mono ?_
  rintro e w6 ⟨rfl, hb5⟩
  have R5 := (R4.below hb5 (Nat.le_refl _)).more hb5.size
  have X5 := (X4.below hb5 (Nat.le_refl _)).more hb5.size
  have B5 := B4.trans (hb5.mono B4.size)
  replace d := d.keep hb5 hD
  replace hD : D < w6.heap.size := Nat.lt_of_lt_of_le hD hb5.size
  clear hb5 R4 B4 X4 CI
  have hb2 := bl1 w6 (.cells #[.int .i64 rn, .string rt] 26)
  replace d := d.keep hb2 hD
  replace B5 := B5.trans (hb2.mono B5.size)
  replace R5 := (R5.below hb2 (Nat.le_refl _)).more hb2.size
  replace X5 := (X5.below hb2 (Nat.le_refl _)).more hb2.size
  clear hb2
  have ⟨v0, v1⟩ := d
  go_wp2_with fail
  refine (eqFilter_any rn rt _).mono ?_
  rintro e w7 ⟨rfl, hb2⟩
  have hne : (rb != rb) = false := by simp
  have hne2 : (!rb == rb) = false := by simp
  replace B5 := B5.trans (hb2.mono B5.size)
  replace R5 := (R5.below hb2 (Nat.le_refl _)).more hb2.size
  replace X5 := (X5.below hb2 (Nat.le_refl _)).more hb2.size
  clear hb2 v0 v1 d hD
  go_wp2_with fail
  refine (toRowS_any a len cap rs _ hm R5).mono ?_
  rintro e w8 ⟨rfl, hb6, hO6⟩
  have X6 := (X5.below hb6 (Nat.le_refl _)).more hb6.size
  have Y6 := Rd.of_own hO6
  have B6 := B5.trans (hb6.mono B5.size)
  clear hb6 R5 B5 X5 hO6
  go_wp2_with fail
  refine (eqRowS_same _ _ len len len rs _ hm X6 Y6).mono ?_
  rintro e w9 ⟨rfl, hb7⟩
  have B7 := B6.trans (hb7.mono B6.size)
  clear hb7 X6 Y6 B6
  go_wp2_with fail
  go_ret
  exact ⟨rfl, B7⟩
end Go.Proofs.Ytbpimgfaceanmaa
