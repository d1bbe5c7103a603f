/-
  laws.FnExactFilterNew returns true for every number: impl.FilterNew and spec.FilterNew return the same. No conditions.
-/
import Derived.Test.YtbpimgfaceanmaaFilterNewSpec
namespace Go.Proofs.Ytbpimgfaceanmaa
open Go.RowKit
set_option maxRecDepth 100000 in
theorem walk_ExactFilterNew (n : Int) (w : World) (_hn : (Lit.int .i64 n).wf = true) :
    Calls Try.prog 6 #[.int .i64 n] w fun e w' => e = .returned (.bool true) ∧ Below w.heap.size w w' := by
  obtain ⟨rn, rt, rb, e1⟩ : ∃ rn rt rb, ofV [] n = .tuple #[.agg #[.int .i64 rn, .string rt], .bool rb] := ⟨_, _, _, rfl⟩
  have CS := fun w => specFilterNew_any n w
  have CI := fun w => implFilterNew_any n w
  rw [e1] at CS CI
  clear e1
  go_enter Try.func6, Try.ntmps6
  go_wp2_with fail
  refine (CS _).mono ?_
  rintro e w3 ⟨rfl, hb⟩
  clear CS
  go_wp2_with fail
  have d := At2.new w3 (.int .i64 rn) (.string rt) 26
  have hb2 := bl1 w3 (.cells #[.int .i64 rn, .string rt] 26)
  have hD : w3.heap.size < (w3.alloc (.cells #[.int .i64 rn, .string rt] 26)).heap.size := by simp
  replace hb := hb.trans (hb2.mono hb.size)
  clear hb2
  generalize w3.alloc (.cells #[.int .i64 rn, .string rt] 26) = w4 at *
  generalize w3.heap.size = D at *
  refine (CI _).mono ?_
  rintro e w6 ⟨rfl, hb2⟩
  replace d := d.keep hb2 hD
  replace hD : D < w6.heap.size := Nat.lt_of_lt_of_le hD hb2.size
  replace hb := hb.trans (hb2.mono hb.size)
  clear hb2 CI
  replace d := d.keep (bl1 w6 (.cells #[.int .i64 rn, .string rt] 26)) hD
  have ⟨v0, v1⟩ := d
  have hb3 := bl1 w6 (.cells #[.int .i64 rn, .string rt] 26)
  replace hb := hb.trans (hb3.mono hb.size)
  clear hb3
  go_wp2_with fail
  refine (eqFilter_any rn rt _).mono ?_
  rintro e w7 ⟨rfl, hb2⟩
  replace hb := hb.trans (hb2.mono hb.size)
  have hne : (rb != rb) = false := by simp
  have hne2 : (!rb == rb) = false := by simp
  clear hb2 v0 v1 d hD
  go_wp2_with fail
  go_ret
  exact ⟨rfl, hb⟩
end Go.Proofs.Ytbpimgfaceanmaa
