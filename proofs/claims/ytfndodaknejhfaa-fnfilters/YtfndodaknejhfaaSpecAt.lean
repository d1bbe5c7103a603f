/-
  spec.l6At by its contract: the three bits of a key in a new row. Conditions: the size lies in 8..256, the key has at most 12 bytes.
-/
import Derived.Test.YtfndodaknejhfaaBitAdd
import Derived.Test.YtfndodaknejhfaaByteRow
namespace Go.Proofs.Ytfndodaknejhfaa
open Go.RowKit
theorem l2Hash_still (s : ByteArray) (w : World) (hs : s.size ≤ maxLen) (z : Int) (hz : fnv s.data.toList = z) : Calls Try.prog 175 #[.string s] w fun e w' => e = .returned (.int .i64 z) ∧ w' = w :=
  (l2Hash_any s w hs).mono fun _ _ ⟨he, hw⟩ => ⟨hz ▸ he, hw.symm⟩
theorem A3.new3 (w : World) (a b c : Int) (t : TypeId) : A3 (w.alloc (.cells #[.int .i64 a, .int .i64 b, .int .i64 c] t)) w.heap.size [a, b, c] := by
  refine ⟨fun j v hv => ?_, fun j hj => ?_, by simp, rfl⟩
  · rcases j with _ | _ | _ | j <;> simp at hv <;> subst hv <;> simp [go_sem]
  · rcases (show j = 0 ∨ j = 1 ∨ j = 2 by omega) with rfl | rfl | rfl <;> simp [go_sem]
set_option maxRecDepth 100000 in
theorem l6At_any (n : Int) (x s : ByteArray) (w : World) (h0 : 8 ≤ n) (h1 : n ≤ 256) (hs : s.size ≤ 12) :
    Calls Try.prog 146 #[.agg #[.int .i64 n, .string x], .string s] w fun e w' => ∃ B, e = .returned (.slice (some ⟨B, 0, none⟩) 3 3) ∧ Below w.heap.size w w' ∧ w.heap.size ≤ B ∧ A3 w' B [place n s 0, place n s 1, place n s 2] := by
  have z0 := fnv_bd (keyB 0 s).data.toList
  have z1 := fnv_bd (keyB 1 s).data.toList
  have z2 := fnv_bd (keyB 2 s).data.toList
  have k0 := keyB_size 0 s
  have k1 := keyB_size 1 s
  have k2 := keyB_size 2 s
  have q0 : (⟨#[0]⟩ : ByteArray) ++ s = keyB 0 s := rfl
  have q1 : (⟨#[1]⟩ : ByteArray) ++ s = keyB 1 s := rfl
  have q2 : (⟨#[2]⟩ : ByteArray) ++ s = keyB 2 s := rfl
  have hb := bl1 w (.cells #[.int .i64 n, .string x] 36)
  have c := At2.new w (.int .i64 n) (.string x) 36
  have P := Lib.hid (show [place n s 0, place n s 1, place n s 2] = [fnv (keyB 0 s).data.toList % n, fnv (keyB 1 s).data.toList % n, fnv (keyB 2 s).data.toList % n] from rfl)
  have C0 := fun w => l2Hash_still (keyB 0 s) w (by unfold maxLen; omega)
  have C1 := fun w => l2Hash_still (keyB 1 s) w (by unfold maxLen; omega)
  have C2 := fun w => l2Hash_still (keyB 2 s) w (by unfold maxLen; omega)
  generalize fnv (keyB 0 s).data.toList = f0 at *
  generalize fnv (keyB 1 s).data.toList = f1 at *
  generalize fnv (keyB 2 s).data.toList = f2 at *
  go_enter Try.func146, Try.ntmps146
  go_wp2_with fail
  generalize w.alloc (.cells #[.int .i64 n, .string x] 36) = W at *
  obtain ⟨x0, x1⟩ := c
  have g0 : ¬ 9223372036854775807 < 1 + s.size := by omega
  have hn0 : (n == 0) = false := by simp; omega
  have hn1 : ¬ n = 0 := by omega
  refine wp_region_still_tail 18 (by kernel_rfl) (by kernel_rfl) ?_
  simp only [List.take_succ_cons, List.take_zero, List.drop_succ_cons, List.drop_zero]
  change wpStill _ _ W.drew _ _ _
  repeat still_step
  still_call (C0 _ f0 rfl)
  repeat still_step
  still_call (C1 _ f1 rfl)
  repeat still_step
  still_call (C2 _ f2 rfl)
  repeat still_step
  refine wpStill_nil ?_
  change wpList _ _ _ _ _ W.drew
  go_wp2_with fail
  go_ret
  rw [P.out]
  exact ⟨W.heap.size, rfl, (hb.alloc hb.size _).drew, hb.size, A3.new3 W (f0 % n) (f1 % n) (f2 % n) 2⟩
end Go.Proofs.Ytfndodaknejhfaa
