/-
  spec.TotalsOk by its contract. Conditions: those of the statement.
-/
import Derived.Test.YtpnbbedfbglekaaTotalsFns
namespace Go.Proofs.Ytpnbbedfbglekaa
open Go.RowKit

set_option maxRecDepth 100000 in
set_option maxHeartbeats 4000000 in
theorem specTotalsOk_any (a : Option Addr) (len cap : Nat) (ts : List TotV) (w : World) (hm : len ≤ 1048576) (hok : ∀ t ∈ ts, t.Ok) (hR : Rd w w.heap.size 2 a len (flatT ts)) :
    Calls Try.prog 62 #[.slice a len cap] w fun e w' => e = .returned (.bool (totsOk ts)) ∧ Below w.heap.size w w' := by
  have hl := Lib.hid hR.tots_length
  go_enter Try.func62, Try.ntmps62
  go_wp2
  go_loopw [3] (fun i wr => ∃ k : Nat, k ≤ len ∧ i = .int .i64 k ∧ Below w.heap.size w wr ∧ Hid (OkT ts k)) (fun i _ => len - (intOf i).toNat)
  case atStart => exact ⟨0, Nat.zero_le _, rfl, Below.refl _ _, Lib.hid (fun j h => absurd h (by omega))⟩
  case round =>
    obtain ⟨k, hk, rfl, hb, ho⟩ := hrel
    by_cases hlt : k < len
    · obtain ⟨b, off, r, rfl, hB, hr, c0, c1⟩ := (hR.below hb (Nat.le_refl _)).tot hlt
      have Hr := Lib.hid hr
      have hro := TotV.Ok.of hok hr
      clear hr
      obtain ⟨key, n⟩ := r
      obtain ⟨hkk, _⟩ := hro
      have hB2 : b < wr.heap.size := Nat.lt_of_lt_of_le hB hb.size
      simp only at c0 c1 hkk
      unfold maxLen at hkk
      by_cases h12 : key.size ≤ 12
      case neg =>
        have E := Lib.hid (totsOk_no (k := k) (by rw [hl.out]; exact hlt) (okAt_bad Hr.out (by simp [totOkB]; omega)))
        have d0 : decide ((12 : Int) < (key.size : Int)) = true := by simp; omega
        go_wp2_with fail
        go_quiet (fail)
        have b9 := hb.trans (drewN_below0 wr nq hb.size)
        generalize wr.drewN nq = w1 at *
        go_wp2_with fail
        go_ret
        exact ⟨ret_bool E.out.symm, b9⟩
      have d0 : decide ((12 : Int) < (key.size : Int)) = false := by simp; omega
      cases hq : decide (0 ≤ n ∧ n ≤ 999999999999)
      case false =>
        have E := Lib.hid (totsOk_no (k := k) (by rw [hl.out]; exact hlt) (okAt_bad Hr.out (by simp only [totOkB, h12, true_and]; exact hq)))
        have CI := fun w => l1In_tot n false w hq
        clear hq
        go_wp2_with fail
        go_quiet (first | (go_at_call 61; refine (CI _).mono ?_; rintro e w1 ⟨rfl, rfl⟩; exact ⟨rfl, _, rfl⟩))
        have b9 := hb.trans (drewN_below0 wr nq hb.size)
        generalize wr.drewN nq = w1 at *
        go_wp2_with fail
        go_ret
        exact ⟨ret_bool E.out.symm, b9⟩
      have hto : totOkB key n = true := by simp only [totOkB, h12, true_and]; exact hq
      have HT := Lib.hid hto
      have CI := fun w => l1In_tot n true w hq
      clear hq hto
      rcases Nat.eq_zero_or_pos k with rfl | hk0
      · have O : Hid (OkT ts 1) := Lib.hid (ho.out.succ (okAt_first Hr.out HT.out))
        simp only [Nat.zero_mul, Nat.add_zero] at c0 c1
        go_wp2_with fail
        go_quiet (first | (go_at_call 61; refine (CI _).mono ?_; rintro e w1 ⟨rfl, rfl⟩; exact ⟨rfl, _, rfl⟩))
        have b9 := hb.trans (drewN_below0 wr nq hb.size)
        generalize wr.drewN nq = w1 at *
        go_wp2_with fail
        go_roundw
        case rel => exact ⟨1, by omega, rfl, b9, O⟩
        case measure => simp [intOf]; omega
      obtain ⟨q, hq2, hq1⟩ : ∃ q : Nat, (q < k ∧ k < q + 2) ∧ IntKind.i64.wrap ((k : Int) - 1) = (q : Int) := ⟨k - 1, by omega, by rw [IntWalk.i64_in _ (by omega)]; omega⟩
      obtain ⟨b', off', r1, e', _, hr1, p0, _⟩ := (hR.below hb (Nat.le_refl _)).tot (show q < len by omega)
      obtain ⟨rfl, rfl⟩ : b = b' ∧ off = off' := by injection e' with e1; injection e1 with e2 e3; exact ⟨e2, e3⟩
      have Hr1 := Lib.hid hr1
      clear hr1 e'
      obtain ⟨key1, n1⟩ := r1
      simp only at p0
      have hkq := Lib.hid (show k - 1 = q by omega)
      have Hk := Lib.hid (okAt_next (k := k) hk0 (by rw [hkq.out]; exact Hr1.out) Hr.out HT.out)
      cases hd : Op.bytesLess key1.toList key.toList
      case false =>
        have E := Lib.hid (totsOk_no (k := k) (by rw [hl.out]; exact hlt) (Hk.out.trans hd))
        go_wp2_with fail
        go_quiet (first | (go_at_call 61; refine (CI _).mono ?_; rintro e w1 ⟨rfl, rfl⟩; exact ⟨rfl, _, rfl⟩))
        have b9 := hb.trans (drewN_below0 wr nq hb.size)
        generalize wr.drewN nq = w1 at *
        go_wp2_with fail
        go_ret
        exact ⟨ret_bool E.out.symm, b9⟩
      have O : Hid (OkT ts (k + 1)) := Lib.hid (ho.out.succ (Hk.out.trans hd))
      go_wp2_with fail
      go_quiet (first | (go_at_call 61; refine (CI _).mono ?_; rintro e w1 ⟨rfl, rfl⟩; exact ⟨rfl, _, rfl⟩))
      have b9 := hb.trans (drewN_below0 wr nq hb.size)
      generalize wr.drewN nq = w1 at *
      go_wp2_with fail
      go_roundw
      case rel => exact ⟨k + 1, by omega, by go_num, b9, O⟩
      case measure => simp [intOf]; omega
    · have E := Lib.hid (show totsOk ts = decide (len ≤ 120) by rw [totsOk_all ho.out (by rw [hl.out]; omega), hl.out])
      go_wp2_with fail
      go_ret
      exact ⟨ret_bool (by rw [E.out, decide_eq_decide]; omega), hb⟩
end Go.Proofs.Ytpnbbedfbglekaa
