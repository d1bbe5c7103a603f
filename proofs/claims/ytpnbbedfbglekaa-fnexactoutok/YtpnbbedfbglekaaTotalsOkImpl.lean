/-
  impl.TotalsOk by its contract. Conditions: those of the statement.
-/
import Derived.Test.YtpnbbedfbglekaaTotalsFns
import Derived.Test.YtpnbbedfbglekaaWQ
namespace Go.Proofs.Ytpnbbedfbglekaa
open Go.RowKit

/-- The two cells of a total in a new block, in every world behind. -/
theorem tot_cells (w : World) (k : ByteArray) (n : Int) (t : TypeId) (d : Nat) (os : Array Obj) : (Go.Sort.grow (redrawn (w.alloc (.cells #[.string k, .int .i64 n] t)) d) os).cell? ⟨w.heap.size, 0, none⟩ = some (.string k) ∧ (Go.Sort.grow (redrawn (w.alloc (.cells #[.string k, .int .i64 n] t)) d) os).cell? ⟨w.heap.size, 1, none⟩ = some (.int .i64 n) :=
  ⟨cell_regrown (by simp [go_sem]) d os, cell_regrown (by simp [go_sem]) d os⟩
set_option maxRecDepth 100000 in
set_option maxHeartbeats 2000000 in
theorem implTotalsOk_any (a : Option Addr) (len cap : Nat) (ts : List TotV) (w : World) (hm : len ≤ 1048576) (hok : ∀ t ∈ ts, t.Ok) (hR : Rd w w.heap.size 2 a len (flatT ts)) :
    Calls Try.prog 64 #[.slice a len cap] w fun e w' => e = .returned (.bool (totsOk ts)) ∧ Below w.heap.size w w' := by
  have hl := Lib.hid hR.tots_length
  by_cases hlong : 120 < len
  · have E := Lib.hid (show totsOk ts = false by unfold totsOk; rw [hl.out, decide_eq_false (show ¬ len ≤ 120 by omega), Bool.false_and])
    have d0 : decide ((120 : Int) < (len : Int)) = true := by simp; omega
    go_enter Try.func64, Try.ntmps64
    go_wp2_with fail
    go_ret
    exact ⟨ret_bool E.out.symm, Below.refl _ _⟩
  have d0 : decide ((120 : Int) < (len : Int)) = false := by simp; omega
  go_enter Try.func64, Try.ntmps64
  go_wp2
  go_loopw [10] (fun i wr => ∃ k : Nat, k ≤ len ∧ i = .int .i64 k ∧ Below w.heap.size w wr ∧ Hid (OkT ts k)) (fun i _ => len - (intOf i).toNat)
  case atStart => exact ⟨0, Nat.zero_le _, rfl, Below.refl _ _, Lib.hid (fun j h => absurd h (by omega))⟩
  case round =>
    obtain ⟨k, hk, rfl, hb, ho⟩ := hrel
    by_cases hlt : k < len
    · obtain ⟨b, off, r, rfl, hB, hr, c0, c1⟩ := (hR.below hb (Nat.le_refl _)).tot hlt
      have Hr := Lib.hid hr
      have hro := TotV.Ok.of hok hr
      clear hr
      obtain ⟨key, n⟩ := r
      obtain ⟨hkk, _⟩ := hro
      have hB2 : b < wr.heap.size := Nat.lt_of_lt_of_le hB hb.size
      simp only at c0 c1 hkk
      have hba := bl1 wr (.cells #[.string key, .int .i64 n] 149)
      have b1 := hb.trans (hba.mono hb.size)
      have G := fun d os => tot_cells wr key n 149 d os
      have g0 := fun d os => (G d os).1
      have g1 := fun d os => (G d os).2
      clear G
      cases hq : totOkB key n
      case false =>
        have E := Lib.hid (totsOk_no (k := k) (by rw [hl.out]; exact hlt) (okAt_bad Hr.out hq))
        have CT := fun w => totalOk_b key n false w hkk hq
        clear hq
        go_wp2_with fail
        generalize hwg : wr.alloc (.cells #[.string key, .int .i64 n] 149) = w1 at *
        clear hwg
        have cT := fun d os => Calls.regrown_of (w := w1) (d := d) (os := os) (CT _)
        clear CT
        refine wp_region_wq (by kernel_rfl) (by kernel_rfl) ?_
        repeat (refine WQ.step (fun K hK => ?_); go_simp; first | (refine hK _ ?_; clear hK K) | (apply Exists.intro; refine ⟨fun _ => ?_, hK _ ?_⟩; (exact cT _ _); clear hK K))
        refine WQ.nil ?_
        intro _ hw'
        obtain ⟨⟨dq, osq⟩, hw''⟩ := hw'
        subst hw''
        have b9 := b1.trans ((below_regrown w1 dq osq).mono b1.size)
        generalize Go.Sort.grow (redrawn w1 dq) osq = w2 at *
        go_wp2_with fail
        go_ret
        exact ⟨ret_bool E.out.symm, b9⟩
      have HT := Lib.hid hq
      have CT := fun w => totalOk_b key n true w hkk hq
      clear hq
      rcases Nat.eq_zero_or_pos k with rfl | hk0
      · have O : Hid (OkT ts 1) := Lib.hid (ho.out.succ (okAt_first Hr.out HT.out))
        simp only [Nat.zero_mul, Nat.add_zero] at c0 c1
        go_wp2_with fail
        generalize hwg : wr.alloc (.cells #[.string key, .int .i64 n] 149) = w1 at *
        clear hwg
        have cT := fun d os => Calls.regrown_of (w := w1) (d := d) (os := os) (CT _)
        clear CT
        refine wp_region_wq (by kernel_rfl) (by kernel_rfl) ?_
        repeat (refine WQ.step (fun K hK => ?_); go_simp; first | (refine hK _ ?_; clear hK K) | (apply Exists.intro; refine ⟨fun _ => ?_, hK _ ?_⟩; (exact cT _ _); clear hK K))
        refine WQ.nil ?_
        intro _ hw'
        obtain ⟨⟨dq, osq⟩, hw''⟩ := hw'
        subst hw''
        have b9 := b1.trans ((below_regrown w1 dq osq).mono b1.size)
        generalize Go.Sort.grow (redrawn w1 dq) osq = w2 at *
        go_wp2_with fail
        go_roundw
        case rel => exact ⟨1, by omega, rfl, b9, O⟩
        case measure => simp [intOf]; omega
      obtain ⟨q, hq2, hq1⟩ : ∃ q : Nat, (q < k ∧ k < q + 2) ∧ IntKind.i64.wrap ((k : Int) - 1) = (q : Int) := ⟨k - 1, by omega, by rw [IntWalk.i64_in _ (by omega)]; omega⟩
      obtain ⟨b', off', r1, e', _, hr1, p0, _⟩ := (hR.below hb (Nat.le_refl _)).tot (show q < len by omega)
      obtain ⟨rfl, rfl⟩ : b = b' ∧ off = off' := by injection e' with e1; injection e1 with e2 e3; exact ⟨e2, e3⟩
      have Hr1 := Lib.hid hr1
      clear hr1 e'
      obtain ⟨key1, n1⟩ := r1
      simp only at p0
      have hkq := Lib.hid (show k - 1 = q by omega)
      have Hk := Lib.hid (okAt_next (k := k) hk0 (by rw [hkq.out]; exact Hr1.out) Hr.out HT.out)
      have g2 := fun d os => cell_regrown ((hba.cell (p := ⟨b, off + q * 2, none⟩) hB2).trans p0) d os
      have q1 : (q : Int) < (len : Int) := by omega
      have q2 : (0 : Int) ≤ (q : Int) := by omega
      have k1 : (0 : Int) < (k : Int) := by omega
      cases hd : Op.bytesLess key1.toList key.toList
      case false =>
        have E := Lib.hid (totsOk_no (k := k) (by rw [hl.out]; exact hlt) (Hk.out.trans hd))
        go_wp2_with fail
        generalize hwg : wr.alloc (.cells #[.string key, .int .i64 n] 149) = w1 at *
        clear hwg
        have cT := fun d os => Calls.regrown_of (w := w1) (d := d) (os := os) (CT _)
        clear CT
        refine wp_region_wq (by kernel_rfl) (by kernel_rfl) ?_
        repeat (refine WQ.step (fun K hK => ?_); go_simp; first | (refine hK _ ?_; clear hK K) | (apply Exists.intro; refine ⟨fun _ => ?_, hK _ ?_⟩; (exact cT _ _); clear hK K))
        refine WQ.nil ?_
        intro _ hw'
        obtain ⟨⟨dq, osq⟩, hw''⟩ := hw'
        subst hw''
        have b9 := b1.trans ((below_regrown w1 dq osq).mono b1.size)
        generalize Go.Sort.grow (redrawn w1 dq) osq = w2 at *
        go_wp2_with fail
        go_ret
        exact ⟨ret_bool E.out.symm, b9⟩
      have O : Hid (OkT ts (k + 1)) := Lib.hid (ho.out.succ (Hk.out.trans hd))
      go_wp2_with fail
      generalize hwg : wr.alloc (.cells #[.string key, .int .i64 n] 149) = w1 at *
      clear hwg
      have cT := fun d os => Calls.regrown_of (w := w1) (d := d) (os := os) (CT _)
      clear CT
      refine wp_region_wq (by kernel_rfl) (by kernel_rfl) ?_
      repeat (refine WQ.step (fun K hK => ?_); go_simp; first | (refine hK _ ?_; clear hK K) | (apply Exists.intro; refine ⟨fun _ => ?_, hK _ ?_⟩; (exact cT _ _); clear hK K))
      refine WQ.nil ?_
      intro _ hw'
      obtain ⟨⟨dq, osq⟩, hw''⟩ := hw'
      subst hw''
      have b9 := b1.trans ((below_regrown w1 dq osq).mono b1.size)
      generalize Go.Sort.grow (redrawn w1 dq) osq = w2 at *
      go_wp2_with fail
      go_roundw
      case rel => exact ⟨k + 1, by omega, by go_num, b9, O⟩
      case measure => simp [intOf]; omega
    · have E := Lib.hid (show totsOk ts = true by rw [totsOk_all ho.out (by rw [hl.out]; omega), hl.out]; simp; omega)
      go_wp2_with fail
      go_ret
      exact ⟨ret_bool E.out.symm, hb⟩
end Go.Proofs.Ytpnbbedfbglekaa
