/-
  impl.cutsOk, spec.l2Cuts, impl.RangeOf and spec.RangeOf by their contracts. Conditions: those of each statement.
-/
import Derived.Test.YtgkjpkkdcgndcaaCutsFns
namespace Go.Proofs.Ytgkjpkkdcgndcaa
open Go.RowKit
set_option maxRecDepth 100000 in
set_option maxHeartbeats 1000000 in
theorem cutsOk_any (a : Option Addr) (n cap : Nat) (ss : List ByteArray) (w : World) (hm : n ≤ 1048576) (hS : MaxS ss) (hR : Rd w w.heap.size 1 a n (strC ss)) :
    Calls Try.prog 77 #[.slice a n cap] w fun e w' => e = .returned (.bool (cutsB ss)) ∧ w = w' := by
  have hl := Lib.hid hR.strs_length
  by_cases h8 : n < 8
  case neg =>
    have E := Lib.hid (show cutsB ss = false from cutsB_long (by rw [hl.out]; exact h8))
    go_enter Try.func77, Try.ntmps77
    go_wp2
    go_ret
    exact ⟨ret_bool E.out.symm, rfl⟩
  have hd8 : decide ((8 : Int) ≤ (n : Int)) = false := by simp; omega
  go_enter Try.func77, Try.ntmps77
  go_wp2
  go_loop [10] (fun i => ∃ k : Nat, k ≤ n ∧ i = .int .i64 k ∧ CutTo ss k) (fun i => n - (intOf i).toNat)
  case atStart => exact ⟨0, Nat.zero_le _, rfl, CutTo.zero _⟩
  case round =>
    obtain ⟨k, hk, rfl, hT⟩ := hrel
    by_cases hlt : k < n
    · obtain ⟨b, off, s, rfl, hB, hs, c0⟩ := hR.str hlt
      have Hs := Lib.hid hs
      have hsm := hS.at_ hs
      clear hs
      unfold maxLen at hsm
      by_cases h12 : s.size ≤ 12
      case neg =>
        have E := Lib.hid (show cutsB ss = false from cutsB_no (k := k) (by rw [hl.out]; exact hlt) (badAt_long Hs.out h12))
        have hd : decide ((s.size : Int) ≤ 12) = false := by simp; omega
        go_wp2
        go_ret
        exact ⟨ret_bool E.out.symm, rfl⟩
      have hd : decide ((s.size : Int) ≤ 12) = true := by simp; omega
      rcases k with _ | k
      · have T := hT.succ (badAt_zero Hs.out h12)
        simp only [Nat.add_zero] at c0
        go_wp2
        go_round
        case rel => exact ⟨1, by omega, by go_num, T⟩
        case measure => simp [intOf]; omega
      · obtain ⟨b', off', p, e', hB', hp, c1⟩ := hR.str (k := k) (by omega)
        obtain ⟨rfl, rfl⟩ : b = b' ∧ off = off' := by simpa using e'
        have Hp := Lib.hid hp
        clear hp e'
        have hpos : decide (0 < (k + 1)) = true := by simp
        cases hle : Op.bytesLess p.toList s.toList
        case false =>
          have E := Lib.hid (show cutsB ss = false from cutsB_no (k := k + 1) (by rw [hl.out]; exact hlt) (by rw [badAt_succ Hp.out Hs.out h12, hle]; rfl))
          go_wp2
          go_ret
          exact ⟨ret_bool E.out.symm, rfl⟩
        have T := hT.succ (show badAt ss (k + 1) = false by rw [badAt_succ Hp.out Hs.out h12, hle]; rfl)
        go_wp2
        go_round
        case rel => exact ⟨k + 1 + 1, by omega, by go_num, T⟩
        case measure => simp [intOf]; omega
    · have E := Lib.hid (show cutsB ss = true by rw [cutsB_all hT (by rw [hl.out]; omega), hl.out]; simpa using h8)
      go_wp2
      go_ret
      exact ⟨ret_bool E.out.symm, rfl⟩
set_option maxRecDepth 100000 in
set_option maxHeartbeats 1000000 in
theorem l2Cuts_any (a : Option Addr) (n cap : Nat) (ss : List ByteArray) (w : World) (hm : n ≤ 1048576) (hS : MaxS ss) (hR : Rd w w.heap.size 1 a n (strC ss)) :
    Calls Try.prog 83 #[.slice a n cap] w fun e w' => e = .returned (.bool (cutsB ss)) ∧ Below w.heap.size w w' := by
  have hl := Lib.hid hR.strs_length
  go_enter Try.func83, Try.ntmps83
  go_wp2
  go_loopw [3] (fun i wr => ∃ k : Nat, k ≤ n ∧ i = .int .i64 k ∧ CutTo ss k ∧ Below w.heap.size w wr) (fun i _ => n - (intOf i).toNat)
  case atStart => exact ⟨0, Nat.zero_le _, rfl, CutTo.zero _, Below.refl _ _⟩
  case round =>
    obtain ⟨k, hk, rfl, hT, hb⟩ := hrel
    have hRr := hR.below hb (Nat.le_refl _)
    by_cases hlt : k < n
    · obtain ⟨b, off, s, rfl, hB, hs, c0⟩ := hRr.str hlt
      have Hs := Lib.hid hs
      have hsm := hS.at_ hs
      clear hs
      unfold maxLen at hsm
      by_cases h12 : s.size ≤ 12
      case neg =>
        have E := Lib.hid (show cutsB ss = false from cutsB_no (k := k) (by rw [hl.out]; exact hlt) (badAt_long Hs.out h12))
        have hd : decide ((12 : Int) < (s.size : Int)) = true := by simp; omega
        go_wp2_with fail
        go_quiet (fail)
        go_wp2
        go_ret
        exact ⟨ret_bool E.out.symm, below_drewN hb _⟩
      have hd : decide ((12 : Int) < (s.size : Int)) = false := by simp; omega
      rcases k with _ | k
      · have T := hT.succ (badAt_zero Hs.out h12)
        simp only [Nat.add_zero] at c0
        go_wp2_with fail
        go_quiet (fail)
        go_wp2
        go_roundw
        case rel => exact ⟨1, by omega, by go_num, T, below_drewN hb _⟩
        case measure => simp [intOf]; omega
      · obtain ⟨b', off', p, e', hB', hp, c1⟩ := hRr.str (k := k) (by omega)
        obtain ⟨rfl, rfl⟩ : b = b' ∧ off = off' := by simpa using e'
        have Hp := Lib.hid hp
        clear hp e'
        cases hle : Op.bytesLess p.toList s.toList
        case false =>
          have E := Lib.hid (show cutsB ss = false from cutsB_no (k := k + 1) (by rw [hl.out]; exact hlt) (by rw [badAt_succ Hp.out Hs.out h12, hle]; rfl))
          go_wp2_with fail
          go_quiet (fail)
          go_wp2
          go_ret
          exact ⟨ret_bool E.out.symm, below_drewN hb _⟩
        have T := hT.succ (show badAt ss (k + 1) = false by rw [badAt_succ Hp.out Hs.out h12, hle]; rfl)
        go_wp2_with fail
        go_quiet (fail)
        go_wp2
        go_roundw
        case rel => exact ⟨k + 1 + 1, by omega, by go_num, T, below_drewN hb _⟩
        case measure => simp [intOf]; omega
    · have E := Lib.hid (show cutsB ss = decide (n < 8) by rw [cutsB_all hT (by rw [hl.out]; omega), hl.out])
      go_wp2_with fail
      go_ret
      exact ⟨ret_bool (by rw [E.out, decide_eq_decide]; omega), hb⟩
theorem cutsOk_b (a : Option Addr) (n cap : Nat) (ss : List ByteArray) (b : Bool) (w : World) (hm : n ≤ 1048576) (hS : MaxS ss) (hR : Rd w w.heap.size 1 a n (strC ss)) (h : cutsB ss = b) :
    Calls Try.prog 77 #[.slice a n cap] w fun e w' => e = .returned (.bool b) ∧ Below w.heap.size w w' := h ▸ (cutsOk_any a n cap ss w hm hS hR).mono fun _ _ ⟨he, hw⟩ => ⟨he, hw ▸ Below.refl _ _⟩
theorem l2Cuts_b (a : Option Addr) (n cap : Nat) (ss : List ByteArray) (b : Bool) (w : World) (hm : n ≤ 1048576) (hS : MaxS ss) (hR : Rd w w.heap.size 1 a n (strC ss)) (h : cutsB ss = b) :
    Calls Try.prog 83 #[.slice a n cap] w fun e w' => e = .returned (.bool b) ∧ Below w.heap.size w w' := h ▸ l2Cuts_any a n cap ss w hm hS hR
theorem implRangeOf_any (a : Option Addr) (n cap : Nat) (ss : List ByteArray) (key : ByteArray) (w : World) (hm : n ≤ 1048576) (hS : MaxS ss) (hk : key.size ≤ maxLen) (hR : Rd w w.heap.size 1 a n (strC ss)) :
    Calls Try.prog 20 #[.slice a n cap, .string key] w fun e w' => e = .returned (.int .i64 (rangeOf ss key)) ∧ Below w.heap.size w w' := by
  unfold maxLen at hk
  cases hc : cutsB ss
  case false =>
    have E := Lib.hid (show rangeOf ss key = -1 by simp [rangeOf, hc])
    have hc' := Lib.hid hc
    clear hc
    go_enter Try.func20, Try.ntmps20
    go_wp2_with fail
    refine (cutsOk_b a n cap ss false _ hm hS hR hc'.out).mono ?_
    rintro e w1 ⟨rfl, hb1⟩
    go_wp2_with fail
    go_ret
    exact ⟨ret_int E.out.symm, hb1⟩
  have hc' := Lib.hid hc
  by_cases h12 : key.size ≤ 12
  case neg =>
    have E := Lib.hid (show rangeOf ss key = -1 by simp [rangeOf, h12])
    have hd : decide ((key.size : Int) ≤ 12) = false := by simp; omega
    clear hc
    go_enter Try.func20, Try.ntmps20
    go_wp2_with fail
    refine (cutsOk_b a n cap ss true _ hm hS hR hc'.out).mono ?_
    rintro e w1 ⟨rfl, hb1⟩
    go_wp2_with go_in
    go_ret
    exact ⟨ret_int E.out.symm, hb1⟩
  have E := Lib.hid (show rangeOf ss key = rangeN ss key by simp [rangeOf, hc, h12])
  have hd : decide ((key.size : Int) ≤ 12) = true := by simp; omega
  clear hc
  go_enter Try.func20, Try.ntmps20
  go_wp2_with fail
  refine (cutsOk_b a n cap ss true _ hm hS hR hc'.out).mono ?_
  rintro e w1 ⟨rfl, hb1⟩
  have R1 := (hR.below hb1 (Nat.le_refl _)).more hb1.size
  go_wp2_with (go_at_call 87; go_in)
  refine (cutsUpTo_any a n cap ss key _ hm R1).mono ?_
  rintro e w2 ⟨rfl, rfl⟩
  go_wp2_with fail
  go_ret
  exact ⟨ret_int E.out.symm, hb1⟩
theorem specRangeOf_any (a : Option Addr) (n cap : Nat) (ss : List ByteArray) (key : ByteArray) (w : World) (hm : n ≤ 1048576) (hS : MaxS ss) (hk : key.size ≤ maxLen) (hR : Rd w w.heap.size 1 a n (strC ss)) :
    Calls Try.prog 21 #[.slice a n cap, .string key] w fun e w' => e = .returned (.int .i64 (rangeOf ss key)) ∧ Below w.heap.size w w' := by
  unfold maxLen at hk
  cases hc : cutsB ss
  case false =>
    have E := Lib.hid (show rangeOf ss key = -1 by simp [rangeOf, hc])
    have hc' := Lib.hid hc
    clear hc
    go_enter Try.func21, Try.ntmps21
    go_wp2_with fail
    refine (l2Cuts_b a n cap ss false _ hm hS hR hc'.out).mono ?_
    rintro e w1 ⟨rfl, hb1⟩
    go_wp2_with fail
    go_ret
    exact ⟨ret_int E.out.symm, hb1⟩
  have hc' := Lib.hid hc
  by_cases h12 : key.size ≤ 12
  case neg =>
    have E := Lib.hid (show rangeOf ss key = -1 by simp [rangeOf, h12])
    have hd : decide ((key.size : Int) ≤ 12) = false := by simp; omega
    clear hc
    go_enter Try.func21, Try.ntmps21
    go_wp2_with fail
    refine (l2Cuts_b a n cap ss true _ hm hS hR hc'.out).mono ?_
    rintro e w1 ⟨rfl, hb1⟩
    go_wp2_with go_in
    go_ret
    exact ⟨ret_int E.out.symm, hb1⟩
  have E := Lib.hid (show rangeOf ss key = rangeN ss key by simp [rangeOf, hc, h12])
  have hd : decide ((key.size : Int) ≤ 12) = true := by simp; omega
  clear hc
  go_enter Try.func21, Try.ntmps21
  go_wp2_with fail
  refine (l2Cuts_b a n cap ss true _ hm hS hR hc'.out).mono ?_
  rintro e w1 ⟨rfl, hb1⟩
  have R1 := (hR.below hb1 (Nat.le_refl _)).more hb1.size
  go_wp2_with fail
  refine (l2Range_any a n cap ss key _ hc'.out R1).mono ?_
  rintro e w2 ⟨rfl, rfl⟩
  go_wp2_with fail
  go_ret
  exact ⟨ret_int E.out.symm, hb1⟩
end Go.Proofs.Ytgkjpkkdcgndcaa
