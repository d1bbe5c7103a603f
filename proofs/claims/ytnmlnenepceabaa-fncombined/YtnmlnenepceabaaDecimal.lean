/-
  impl.decimalOf and impl.NumberOf by their contracts: the number of which a text is the decimal form, of at most so many digits, and whether it is one. Conditions: those of each statement.
-/
import Derived.Test.YtnmlnenepceabaaNumberOf
namespace Go.Proofs.Ytnmlnenepceabaa
open Go.RowKit
theorem tens_le' : ∀ k, k ≤ 16 → tens k ≤ 10000000000000000 := by decide
theorem numTo_bd' (s : ByteArray) (k : Nat) (hk : k ≤ 16) (h : allTo s k = true) : 0 ≤ numTo s k ∧ numTo s k < 10000000000000000 := by
  have b := numL_bd _ _ rfl h
  have hl : (s.data.toList.take k).length ≤ k := by simp; omega
  have : tens (s.data.toList.take k).length ≤ 10000000000000000 := tens_le' _ (by omega)
  unfold numTo
  omega
/-- Is the text the decimal form of a number, of at most m digits? -/
def decOk (m : Nat) (s : ByteArray) : Bool := decide (0 < s.size) && decide (s.size ≤ m) && !(decide (1 < s.size) && decide (s.data.toList.head? = some 48)) && s.data.toList.all isDig
def decN (m : Nat) (s : ByteArray) : Int := if decOk m s = true then numL s.data.toList else 0
theorem decN_no {m : Nat} {s : ByteArray} (h : decOk m s = false) : decN m s = 0 := if_neg (by rw [h]; decide)
theorem decOk_bad {m : Nat} {s : ByteArray} {k : Nat} (hk : k < s.size) (h : isDig s[k] = false) : decOk m s = false := by
  have : s.data.toList.all isDig = false := by
    rw [Bool.eq_false_iff]
    intro ha
    have := List.all_eq_true.1 ha s[k] (List.getElem_mem (l := s.data.toList) (n := k) (by simpa using hk))
    rw [h] at this; cases this
  unfold decOk
  rw [this, Bool.and_false]
theorem decOk_all {m : Nat} {s : ByteArray} {k : Nat} (h0 : 0 < s.size) (hm : s.size ≤ m) (hz : s.size ≤ 1 ∨ s.data.toList.head? ≠ some 48) (hk : s.size ≤ k) (h : allTo s k = true) : decOk m s = true ∧ decN m s = numTo s k := by
  have e : decOk m s = true := by
    unfold allTo at h
    rw [take_all s k hk] at h
    unfold decOk
    rw [h, Bool.and_true, decide_eq_true h0, decide_eq_true hm, Bool.true_and, Bool.true_and]
    rcases hz with hz | hz
    · rw [decide_eq_false (show ¬ 1 < s.size by omega)]; rfl
    · rw [decide_eq_false hz, Bool.and_false]; rfl
  refine ⟨e, ?_⟩
  unfold decN numTo
  rw [if_pos e, take_all s k hk]
theorem decOk_zero {m : Nat} {s : ByteArray} (h : 1 < s.size) (h0 : s[0] = 48) : decOk m s = false := by
  unfold decOk
  rw [decide_eq_true h, head_eq (by omega), h0]
  simp
theorem decOk_long {m : Nat} {s : ByteArray} (h : m < s.size) : decOk m s = false := by
  unfold decOk
  rw [decide_eq_false (show ¬ s.size ≤ m by omega)]
  simp
theorem decOk_empty {m : Nat} {s : ByteArray} (h : s.size = 0) : decOk m s = false := by
  unfold decOk
  rw [decide_eq_false (show ¬ 0 < s.size by omega)]
  simp
theorem decN_nine (s : ByteArray) : decN 9 s = numOf s := by
  unfold decN numOf
  by_cases h0 : s.size = 0
  · rw [decOk_empty h0, if_neg (by decide)]
    have : s.data.toList = [] := List.eq_nil_of_length_eq_zero (by simpa using h0)
    rw [this]
    split
    · rfl
    · simp [numL]
  · have e : decOk 9 s = (!noForm s && s.data.toList.all isDig) := by
      unfold decOk noForm
      rw [decide_eq_true (show 0 < s.size by omega), Bool.true_and]
      by_cases h9 : s.size ≤ 9
      · rw [decide_eq_true h9, decide_eq_false (show ¬ 9 < s.size by omega), Bool.true_and, Bool.false_or]
      · rw [decide_eq_false h9, decide_eq_true (show 9 < s.size by omega)]; simp
    rw [e]
    cases noForm s <;> cases s.data.toList.all isDig <;> simp

set_option maxRecDepth 100000 in
set_option maxHeartbeats 1000000 in
theorem decimalOf_any (s : ByteArray) (m : Nat) (w : World) (hs : s.size ≤ maxLen) (hm : m ≤ 16) :
    Calls Try.prog 74 #[.string s, .int .i64 m] w fun e w' => e = .returned (.tuple #[.int .i64 (decN m s), .bool (decOk m s)]) ∧ w = w' := by
  unfold maxLen at hs
  by_cases hz : s.size = 0
  · have E := Lib.hid (decOk_empty (m := m) hz)
    have hne : s.toList.isEmpty = true := by rw [ByteArray.toList_eq, List.isEmpty_iff]; exact List.eq_nil_of_length_eq_zero (by simpa using hz)
    go_enter Try.func74, Try.ntmps74
    go_wp2
    go_ret2
    exact ⟨by rw [decN_no E.out, E.out]; rfl, rfl⟩
  have hne : s.toList.isEmpty = false := by
    rw [ByteArray.toList_eq, List.isEmpty_eq_false_iff]
    intro h
    have : s.data.toList.length = 0 := by rw [h]; rfl
    exact hz (by simpa using this)
  by_cases hm1 : s.size ≤ m
  case neg =>
    have E := Lib.hid (decOk_long (m := m) (s := s) (by omega))
    have hd : decide ((m : Int) < (s.size : Int)) = true := by simp; omega
    go_enter Try.func74, Try.ntmps74
    go_wp2
    go_ret2
    exact ⟨by rw [decN_no E.out, E.out]; rfl, rfl⟩
  have hd : decide ((m : Int) < (s.size : Int)) = false := by simp; omega
  by_cases h1 : 1 < s.size
  · have hd1 : decide ((1 : Int) < (s.size : Int)) = true := by simp; omega
    by_cases h0 : s[0] = 48
    · have E := Lib.hid (decOk_zero (m := m) h1 h0)
      have hc : ((s[0].toNat : Int) == 48) = true := by rw [h0]; rfl
      go_enter Try.func74, Try.ntmps74
      go_wp2
      go_ret2
      exact ⟨by rw [decN_no E.out, E.out]; rfl, rfl⟩
    have HZ : Hid (s.size ≤ 1 ∨ s.data.toList.head? ≠ some 48) := Lib.hid (.inr (by rw [head_eq (by omega)]; simpa using h0))
    have hc : ((s[0].toNat : Int) == 48) = false := by
      rw [beq_eq_false_iff_ne]
      intro h
      exact h0 (UInt8.toNat_inj.1 (by simpa using (show s[0].toNat = 48 by omega)))
    go_enter Try.func74, Try.ntmps74
    go_wp2
    generalize s[0].toNat = c0 at *
    go_loop [6, 28] (fun n i => ∃ k : Nat, k ≤ s.size ∧ i = .int .i64 k ∧ n = .int .i64 (numTo s k) ∧ Hid (allTo s k = true)) (fun _ i => s.size - (intOf i).toNat)
    case atStart => exact ⟨0, Nat.zero_le _, rfl, rfl, Lib.hid (by simp [allTo])⟩
    case round =>
      obtain ⟨k, hk, rfl, rfl, Ha⟩ := hrel
      by_cases hlt : k < s.size
      · have hz := numTo_bd' s k (by omega) Ha.out
        have hz' := Lib.hid (numTo_succ s k hlt)
        have ha' := Lib.hid (allTo_succ s k hlt)
        generalize numTo s k = z at hz hz' ⊢
        obtain ⟨hz0, hz1⟩ := hz
        by_cases hc1 : s[k].toNat < 48
        · have E := Lib.hid (decOk_bad (m := m) hlt (by simp [isDig]; omega))
          have d1 : decide ((s[k].toNat : Int) < 48) = true := by simp; omega
          go_wp2
          go_ret2
          exact ⟨by rw [decN_no E.out, E.out]; rfl, rfl⟩
        by_cases hc2 : 57 < s[k].toNat
        · have E := Lib.hid (decOk_bad (m := m) hlt (by simp [isDig]; omega))
          have d1 : decide ((s[k].toNat : Int) < 48) = false := by simp; omega
          have d2 : decide ((57 : Int) < (s[k].toNat : Int)) = true := by simp; omega
          go_wp2
          go_ret2
          exact ⟨by rw [decN_no E.out, E.out]; rfl, rfl⟩
        have d1 : decide ((s[k].toNat : Int) < 48) = false := by simp; omega
        have d2 : decide ((57 : Int) < (s[k].toNat : Int)) = false := by simp; omega
        have A' : Hid (allTo s (k + 1) = true) := Lib.hid (by rw [ha'.out, Ha.out]; simp [isDig]; omega)
        go_wp2
        go_round
        case rel => exact ⟨k + 1, by omega, by go_num, by rw [hz'.out]; go_num, A'⟩
        case measure => simp [intOf]; omega
      · have E := Lib.hid (decOk_all (m := m) (by omega) hm1 HZ.out (show s.size ≤ k by omega) Ha.out)
        generalize numTo s k = z at E ⊢
        go_wp2
        go_ret2
        exact ⟨by rw [E.out.2, E.out.1]; rfl, rfl⟩
  have HZ : Hid (s.size ≤ 1 ∨ s.data.toList.head? ≠ some 48) := Lib.hid (.inl (by omega))
  have hd1 : decide ((1 : Int) < (s.size : Int)) = false := by simp; omega
  go_enter Try.func74, Try.ntmps74
  go_wp2
  go_loop [6, 28] (fun n i => ∃ k : Nat, k ≤ s.size ∧ i = .int .i64 k ∧ n = .int .i64 (numTo s k) ∧ Hid (allTo s k = true)) (fun _ i => s.size - (intOf i).toNat)
  case atStart => exact ⟨0, Nat.zero_le _, rfl, rfl, Lib.hid (by simp [allTo])⟩
  case round =>
    obtain ⟨k, hk, rfl, rfl, Ha⟩ := hrel
    by_cases hlt : k < s.size
    · have hz := numTo_bd' s k (by omega) Ha.out
      have hz' := Lib.hid (numTo_succ s k hlt)
      have ha' := Lib.hid (allTo_succ s k hlt)
      generalize numTo s k = z at hz hz' ⊢
      obtain ⟨hz0, hz1⟩ := hz
      by_cases hc1 : s[k].toNat < 48
      · have E := Lib.hid (decOk_bad (m := m) hlt (by simp [isDig]; omega))
        have d1 : decide ((s[k].toNat : Int) < 48) = true := by simp; omega
        go_wp2
        go_ret2
        exact ⟨by rw [decN_no E.out, E.out]; rfl, rfl⟩
      by_cases hc2 : 57 < s[k].toNat
      · have E := Lib.hid (decOk_bad (m := m) hlt (by simp [isDig]; omega))
        have d1 : decide ((s[k].toNat : Int) < 48) = false := by simp; omega
        have d2 : decide ((57 : Int) < (s[k].toNat : Int)) = true := by simp; omega
        go_wp2
        go_ret2
        exact ⟨by rw [decN_no E.out, E.out]; rfl, rfl⟩
      have d1 : decide ((s[k].toNat : Int) < 48) = false := by simp; omega
      have d2 : decide ((57 : Int) < (s[k].toNat : Int)) = false := by simp; omega
      have A' : Hid (allTo s (k + 1) = true) := Lib.hid (by rw [ha'.out, Ha.out]; simp [isDig]; omega)
      go_wp2
      go_round
      case rel => exact ⟨k + 1, by omega, by go_num, by rw [hz'.out]; go_num, A'⟩
      case measure => simp [intOf]; omega
    · have E := Lib.hid (decOk_all (m := m) (by omega) hm1 HZ.out (show s.size ≤ k by omega) Ha.out)
      generalize numTo s k = z at E ⊢
      go_wp2
      go_ret2
      exact ⟨by rw [E.out.2, E.out.1]; rfl, rfl⟩
set_option maxRecDepth 100000 in
set_option maxHeartbeats 1000000 in
theorem implNumberOf_any (s : ByteArray) (w : World) (hs : s.size ≤ maxLen) :
    Calls Try.prog 29 #[.string s] w fun e w' => e = .returned (.int .i64 (numOf s)) ∧ w = w' := by
  have E := Lib.hid (decN_nine s)
  have C := decimalOf_any s 9 w hs (by omega)
  generalize decOk 9 s = q at C
  generalize decN 9 s = n at *
  go_enter Try.func29, Try.ntmps29
  go_wp2_with fail
  refine C.mono ?_
  rintro e w1 ⟨rfl, rfl⟩
  go_wp2_with fail
  go_ret
  exact ⟨ret_int E.out, rfl⟩
end Go.Proofs.Ytnmlnenepceabaa
