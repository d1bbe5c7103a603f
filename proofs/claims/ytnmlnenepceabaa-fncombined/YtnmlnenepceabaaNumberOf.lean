/-
  spec.NumberOf by its contract: it returns the number of which a text is the decimal form, of at most nine digits, or 0. Condition: the text has at most maxLen bytes.
-/
import Derived.Test.YtnmlnenepceabaaHash
import Derived.Test.YtnmlnenepceabaaRowOk
namespace Go.Proofs.Ytnmlnenepceabaa
open Go.RowKit

def isDig (c : UInt8) : Bool := decide (48 ≤ c.toNat ∧ c.toNat ≤ 57)
def nstep (n : Int) (c : UInt8) : Int := 10 * n + ((c.toNat : Int) - 48)
/-- The number that digits spell. -/
def numL (l : List UInt8) : Int := l.foldl nstep 0
theorem numL_snoc (l : List UInt8) (c : UInt8) : numL (l ++ [c]) = 10 * numL l + ((c.toNat : Int) - 48) := by simp [numL, nstep]
/-- The numbers of k digits are less than this. -/
def tens : Nat → Int
  | 0 => 1
  | k + 1 => 10 * tens k
theorem tens_le : ∀ k, k ≤ 8 → tens k ≤ 100000000 := by decide
theorem numL_bd : ∀ (k : Nat) (l : List UInt8), l.length = k → l.all isDig = true → 0 ≤ numL l ∧ numL l + 1 ≤ tens k
  | 0, l, hl, _ => by
    obtain rfl := List.length_eq_zero_iff.1 hl
    simp [numL, tens]
  | k + 1, l, hl, h => by
    rcases List.eq_nil_or_concat l with rfl | ⟨l', c, rfl⟩
    · simp at hl
    · rw [List.concat_eq_append] at h hl ⊢
      rw [List.all_append, Bool.and_eq_true] at h
      obtain ⟨h1, h2⟩ := h
      have i := numL_bd k l' (by simpa using hl) h1
      have hc : 48 ≤ c.toNat ∧ c.toNat ≤ 57 := by simpa [isDig] using h2
      rw [numL_snoc, tens]
      omega
def allTo (s : ByteArray) (k : Nat) : Bool := (s.data.toList.take k).all isDig
def numTo (s : ByteArray) (k : Nat) : Int := numL (s.data.toList.take k)
theorem allTo_succ (s : ByteArray) (k : Nat) (h : k < s.size) : allTo s (k + 1) = (allTo s k && isDig s[k]) := by
  unfold allTo; rw [take_snoc s k h, List.all_append]; simp
theorem numTo_succ (s : ByteArray) (k : Nat) (h : k < s.size) : numTo s (k + 1) = 10 * numTo s k + ((s[k].toNat : Int) - 48) := by
  unfold numTo; rw [take_snoc s k h, numL_snoc]
theorem numTo_bd (s : ByteArray) (k : Nat) (hk : k ≤ 8) (h : allTo s k = true) : 0 ≤ numTo s k ∧ numTo s k < 100000000 := by
  have b := numL_bd _ _ rfl h
  have hl : (s.data.toList.take k).length ≤ k := by simp; omega
  have : tens (s.data.toList.take k).length ≤ 100000000 := tens_le _ (by omega)
  unfold numTo
  omega
/-- The digits are no form of a number: too many, or a nought ahead. -/
def noForm (s : ByteArray) : Bool := decide (9 < s.size) || (decide (1 < s.size) && decide (s.data.toList.head? = some 48))
def numOf (s : ByteArray) : Int := if noForm s = true then 0 else if s.data.toList.all isDig = true then numL s.data.toList else 0
theorem numOf_no {s : ByteArray} (h : noForm s = true) : numOf s = 0 := if_pos h
theorem numOf_bad {s : ByteArray} {k : Nat} (hk : k < s.size) (h : isDig s[k] = false) : numOf s = 0 := by
  unfold numOf
  split
  · rfl
  · have : s.data.toList.all isDig = false := by
      rw [Bool.eq_false_iff]
      intro ha
      have := List.all_eq_true.1 ha s[k] (List.getElem_mem (l := s.data.toList) (n := k) (by simpa using hk))
      rw [h] at this; cases this
    rw [if_neg (by rw [this]; decide)]
theorem numOf_all {s : ByteArray} {k : Nat} (hn : noForm s = false) (hk : s.size ≤ k) (h : allTo s k = true) : numOf s = numTo s k := by
  unfold allTo at h
  unfold numOf numTo
  rw [take_all s k hk] at h ⊢
  rw [if_neg (by rw [hn]; decide), if_pos h]
theorem head_eq {s : ByteArray} (h : 0 < s.size) : s.data.toList.head? = some s[0] := by
  rw [List.head?_eq_getElem?, List.getElem?_eq_getElem (by simpa using h)]; rfl
theorem noForm_zero {s : ByteArray} (h : 1 < s.size) (h0 : s[0] = 48) : noForm s = true := by
  unfold noForm; rw [head_eq (by omega), h0]; simp [h]
theorem noForm_form {s : ByteArray} (h9 : s.size ≤ 9) (h1 : 1 < s.size) (h0 : s[0] ≠ 48) : noForm s = false := by
  unfold noForm; rw [head_eq (by omega)]; simp [h0]; omega
theorem noForm_short {s : ByteArray} (h1 : s.size ≤ 1) : noForm s = false := by
  unfold noForm; simp; omega


/-- What l1Num returns: the number, and whether there is one; 0 if not. -/
def NumOut (s : ByteArray) (w : World) (e : Ending) (w' : World) : Prop := ∃ (n : Int) (b : Bool), e = .returned (.tuple #[.int .i64 n, .bool b]) ∧ w = w' ∧ (if b = true then n else 0) = numOf s
set_option maxRecDepth 100000 in
set_option maxHeartbeats 1000000 in
theorem l1Num_any (s : ByteArray) (w : World) (hs : s.size ≤ maxLen) :
    Calls Try.prog 75 #[.string s] w (NumOut s w) := by
  unfold maxLen at hs
  by_cases hz : s.size < 1
  case pos =>
    have E := Lib.hid (show numOf s = 0 by
      rw [numOf_all (k := 0) (noForm_short (by omega)) (by omega) (by simp [allTo])]; simp [numTo, numL])
    have hd : decide ((s.size : Int) < 1) = true := by simp; omega
    go_enter Try.func75, Try.ntmps75
    go_wp2
    go_ret2
    exact ⟨0, false, rfl, rfl, E.out.symm⟩
  have hdz : decide ((s.size : Int) < 1) = false := by simp; omega
  by_cases h9 : s.size ≤ 9
  case neg =>
    have E := Lib.hid (numOf_no (s := s) (by unfold noForm; simp; omega))
    have hd : decide ((9 : Int) < (s.size : Int)) = true := by simp; omega
    go_enter Try.func75, Try.ntmps75
    go_wp2
    go_ret2
    exact ⟨0, false, rfl, rfl, E.out.symm⟩
  have hd : decide ((9 : Int) < (s.size : Int)) = false := by simp; omega
  by_cases h0 : s[0] = 48
  · have hc : ((s[0].toNat : Int) == 48) = true := by rw [h0]; rfl
    by_cases h1 : 1 < s.size
    · have E := Lib.hid (numOf_no (noForm_zero h1 h0))
      have hd1 : decide ((1 : Int) < (s.size : Int)) = true := by simp; omega
      go_enter Try.func75, Try.ntmps75
      go_wp2
      go_ret2
      exact ⟨0, false, rfl, rfl, E.out.symm⟩
    have HN := Lib.hid (noForm_short (s := s) (by omega))
    have hd1 : decide ((1 : Int) < (s.size : Int)) = false := by simp; omega
    clear h0
    go_enter Try.func75, Try.ntmps75
    go_wp2
    generalize s[0].toNat = c0 at *
    go_loop [4, 5] (fun n i => ∃ k : Nat, k ≤ s.size ∧ i = .int .i64 k ∧ n = .int .i64 (numTo s k) ∧ Hid (allTo s k = true)) (fun _ i => s.size - (intOf i).toNat)
    case atStart => exact ⟨0, Nat.zero_le _, rfl, rfl, Lib.hid (by simp [allTo])⟩
    case round =>
      obtain ⟨k, hk, rfl, rfl, Ha⟩ := hrel
      by_cases hlt : k < s.size
      · have hz := numTo_bd s k (by omega) Ha.out
        have hz' := Lib.hid (numTo_succ s k hlt)
        have ha' := Lib.hid (allTo_succ s k hlt)
        generalize numTo s k = z at hz hz' ⊢
        obtain ⟨hz0, hz1⟩ := hz
        by_cases hc1 : s[k].toNat < 48
        · have E := Lib.hid (numOf_bad hlt (by simp [isDig]; omega))
          have d1 : decide ((s[k].toNat : Int) < 48) = true := by simp; omega
          go_wp2
          go_ret2
          exact ⟨0, false, rfl, rfl, E.out.symm⟩
        by_cases hc2 : 57 < s[k].toNat
        · have E := Lib.hid (numOf_bad hlt (by simp [isDig]; omega))
          have d1 : decide ((s[k].toNat : Int) < 48) = false := by simp; omega
          have d2 : decide ((57 : Int) < (s[k].toNat : Int)) = true := by simp; omega
          go_wp2
          go_ret2
          exact ⟨0, false, rfl, rfl, E.out.symm⟩
        have d1 : decide ((s[k].toNat : Int) < 48) = false := by simp; omega
        have d2 : decide ((57 : Int) < (s[k].toNat : Int)) = false := by simp; omega
        have A' : Hid (allTo s (k + 1) = true) := Lib.hid (by rw [ha'.out, Ha.out]; simp [isDig]; omega)
        go_wp2
        go_round
        case rel => exact ⟨k + 1, by omega, by go_num, by rw [hz'.out], A'⟩
        case measure => simp [intOf]; omega
      · have E := Lib.hid (numOf_all HN.out (show s.size ≤ k by omega) Ha.out)
        generalize numTo s k = z at E ⊢
        go_wp2
        go_ret2
        exact ⟨z, true, rfl, rfl, E.out.symm⟩
  have HN : Hid (noForm s = false) := Lib.hid (by
    by_cases h1 : 1 < s.size
    · exact noForm_form h9 h1 h0
    · exact noForm_short (by omega))
  have hc : ((s[0].toNat : Int) == 48) = false := by
    rw [beq_eq_false_iff_ne]
    intro h
    exact h0 (UInt8.toNat_inj.1 (by simpa using (show s[0].toNat = 48 by omega)))
  clear h0
  go_enter Try.func75, Try.ntmps75
  go_wp2
  generalize s[0].toNat = c0 at *
  go_loop [4, 5] (fun n i => ∃ k : Nat, k ≤ s.size ∧ i = .int .i64 k ∧ n = .int .i64 (numTo s k) ∧ Hid (allTo s k = true)) (fun _ i => s.size - (intOf i).toNat)
  case atStart => exact ⟨0, Nat.zero_le _, rfl, rfl, Lib.hid (by simp [allTo])⟩
  case round =>
    obtain ⟨k, hk, rfl, rfl, Ha⟩ := hrel
    by_cases hlt : k < s.size
    · have hz := numTo_bd s k (by omega) Ha.out
      have hz' := Lib.hid (numTo_succ s k hlt)
      have ha' := Lib.hid (allTo_succ s k hlt)
      generalize numTo s k = z at hz hz' ⊢
      obtain ⟨hz0, hz1⟩ := hz
      by_cases hc1 : s[k].toNat < 48
      · have E := Lib.hid (numOf_bad hlt (by simp [isDig]; omega))
        have d1 : decide ((s[k].toNat : Int) < 48) = true := by simp; omega
        go_wp2
        go_ret2
        exact ⟨0, false, rfl, rfl, E.out.symm⟩
      by_cases hc2 : 57 < s[k].toNat
      · have E := Lib.hid (numOf_bad hlt (by simp [isDig]; omega))
        have d1 : decide ((s[k].toNat : Int) < 48) = false := by simp; omega
        have d2 : decide ((57 : Int) < (s[k].toNat : Int)) = true := by simp; omega
        go_wp2
        go_ret2
        exact ⟨0, false, rfl, rfl, E.out.symm⟩
      have d1 : decide ((s[k].toNat : Int) < 48) = false := by simp; omega
      have d2 : decide ((57 : Int) < (s[k].toNat : Int)) = false := by simp; omega
      have A' : Hid (allTo s (k + 1) = true) := Lib.hid (by rw [ha'.out, Ha.out]; simp [isDig]; omega)
      go_wp2
      go_round
      case rel => exact ⟨k + 1, by omega, by go_num, by rw [hz'.out], A'⟩
      case measure => simp [intOf]; omega
    · have E := Lib.hid (numOf_all HN.out (show s.size ≤ k by omega) Ha.out)
      generalize numTo s k = z at E ⊢
      go_wp2
      go_ret2
      exact ⟨z, true, rfl, rfl, E.out.symm⟩

set_option maxRecDepth 100000 in
theorem specNumberOf_any (s : ByteArray) (w : World) (hs : s.size ≤ maxLen) :
    Calls Try.prog 30 #[.string s] w fun e w' => e = .returned (.int .i64 (numOf s)) ∧ w = w' := by
  go_enter Try.func30, Try.ntmps30
  go_wp2_with fail
  refine (l1Num_any s _ hs).mono ?_
  rintro e w' ⟨n, b, rfl, rfl, h⟩
  have E := Lib.hid h
  clear h
  cases b
  · go_wp2_with fail
    go_ret
    exact ⟨ret_int E.out, rfl⟩
  · go_wp2_with fail
    go_ret
    exact ⟨ret_int E.out, rfl⟩
end Go.Proofs.Ytnmlnenepceabaa
