/-
  What reading the code of a text comes to, as a plain function. No conditions.
-/
import Derived.Test.YtgeepfoknhhcjaaDoorPlain
namespace Go.Proofs.YtgeepfoknhhcjaaDoor
open Go.RowKit

/-- Reading goes on: acc has been read, i bytes have been taken, l is left. -/
def rk : List UInt8 → List UInt8 → Nat → Option (List UInt8 × Nat)
  | [], _, _ => none
  | c :: l, acc, i =>
    if c = 0 then
      match l with
      | [] => none
      | m :: l' => if m = 0 then some (acc, i + 2) else if m = 255 then (if acc.length < 12 then rk l' (acc ++ [0]) (i + 2) else none) else none
    else if acc.length < 12 then rk l (acc ++ [c]) (i + 1) else none
theorem rk_nil (acc : List UInt8) (i : Nat) : rk [] acc i = none := by rw [rk]
theorem rk_plain {c : UInt8} (l acc : List UInt8) (i : Nat) (hc : c ≠ 0) (ha : acc.length < 12) : rk (c :: l) acc i = rk l (acc ++ [c]) (i + 1) := by
  rw [rk.eq_def]; simp only [if_neg hc, if_pos ha]
theorem rk_full {c : UInt8} (l acc : List UInt8) (i : Nat) (hc : c ≠ 0) (ha : ¬ acc.length < 12) : rk (c :: l) acc i = none := by
  rw [rk.eq_def]; simp only [if_neg hc, if_neg ha]
theorem rk_cut (acc : List UInt8) (i : Nat) : rk [0] acc i = none := by rw [rk.eq_def]; simp
theorem rk_end (l acc : List UInt8) (i : Nat) : rk (0 :: 0 :: l) acc i = some (acc, i + 2) := by rw [rk.eq_def]; simp
theorem rk_mark (l acc : List UInt8) (i : Nat) (ha : acc.length < 12) : rk (0 :: 255 :: l) acc i = rk l (acc ++ [0]) (i + 2) := by
  rw [rk.eq_def]; simp [ha]
theorem rk_mark_full (l acc : List UInt8) (i : Nat) (ha : ¬ acc.length < 12) : rk (0 :: 255 :: l) acc i = none := by
  rw [rk.eq_def]; simp [ha]
theorem rk_bad {m : UInt8} (l acc : List UInt8) (i : Nat) (h0 : m ≠ 0) (h1 : m ≠ 255) : rk (0 :: m :: l) acc i = none := by
  rw [rk.eq_def]; simp [h0, h1]
/-- Reading the bytes of s from place p on. -/
def rkAt (s : ByteArray) (p : Nat) (acc : List UInt8) : Option (List UInt8 × Nat) := rk (s.data.toList.drop p) acc p
theorem drop_at (s : ByteArray) (p : Nat) (h : p < s.size) : s.data.toList.drop p = s[p] :: s.data.toList.drop (p + 1) := by
  rw [List.drop_eq_getElem_cons (by simpa using h)]; rfl
theorem drop_end (s : ByteArray) (p : Nat) (h : s.size ≤ p) : s.data.toList.drop p = [] := List.drop_eq_nil_of_le (by simpa using h)
theorem rkAt_end {s : ByteArray} {p : Nat} (acc : List UInt8) (h : s.size ≤ p) : rkAt s p acc = none := by unfold rkAt; rw [drop_end s p h, rk_nil]
theorem rkAt_plain {s : ByteArray} {p : Nat} {acc : List UInt8} (h : p < s.size) (hc : s[p] ≠ 0) (ha : acc.length < 12) : rkAt s p acc = rkAt s (p + 1) (acc ++ [s[p]]) := by
  unfold rkAt; rw [drop_at s p h, rk_plain _ _ _ hc ha]
theorem rkAt_full {s : ByteArray} {p : Nat} {acc : List UInt8} (h : p < s.size) (hc : s[p] ≠ 0) (ha : ¬ acc.length < 12) : rkAt s p acc = none := by
  unfold rkAt; rw [drop_at s p h, rk_full _ _ _ hc ha]
theorem rkAt_cut {s : ByteArray} {p : Nat} {acc : List UInt8} (h : p < s.size) (hc : s[p] = 0) (h1 : s.size ≤ p + 1) : rkAt s p acc = none := by
  unfold rkAt; rw [drop_at s p h, drop_end s (p + 1) h1, hc, rk_cut]
theorem rkAt_stop {s : ByteArray} {p : Nat} {acc : List UInt8} (h : p < s.size) (hc : s[p] = 0) (h1 : p + 1 < s.size) (hm : s[p + 1] = 0) : rkAt s p acc = some (acc, p + 2) := by
  unfold rkAt; rw [drop_at s p h, drop_at s (p + 1) h1, hc, hm, rk_end]
theorem rkAt_mark {s : ByteArray} {p : Nat} {acc : List UInt8} (h : p < s.size) (hc : s[p] = 0) (h1 : p + 1 < s.size) (hm : s[p + 1] = 255) (ha : acc.length < 12) : rkAt s p acc = rkAt s (p + 2) (acc ++ [0]) := by
  unfold rkAt; rw [drop_at s p h, drop_at s (p + 1) h1, hc, hm, rk_mark _ _ _ ha]
theorem rkAt_mark_full {s : ByteArray} {p : Nat} {acc : List UInt8} (h : p < s.size) (hc : s[p] = 0) (h1 : p + 1 < s.size) (hm : s[p + 1] = 255) (ha : ¬ acc.length < 12) : rkAt s p acc = none := by
  unfold rkAt; rw [drop_at s p h, drop_at s (p + 1) h1, hc, hm, rk_mark_full _ _ _ ha]
theorem rkAt_bad {s : ByteArray} {p : Nat} {acc : List UInt8} (h : p < s.size) (hc : s[p] = 0) (h1 : p + 1 < s.size) (h0 : s[p + 1] ≠ 0) (h255 : s[p + 1] ≠ 255) : rkAt s p acc = none := by
  unfold rkAt; rw [drop_at s p h, drop_at s (p + 1) h1, hc, rk_bad _ _ _ h0 h255]
/-- What is read has at most twelve bytes, and ends behind its beginning, inside the text. -/
theorem rk_bd : ∀ (n : Nat) (l acc : List UInt8) (i : Nat) (key : List UInt8) (j : Nat), l.length ≤ n → acc.length ≤ 12 → rk l acc i = some (key, j) → key.length ≤ 12 ∧ i + 2 ≤ j ∧ j ≤ i + l.length
  | n, [], acc, i, key, j, _, _, h => by rw [rk_nil] at h; cases h
  | 0, _ :: _, _, _, _, _, hn, _, _ => by simp at hn
  | n + 1, c :: l, acc, i, key, j, hn, ha, h => by
    simp only [List.length_cons] at hn
    by_cases hc : c = 0
    · subst hc
      match l, h, hn with
      | [], h, _ => rw [rk_cut] at h; cases h
      | m :: l', h, hn =>
        simp only [List.length_cons] at hn
        by_cases h0 : m = 0
        · subst h0
          rw [rk_end] at h
          injection h with h
          injection h with h1 h2
          subst h1 h2
          simp only [List.length_cons]
          omega
        · by_cases h1 : m = 255
          · subst h1
            by_cases hl : acc.length < 12
            · rw [rk_mark _ _ _ hl] at h
              have := rk_bd n l' (acc ++ [0]) (i + 2) key j (by omega) (by simp; omega) h
              simp only [List.length_cons]
              omega
            · rw [rk_mark_full _ _ _ hl] at h; cases h
          · rw [rk_bad _ _ _ h0 h1] at h; cases h
    · by_cases hl : acc.length < 12
      · rw [rk_plain _ _ _ hc hl] at h
        have := rk_bd n l (acc ++ [c]) (i + 1) key j (by omega) (by simp; omega) h
        simp only [List.length_cons]
        omega
      · rw [rk_full _ _ _ hc hl] at h; cases h
theorem rkAt_bd {s : ByteArray} {p : Nat} {key : List UInt8} {j : Nat} (hp : p ≤ s.size) (h : rkAt s p [] = some (key, j)) : key.length ≤ 12 ∧ p + 2 ≤ j ∧ j ≤ s.size := by
  have := rk_bd _ _ [] p key j (Nat.le_refl _) (by simp) h
  simp at this
  omega
end Go.Proofs.YtgeepfoknhhcjaaDoor
