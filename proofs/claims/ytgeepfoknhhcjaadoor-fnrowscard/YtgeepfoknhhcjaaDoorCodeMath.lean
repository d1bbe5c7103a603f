/-
  The code of a text: its order, that it can be read back, its length. No conditions but those of each statement.
-/
import Derived.Test.YtgeepfoknhhcjaaDoorRowBytes
import Derived.Test.YtgeepfoknhhcjaaDoorReadMath
namespace Go.Proofs.YtgeepfoknhhcjaaDoor
open Go.RowKit

theorem u8_pos {c : UInt8} (h : c ≠ 0) : (0 : UInt8) < c := by
  rw [UInt8.lt_iff_toNat_lt]
  have : c.toNat ≠ 0 := fun e => h (UInt8.toNat_inj.1 (by simpa using e))
  simpa using Nat.pos_of_ne_zero this
theorem u8_not_lt0 (c : UInt8) : ¬ c < (0 : UInt8) := by rw [UInt8.lt_iff_toNat_lt]; simp
theorem esc_zero : esc 0 = [0, 255] := rfl
theorem esc_one {c : UInt8} (h : c ≠ 0) : esc c = [c] := if_neg h
/-- Codes, followed by anything, have the order of their texts, then of what follows. -/
theorem code_less : ∀ (a b u v : List UInt8), Op.bytesLess (escs a ++ 0 :: 0 :: u) (escs b ++ 0 :: 0 :: v) = (Op.bytesLess a b || (a == b && Op.bytesLess u v))
  | [], [], u, v => by simp [escs, Op.bytesLess]
  | [], d :: b, u, v => by
    by_cases h : d = 0
    · subst h; simp [escs_cons, escs_nil, esc_zero, Op.bytesLess]
    · rw [escs_cons, esc_one h]; simp [escs_nil, Op.bytesLess, u8_pos h]
  | c :: a, [], u, v => by
    by_cases h : c = 0
    · subst h; simp [escs_cons, escs_nil, esc_zero, Op.bytesLess]
    · rw [escs_cons, esc_one h]
      simp [escs_nil, Op.bytesLess, h]
  | c :: a, d :: b, u, v => by
    have ih := code_less a b u v
    by_cases h : c = 0
    · subst h
      by_cases g : d = 0
      · subst g; rw [escs_cons, escs_cons, esc_zero]; simp [Op.bytesLess, ih]
      · rw [escs_cons, escs_cons, esc_zero, esc_one g]; simp [Op.bytesLess, u8_pos g]
    · by_cases g : d = 0
      · subst g
        have hb : (c == 0) = false := beq_eq_false_iff_ne.2 h
        rw [escs_cons, escs_cons, esc_zero, esc_one h]; simp [Op.bytesLess, hb]
      · rw [escs_cons, escs_cons, esc_one h, esc_one g]
        simp only [List.cons_append, List.nil_append, Op.bytesLess, ih]
        by_cases e : c = d
        · subst e; simp
        · have he : (c == d) = false := beq_eq_false_iff_ne.2 e
          simp [he]
/-- A code is read back, whatever follows it. -/
theorem rk_code : ∀ (k u acc : List UInt8) (i : Nat), acc.length + k.length ≤ 12 → rk (escs k ++ 0 :: 0 :: u) acc i = some (acc ++ k, i + (escs k).length + 2)
  | [], u, acc, i, _ => by simp [escs_nil, rk_end]
  | c :: k, u, acc, i, h => by
    simp only [List.length_cons] at h
    by_cases h0 : c = 0
    · subst h0
      rw [escs_cons, esc_zero]
      simp only [List.cons_append, List.nil_append]
      rw [rk_mark _ _ _ (by omega), rk_code k u (acc ++ [0]) (i + 2) (by simp; omega)]
      simp; omega
    · rw [escs_cons, esc_one h0]
      simp only [List.cons_append, List.nil_append]
      rw [rk_plain _ _ _ h0 (by omega), rk_code k u (acc ++ [c]) (i + 1) (by simp; omega)]
      simp; omega
/-- What is read is the code of what is returned. -/
theorem rk_said (n : Nat) : ∀ (l acc x : List UInt8) (i j : Nat), l.length ≤ n → acc.length ≤ 12 → rk l acc i = some (x, j) →
    ∃ k u, x = acc ++ k ∧ x.length ≤ 12 ∧ l = escs k ++ 0 :: 0 :: u ∧ j = i + (escs k).length + 2 := by
  induction n with
  | zero =>
    intro l acc x i j hl _ h
    obtain rfl := List.length_eq_zero_iff.1 (Nat.le_zero.1 hl)
    rw [rk_nil] at h; cases h
  | succ n ih =>
    intro l acc x i j hl ha h
    match l, hl, h with
    | [], _, h => rw [rk_nil] at h; cases h
    | c :: l, hl, h =>
      simp only [List.length_cons] at hl
      by_cases h0 : c = 0
      · subst h0
        match l, hl, h with
        | [], _, h => rw [rk_cut] at h; cases h
        | m :: l, hl, h =>
          simp only [List.length_cons] at hl
          by_cases m0 : m = 0
          · subst m0
            rw [rk_end] at h
            obtain ⟨rfl, rfl⟩ : acc = x ∧ i + 2 = j := by injection h with h; injection h with h1 h2; exact ⟨h1, h2⟩
            exact ⟨[], l, by simp, ha, by simp [escs_nil], by simp [escs_nil]⟩
          by_cases m1 : m = 255
          · subst m1
            by_cases hf : acc.length < 12
            · rw [rk_mark _ _ _ hf] at h
              obtain ⟨k, u, e1, e2, e3, e4⟩ := ih l (acc ++ [0]) x (i + 2) j (by omega) (by simp; omega) h
              refine ⟨0 :: k, u, by rw [e1]; simp, e2, by rw [e3, escs_cons, esc_zero]; simp, by rw [e4, escs_cons, esc_zero]; simp; omega⟩
            · rw [rk_mark_full _ _ _ hf] at h; cases h
          · rw [rk_bad _ _ _ m0 m1] at h; cases h
      · by_cases hf : acc.length < 12
        · rw [rk_plain _ _ _ h0 hf] at h
          obtain ⟨k, u, e1, e2, e3, e4⟩ := ih l (acc ++ [c]) x (i + 1) j (by omega) (by simp; omega) h
          exact ⟨c :: k, u, by rw [e1]; simp, e2, by rw [e3, escs_cons, esc_one h0]; simp, by rw [e4, escs_cons, esc_one h0]; simp; omega⟩
        · rw [rk_full _ _ _ h0 hf] at h; cases h
theorem code_inj : ∀ (a b u v : List UInt8), escs a ++ 0 :: 0 :: u = escs b ++ 0 :: 0 :: v → a = b ∧ u = v
  | [], [], u, v, h => by simpa [escs_nil] using h
  | [], d :: b, u, v, h => by
    by_cases g : d = 0
    · subst g; simp [escs_cons, escs_nil, esc_zero] at h
    · rw [escs_cons, esc_one g] at h; simp [escs_nil] at h; exact absurd h.1.symm g
  | c :: a, [], u, v, h => by
    by_cases g : c = 0
    · subst g; simp [escs_cons, escs_nil, esc_zero] at h
    · rw [escs_cons, esc_one g] at h; simp [escs_nil] at h; exact absurd h.1 g
  | c :: a, d :: b, u, v, h => by
    by_cases hc : c = 0
    · subst hc
      by_cases g : d = 0
      · subst g
        rw [escs_cons, escs_cons, esc_zero] at h
        simp only [List.cons_append, List.nil_append, List.cons.injEq, true_and] at h
        obtain ⟨rfl, rfl⟩ := code_inj a b u v h
        exact ⟨rfl, rfl⟩
      · rw [escs_cons, escs_cons, esc_zero, esc_one g] at h; simp at h; exact absurd h.1.symm g
    · by_cases g : d = 0
      · subst g; rw [escs_cons, escs_cons, esc_zero, esc_one hc] at h; simp at h; exact absurd h.1 hc
      · rw [escs_cons, escs_cons, esc_one hc, esc_one g] at h
        simp only [List.cons_append, List.nil_append, List.cons.injEq] at h
        obtain ⟨rfl, h2⟩ := h
        obtain ⟨rfl, rfl⟩ := code_inj a b u v h2
        exact ⟨rfl, rfl⟩
theorem codeB_list (s : ByteArray) : (codeB s).data.toList = escs s.data.toList ++ [0, 0] := by simp [codeB]
theorem codeB_len (s : ByteArray) : (codeB s).size = (escs s.data.toList).length + 2 := by unfold codeB; rw [size_mk]; simp
theorem keyCode_code {s : ByteArray} (h : s.size ≤ 12) : keyCode s = codeB s := if_pos h
theorem keyCode_empty {s : ByteArray} (h : ¬ s.size ≤ 12) : keyCode s = ⟨#[]⟩ := if_neg h
theorem bytes_ext {a b : ByteArray} (h : a.data.toList = b.data.toList) : a = b := by
  cases a; cases b; simp at h; rw [h]
theorem codeB_less (a b : ByteArray) : Op.bytesLess (codeB a).toList (codeB b).toList = Op.bytesLess a.toList b.toList := by
  rw [ByteArray.toList_eq, ByteArray.toList_eq, ByteArray.toList_eq, ByteArray.toList_eq, codeB_list, codeB_list, code_less]
  simp [Op.bytesLess]
theorem codeB_eq (a b : ByteArray) : ((codeB a).toList == (codeB b).toList) = (a.toList == b.toList) := by
  rw [ByteArray.toList_eq, ByteArray.toList_eq, ByteArray.toList_eq, ByteArray.toList_eq, codeB_list, codeB_list, Bool.eq_iff_iff, beq_iff_eq, beq_iff_eq]
  constructor
  · intro h; exact (code_inj _ _ [] [] h).1
  · intro h; rw [h]
/-- No code begins with another one. -/
theorem codeB_free {a b : ByteArray} (h : (codeB a).size < (codeB b).size) : (((codeB b).extract 0 (codeB a).size).toList == (codeB a).toList) = false := by
  rw [beq_eq_false_iff_ne, ByteArray.toList_eq, ByteArray.toList_eq]
  intro e
  have e1 : (codeB b).data.toList = (codeB a).data.toList ++ (codeB b).data.toList.drop (codeB a).size := by
    have : ((codeB b).extract 0 (codeB a).size).data.toList = (codeB b).data.toList.take (codeB a).size := by
      rw [ByteArray.data_extract]; simp
    rw [← e, this, List.take_append_drop]
  rw [codeB_list, codeB_list, List.append_assoc] at e1
  obtain ⟨e2, e3⟩ := code_inj b.data.toList a.data.toList [] _ e1
  have : a = b := (bytes_ext e2).symm
  subst this
  omega
theorem codeB_pieces (a b : ByteArray) : codeB (a ++ b) = (codeB a).extract 0 ((codeB a).size - 2) ++ codeB b := by
  apply bytes_ext
  rw [ByteArray.data_append, Array.toList_append, codeB_list, codeB_list, ByteArray.data_append, Array.toList_append, escs_append, ByteArray.data_extract]
  rw [codeB_len]
  simp only [Nat.add_sub_cancel, Array.toList_extract]
  rw [codeB_list]
  simp
end Go.Proofs.YtgeepfoknhhcjaaDoor
