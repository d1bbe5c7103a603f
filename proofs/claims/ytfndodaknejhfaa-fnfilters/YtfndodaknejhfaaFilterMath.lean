/-
  The union of two filters' bytes; what it has. No conditions but those of each statement.
-/
import Derived.Test.YtfndodaknejhfaaExactFilterBoth
import Derived.Test.YtfndodaknejhfaaFilterOfImpl
namespace Go.Proofs.Ytfndodaknejhfaa
open Go.RowKit
theorem orS_data {x x2 : ByteArray} (h : x2.size = x.size) : (orS x x2).data.toList = List.zipWith (· ||| ·) x.data.toList x2.data.toList := by
  have l1 : x.data.toList.length = x.size := by simp
  have l2 : x2.data.toList.length = x2.size := by simp
  unfold orS orBytes
  rw [List.take_of_length_le (by omega), List.take_of_length_le (by omega), List.drop_eq_nil_of_le (by omega), List.append_nil]
theorem ba_ext {a b : ByteArray} (h : a.data.toList = b.data.toList) : a = b := ByteArray.ext (Array.toList_inj.1 h)
theorem orS_size {x x2 : ByteArray} (h : x2.size = x.size) : (orS x x2).size = x.size := by
  have l0 : (orS x x2).data.toList.length = (orS x x2).size := by simp
  have l1 : x.data.toList.length = x.size := by simp
  have l2 : x2.data.toList.length = x2.size := by simp
  rw [← l0, orS_data h, List.length_zipWith]; omega
theorem orS_comm {x x2 : ByteArray} (h : x2.size = x.size) : orS x2 x = orS x x2 := by
  apply ba_ext
  rw [orS_data h.symm, orS_data h, List.zipWith_comm]
  congr 1
  funext a b
  exact UInt8.or_comm _ _
theorem orS_again {x x2 : ByteArray} (h : x2.size = x.size) : orS (orS x x2) x = orS x x2 := by
  have hs := orS_size h
  apply ba_ext
  rw [orS_data (x := orS x x2) (x2 := x) (by omega), orS_data h]
  apply List.ext_getElem
  · simp
  · intro i h1 h2
    simp only [List.getElem_zipWith]
    rw [UInt8.or_comm, ← UInt8.or_assoc, UInt8.or_self]
theorem orS_le {x x2 : ByteArray} (h : x2.size = x.size) : LeB x.data.toList (orS x x2).data.toList ∧ LeB x2.data.toList (orS x x2).data.toList := by
  have l1 : x.data.toList.length = x.size := by simp
  have l2 : x2.data.toList.length = x2.size := by simp
  rw [orS_data h]
  constructor
  · intro q
    simp only [List.getD]
    by_cases hq : q < x.size
    · rw [List.getElem?_eq_getElem (by omega), List.getElem?_eq_getElem (by rw [List.length_zipWith]; omega)]
      simp only [Option.getD_some, List.getElem_zipWith]
      rw [← UInt8.or_assoc, UInt8.or_self]
    · rw [List.getElem?_eq_none (by omega), List.getElem?_eq_none (by rw [List.length_zipWith]; omega)]; rfl
  · intro q
    simp only [List.getD]
    by_cases hq : q < x.size
    · rw [List.getElem?_eq_getElem (by omega), List.getElem?_eq_getElem (by rw [List.length_zipWith]; omega)]
      simp only [Option.getD_some, List.getElem_zipWith]
      rw [UInt8.or_comm (x.data.toList[q]'(by omega)), ← UInt8.or_assoc, UInt8.or_self]
    · rw [List.getElem?_eq_none (by omega), List.getElem?_eq_none (by rw [List.length_zipWith]; omega)]; rfl
theorem hasB_eq {n : Int} {x s : ByteArray} (h : filB n x = true) (hs : s.size ≤ 12) : hasB n x s = hasK n s x.data.toList := by
  obtain ⟨q0, q1, q4, q5, q2⟩ := filB_all h
  have l1 : x.data.toList.length = x.size := by simp
  rw [hasK_eq n s _ (by rw [l1]; exact plN_lt n s _ q0 q4 q5)]
  unfold hasB addOk
  rw [h, decide_eq_true hs, Bool.and_true, Bool.true_and, decide_eq_decide]
  constructor
  · intro e; have := congrArg (fun b : ByteArray => b.data.toList) e; exact this
  · intro e; unfold addS; rw [e]
theorem hasB_mono {n : Int} {x t s : ByteArray} (h : filB n x = true) (ht : filB n t = true) (hs : s.size ≤ 12) (hl : LeB x.data.toList t.data.toList) (hx : hasB n x s = true) : hasB n t s = true := by
  rw [hasB_eq h hs] at hx
  rw [hasB_eq ht hs]
  unfold hasK at *
  simp only [Bool.and_eq_true] at *
  exact ⟨⟨hasL_mono hl hx.1.1, hasL_mono hl hx.1.2⟩, hasL_mono hl hx.2⟩
theorem filB_or {n : Int} {x x2 : ByteArray} (h : filB n x = true) (h2 : x2.size = x.size) : filB n (orS x x2) = true := by
  unfold filB at *
  rw [orS_size h2]; exact h
theorem bothB_parts {n n2 : Int} {x x2 : ByteArray} (h : bothB n x n2 x2 = true) : n2 = n ∧ filB n x = true ∧ filB n x2 = true ∧ x2.size = x.size := by
  simp only [bothB, Bool.and_eq_true, beq_iff_eq] at h
  obtain ⟨⟨h1, h2⟩, rfl⟩ := h
  have := filB_size h1
  have := filB_size h2
  exact ⟨rfl, h1, h2, by omega⟩
theorem both_yes {n : Int} {x x2 : ByteArray} (h1 : filB n x = true) (h2 : filB n x2 = true) : bothB n x n x2 = true ∧ bothN n x n x2 = n ∧ bothT n x n x2 = orS x x2 := by
  have e : bothB n x n x2 = true := by simp [bothB, h1, h2]
  exact ⟨e, by simp [bothN, e], by simp [bothT, e]⟩
theorem bothT_size (n : Int) (x : ByteArray) (n2 : Int) (x2 : ByteArray) : (bothT n x n2 x2).size ≤ 32 := by
  unfold bothT
  split
  · rename_i h
    obtain ⟨_, h1, _, h3⟩ := bothB_parts h
    rw [orS_size h3]
    exact (filB_facts h1).2.2
  · decide
/-- The six keys that are asked for. -/
def sixK : List ByteArray := [⟨#[]⟩, ⟨#[97]⟩, ⟨#[98]⟩, ⟨#[97, 98]⟩, ⟨#[99]⟩, ⟨#[107, 101, 121]⟩]
theorem sixK_size (s : ByteArray) (h : s ∈ sixK) : s.size ≤ 12 := by
  simp only [sixK, List.mem_cons, List.not_mem_nil, or_false] at h
  rcases h with rfl | rfl | rfl | rfl | rfl | rfl <;> decide
theorem or_setL (l m : List UInt8) (i : Nat) (h : i / 8 < l.length) (hm : m.length = l.length) : List.zipWith (· ||| ·) (setL l i) m = setL (List.zipWith (· ||| ·) l m) i := by
  apply List.ext_getElem
  · simp [setL]
  · intro q h1 h2
    have hql : q < l.length := by simp [setL] at h1; omega
    simp only [setL, List.getElem_zipWith, List.getElem_set]
    by_cases e : i / 8 = q
    · subst e
      simp only [if_true, List.getD, List.getElem?_eq_getElem hql, List.getElem?_eq_getElem (show i / 8 < (List.zipWith (· ||| ·) l m).length by rw [List.length_zipWith]; omega), Option.getD_some, List.getElem_zipWith, bitC]
      generalize (1 : UInt8) <<< UInt8.ofNat (i % 8) = z
      rw [UInt8.or_assoc, UInt8.or_comm z, ← UInt8.or_assoc]
    · simp only [if_neg e]
theorem or_addL (n : Int) (s : ByteArray) (l m : List UInt8) (h : ∀ k, plN n s k / 8 < l.length) (hm : m.length = l.length) : List.zipWith (· ||| ·) (addL n s l) m = addL n s (List.zipWith (· ||| ·) l m) := by
  unfold addL
  have e1 : (setL l (plN n s 0)).length = l.length := setL_length _ _
  have e2 : (setL (setL l (plN n s 0)) (plN n s 1)).length = l.length := by rw [setL_length, e1]
  rw [or_setL _ _ _ (by rw [e2]; exact h 2) (by rw [e2]; exact hm), or_setL _ _ _ (by rw [e1]; exact h 1) (by rw [e1]; exact hm), or_setL _ _ _ (h 0) hm]
theorem or_ofL (n : Int) (rs : List RowV) (l m : List UInt8) (k : Nat) (h0 : 8 ≤ n) (h8 : n % 8 = 0) (hk : (k : Int) = n / 8) (hl : l.length = k) (hm : m.length = k) : List.zipWith (· ||| ·) (ofL n rs l) m = ofL n rs (List.zipWith (· ||| ·) l m) := by
  unfold ofL
  induction rs generalizing l with
  | nil => rfl
  | cons r rs ih =>
    rw [List.foldl_cons, List.foldl_cons, ih (addL n r.key l) (by rw [addL_length]; exact hl), or_addL n r.key l m (by rw [hl]; exact plN_lt n r.key k h0 h8 hk) (by omega)]
theorem zero_or (m : List UInt8) : List.zipWith (· ||| ·) (List.replicate m.length (0 : UInt8)) m = m := by
  apply List.ext_getElem
  · simp
  · intro q h1 h2; simp
theorem or_both (n : Int) (a b : List RowV) (h0 : 8 ≤ n) (h8 : n % 8 = 0) : List.zipWith (· ||| ·) (ofL n a (zeroL n)) (ofL n b (zeroL n)) = ofL n a (ofL n b (zeroL n)) := by
  have e : (ofL n b (zeroL n)).length = (n / 8).toNat := by rw [ofL_length]; simp [zeroL]
  rw [or_ofL n a (zeroL n) _ (n / 8).toNat h0 h8 (by omega) (by simp [zeroL]) e]
  congr 1
  have := zero_or (ofL n b (zeroL n))
  rw [e] at this
  exact this
theorem ofS_size (rs : List RowV) (n : Int) (h0 : 8 ≤ n) : ((ofS rs n).size : Int) = n / 8 := by
  have : (ofS rs n).size = (n / 8).toNat := by simp [ofS, ByteArray.size, ofL_length, zeroL]
  omega
theorem ofS_or (n : Int) (a b : List RowV) (h0 : 8 ≤ n) (h8 : n % 8 = 0) : orS (ofS a n) (ofS b n) = ofS (a ++ b) n := by
  have s1 := ofS_size a n h0
  have s2 := ofS_size b n h0
  apply ba_ext
  rw [orS_data (by omega)]
  show List.zipWith (· ||| ·) (ofL n a (zeroL n)) (ofL n b (zeroL n)) = ofL n (a ++ b) (zeroL n)
  rw [List.zipWith_comm]
  have e : (fun (x y : UInt8) => y ||| x) = (fun x y => x ||| y) := by funext x y; exact UInt8.or_comm _ _
  rw [e, or_both n b a h0 h8]
  unfold ofL
  rw [List.foldl_append]
theorem leB_addL (n : Int) (s : ByteArray) (l : List UInt8) (h : ∀ k, plN n s k / 8 < l.length) : LeB l (addL n s l) := by
  unfold addL
  have e1 : (setL l (plN n s 0)).length = l.length := setL_length _ _
  have e2 : (setL (setL l (plN n s 0)) (plN n s 1)).length = l.length := by rw [setL_length, e1]
  exact ((LeB.setL _ _ (h 0)).trans (LeB.setL _ _ (by rw [e1]; exact h 1))).trans (LeB.setL _ _ (by rw [e2]; exact h 2))
theorem hasK_addL (n : Int) (s : ByteArray) (l : List UInt8) (h : ∀ k, plN n s k / 8 < l.length) : hasK n s (addL n s l) = true := by
  have e1 : (setL l (plN n s 0)).length = l.length := setL_length _ _
  have e2 : (setL (setL l (plN n s 0)) (plN n s 1)).length = l.length := by rw [setL_length, e1]
  have g2 := hasL_setL (setL (setL l (plN n s 0)) (plN n s 1)) (plN n s 2) (by rw [e2]; exact h 2)
  have u2 := LeB.setL (setL (setL l (plN n s 0)) (plN n s 1)) (plN n s 2) (by rw [e2]; exact h 2)
  have u1 := LeB.setL (setL l (plN n s 0)) (plN n s 1) (by rw [e1]; exact h 1)
  have g1 := hasL_mono u2 (hasL_setL (setL l (plN n s 0)) (plN n s 1) (by rw [e1]; exact h 1))
  have g0 := hasL_mono (u1.trans u2) (hasL_setL l (plN n s 0) (h 0))
  unfold hasK
  unfold addL
  rw [g0, g1, g2]; rfl
theorem leB_ofL (n : Int) (rs : List RowV) (l : List UInt8) (k : Nat) (h0 : 8 ≤ n) (h8 : n % 8 = 0) (hk : (k : Int) = n / 8) (hl : l.length = k) : LeB l (ofL n rs l) := by
  unfold ofL
  induction rs generalizing l with
  | nil => exact LeB.refl _
  | cons r rs ih =>
    rw [List.foldl_cons]
    exact (leB_addL n r.key l (by rw [hl]; exact plN_lt n r.key k h0 h8 hk)).trans (ih (addL n r.key l) (by rw [addL_length]; exact hl))
theorem ofS_has (n : Int) (rs : List RowV) (i : Nat) (r : RowV) (hr : rs[i]? = some r) (h0 : 8 ≤ n) (h1 : n ≤ 256) (h8 : n % 8 = 0) (hs : r.key.size ≤ 12) : hasB n (ofS rs n) r.key = true := by
  have s1 := ofS_size rs n h0
  have hf : filB n (ofS rs n) = true := decide_eq_true ⟨h0, h1, h8, s1⟩
  rw [hasB_eq hf hs]
  obtain ⟨hi, e⟩ := List.getElem?_eq_some_iff.1 hr
  have e1 : rs = rs.take i ++ r :: rs.drop (i + 1) := by rw [← e, ← List.drop_eq_getElem_cons hi, List.take_append_drop]
  show hasK n r.key (ofL n rs (zeroL n)) = true
  have hk : (((n / 8).toNat : Nat) : Int) = n / 8 := by omega
  have e2 : ofL n rs (zeroL n) = ofL n (rs.drop (i + 1)) (addL n r.key (ofL n (rs.take i) (zeroL n))) := by
    conv => lhs; rw [e1]
    unfold ofL
    rw [List.foldl_append, List.foldl_cons]
  have hl : (ofL n (rs.take i) (zeroL n)).length = (n / 8).toNat := by rw [ofL_length]; simp [zeroL]
  have u := leB_ofL n (rs.drop (i + 1)) (addL n r.key (ofL n (rs.take i) (zeroL n))) _ h0 h8 hk (by rw [addL_length]; exact hl)
  have g := hasK_addL n r.key (ofL n (rs.take i) (zeroL n)) (by rw [hl]; exact plN_lt n r.key _ h0 h8 hk)
  rw [e2]
  unfold hasK at *
  simp only [Bool.and_eq_true] at *
  exact ⟨⟨hasL_mono u g.1.1, hasL_mono u g.1.2⟩, hasL_mono u g.2⟩
end Go.Proofs.Ytfndodaknejhfaa
