/-
  A row is read back from its encoding, whatever follows it; what is read is an encoding of what is returned. No conditions but those of each statement.
-/
import Derived.Test.YtgeepfoknhhcjaaDoorKeys
import Derived.Test.YtgeepfoknhhcjaaDoorReadRow
import Derived.Test.YtgeepfoknhhcjaaDoorRowLong
import Derived.Test.YtgeepfoknhhcjaaDoorLessMath
namespace Go.Proofs.YtgeepfoknhhcjaaDoor
open Go.RowKit

theorem drop_len {a b : List UInt8} {n : Nat} (h : n = a.length) : (a ++ b).drop n = b := by subst h; simp
theorem tagB_nat {t : Int} (h0 : 0 ≤ t) (h3 : t ≤ 3) : (tagB t).toNat ≤ 3 ∧ ((tagB t).toNat : Int) = t := by
  have e : t = 0 ∨ t = 1 ∨ t = 2 ∨ t = 3 := by omega
  rcases e with rfl | rfl | rfl | rfl <;> decide
theorem tagB_back {c : UInt8} (h : c.toNat ≤ 3) : tagB (c.toNat : Int) = c := by
  apply UInt8.toNat_inj.1
  unfold tagB
  rw [UInt8.toNat_ofNat']
  omega
theorem get_of_list {s : ByteArray} {a b : List UInt8} {c : UInt8} (h : s.data.toList = a ++ c :: b) (hj : a.length < s.size) : s[a.length] = c := by
  have : s.data.toList[a.length]? = some c := by rw [h]; simp
  rw [Array.getElem?_toList] at this
  have h2 : s.data[a.length]? = some (s[a.length]) := by
    rw [Array.getElem?_eq_getElem (show a.length < s.data.size from hj)]; rfl
  rw [h2] at this
  exact Option.some.inj this
theorem row_code {k : ByteArray} {t : Int} {v u : ByteArray} (h : okB k t v = true) : rrAt (rowB k t v ++ u) 0 = some (⟨k, t, v⟩, (rowB k t v).size) := by
  obtain ⟨h1, h2, h3, h4⟩ := okB_parts h
  obtain ⟨t3, tt⟩ := tagB_nat h3 h4
  have hl : (rowB k t v ++ u).data.toList = (escs k.data.toList ++ [0, 0]) ++ tagB t :: (escs v.data.toList ++ 0 :: 0 :: u.data.toList) := by
    rw [ByteArray.data_append, Array.toList_append, rowB_list]; simp
  have hk : rkAt (rowB k t v ++ u) 0 [] = some (k.data.toList, (escs k.data.toList ++ [0, 0]).length) := by
    unfold rkAt
    rw [List.drop_zero, hl, List.append_assoc]
    show rk (escs k.data.toList ++ 0 :: 0 :: _) [] 0 = _
    rw [rk_code _ _ _ _ (by rw [data_toList_size]; simpa using h1)]
    simp
  have hsz : (escs k.data.toList ++ [0, 0]).length < (rowB k t v ++ u).size := by
    rw [← data_toList_size, hl]; simp
  have hg := get_of_list hl hsz
  have hv : rkAt (rowB k t v ++ u) ((escs k.data.toList ++ [0, 0]).length + 1) [] = some (v.data.toList, (escs k.data.toList ++ [0, 0]).length + 1 + (escs v.data.toList).length + 2) := by
    unfold rkAt
    have e : (rowB k t v ++ u).data.toList = ((escs k.data.toList ++ [0, 0]) ++ [tagB t]) ++ (escs v.data.toList ++ 0 :: 0 :: u.data.toList) := by rw [hl]; simp
    rw [e, drop_len (by simp), rk_code _ _ _ _ (by rw [data_toList_size]; simpa using h2)]
    simp
  rw [rrAt_e hk hsz (by rw [hg]; exact t3) hv, hg, tt]
  have hz : (rowB k t v).size = (escs k.data.toList ++ [0, 0]).length + 1 + (escs v.data.toList).length + 2 := by
    rw [← data_toList_size, rowB_list]; simp; omega
  rw [hz]
theorem row_said {s : ByteArray} {r : RowV} {j : Nat} (h : rrAt s 0 = some (r, j)) : okB r.key r.tag r.val = true ∧ s.extract 0 j = rowB r.key r.tag r.val ∧ j ≤ s.size := by
  cases h1 : rkAt s 0 [] with
  | none => rw [rrAt_a h1] at h; cases h
  | some xi =>
    obtain ⟨x, i⟩ := xi
    by_cases hi : i < s.size
    case neg => rw [rrAt_b h1 hi] at h; cases h
    by_cases ht : s[i].toNat ≤ 3
    case neg => rw [rrAt_c h1 hi ht] at h; cases h
    cases h2 : rkAt s (i + 1) [] with
    | none => rw [rrAt_d h1 hi ht h2] at h; cases h
    | some yj =>
      obtain ⟨y, q⟩ := yj
      rw [rrAt_e h1 hi ht h2] at h
      obtain ⟨rfl, rfl⟩ : (⟨⟨x.toArray⟩, (s[i].toNat : Int), ⟨y.toArray⟩⟩ : RowV) = r ∧ q = j := by injection h with h; injection h with h1 h2; exact ⟨h1, h2⟩
      obtain ⟨a1, a2, a3⟩ := read_said h1
      unfold rkAt at h1 h2
      obtain ⟨k1, u1, e1, e2, e3, e4⟩ := rk_said _ _ _ _ _ _ (Nat.le_refl _) (by simp) h1
      obtain ⟨k2, u2, f1, f2, f3, f4⟩ := rk_said _ _ _ _ _ _ (Nat.le_refl _) (by simp) h2
      rw [List.nil_append] at e1 f1
      subst e1 f1
      rw [List.drop_zero] at e3
      have hi2 : i = (escs x ++ [0, 0]).length := by rw [e4]; simp
      have hl : s.data.toList = (escs x ++ [0, 0]) ++ u1 := by rw [e3]; simp
      have hd : s.data.toList.drop i = u1 := by rw [hl]; exact drop_len hi2
      have hu : u1 = s[i] :: s.data.toList.drop (i + 1) := by rw [← hd]; exact drop_at s i hi
      have hall : s.data.toList = (escs x ++ 0 :: 0 :: (s[i] :: (escs y ++ [0, 0]))) ++ u2 := by
        rw [hl, hu, f3]; simp
      have hb : tagB (s[i].toNat : Int) = s[i] := tagB_back ht
      have hi3 : i = (escs x).length + 2 := by rw [hi2]; simp
      have hj : q = (escs x ++ 0 :: 0 :: (s[i] :: (escs y ++ [0, 0]))).length := by
        rw [f4]
        simp only [List.length_append, List.length_cons, List.length_nil]
        omega
      refine ⟨?_, ?_, ?_⟩
      · simp only [okB]
        have b1 : (⟨x.toArray⟩ : ByteArray).size ≤ 12 := by simpa [ByteArray.size] using e2
        have b2 : (⟨y.toArray⟩ : ByteArray).size ≤ 12 := by simpa [ByteArray.size] using f2
        exact decide_eq_true ⟨b1, b2, by omega, by omega⟩
      · apply bytes_ext
        rw [rowB_list, hb, ByteArray.data_extract, Array.toList_extract, hall, hj]
        show List.take (_ - 0) (List.drop 0 _) = _
        rw [List.drop_zero, Nat.sub_zero, List.take_left]
      · rw [← data_toList_size, hall, hj]; simp
end Go.Proofs.YtgeepfoknhhcjaaDoor
