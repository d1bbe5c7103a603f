/-
  laws.FnRangeMore returns true for every code. No conditions.
-/
import Derived.Test.YtjnljobncdpkkabDrawCuts
import Derived.Test.YtjnljobncdpkkabRangeFns
import Derived.Test.YtjnljobncdpkkabSame
import Derived.Test.YtjnljobncdpkkabOpenBytes
namespace Go.Proofs.Ytjnljobncdpkkab
open Go.RowKit

theorem bl_more : ∀ (x : List UInt8) (b : UInt8), Op.bytesLess x (x ++ [b]) = true
  | [], b => by simp [Op.bytesLess]
  | a :: x, b => by simp [Op.bytesLess, bl_more x b]
theorem bl_empty (x : List UInt8) : Op.bytesLess x [] = false := by cases x <;> simp [Op.bytesLess]
theorem rangeN_mono {ss : List ByteArray} {k m : ByteArray} (h : ∀ c : ByteArray, leB k c = true → leB m c = true) : rangeN ss k ≤ rangeN ss m := by
  unfold rangeN
  exact List.countP_mono_left fun c _ hc => h c hc
theorem leB_more {k m c : ByteArray} (hm : Op.bytesLess k.toList m.toList = true) (h : leB k c = true) : leB m c = true := by
  unfold leB at h ⊢
  rw [Bool.or_eq_true] at h ⊢
  left
  rcases h with h | h
  · exact bl_trans h hm
  · rw [eq_of_beq h]; exact hm
theorem leB_empty {k e c : ByteArray} (he : e.toList = []) (h : leB e c = true) : leB k c = true := by
  unfold leB at h
  rw [he, bl_empty, Bool.false_or] at h
  have hc := eq_of_beq h
  unfold leB
  rw [hc]
  cases k.toList <;> simp [Op.bytesLess]
theorem bl_a (k : ByteArray) : Op.bytesLess k.toList (k ++ ⟨#[97]⟩ : ByteArray).toList = true := by
  rw [ByteArray.toList_eq, ByteArray.toList_eq, ByteArray.data_append, Array.toList_append]
  exact bl_more _ _
set_option maxRecDepth 100000 in
set_option maxHeartbeats 8000000 in
theorem walk_RangeMore (a : Option Addr) (len cap : Nat) (xs : List Value) (w : World) (hI : IsCode w a len cap xs) :
    Calls Try.prog 3 #[.slice a len cap] w fun e w' => e = .returned (.bool true) ∧ Below w.heap.size w w' := by
  have hI0 := hI.by_
  obtain ⟨hlc, hcm, _, _⟩ := hI
  go_enter Try.func3, Try.ntmps3
  go_wp2_with fail
  refine (big_any a len cap w (by omega)).mono ?_
  rintro e w0 ⟨rfl, rfl⟩
  by_cases hbig : 1048576 < len
  · have hd : decide (1048576 < len) = true := by simpa using hbig
    rw [hd]
    go_wp2_with fail
    go_ret
    exact ⟨rfl, Below.refl _ _⟩
  have hd : decide (1048576 < len) = false := by simpa using hbig
  rw [hd]
  go_wp2_with fail
  refine (drawRangeOf_any a len cap w (by omega) hI0).mono ?_
  rintro e w1 ⟨ss, b, c, k, hle, hmx, hk, rfl, R1, B1⟩
  have hkm : k.size ≤ maxLen := by unfold maxLen; omega
  clear hI0
  go_wp2_with fail
  refine (implRangeOf_any b ss.length c ss k w1 (by omega) hmx hkm R1).mono ?_
  rintro e w2 ⟨rfl, hb2⟩
  have B2 := B1.trans (hb2.mono B1.size)
  have R2 := (R1.below hb2 (Nat.le_refl _)).more hb2.size
  clear R1 B1 hb2
  go_wp2_with fail
  refine (specRangeOf_any b ss.length c ss k w2 (by omega) hmx hkm R2).mono ?_
  rintro e w3 ⟨rfl, hb3⟩
  have B3 := B2.trans (hb3.mono B2.size)
  have R3 := (R2.below hb3 (Nat.le_refl _)).more hb3.size
  clear R2 B2 hb3
  cases hc : cutsB ss
  · have E := Lib.hid (show rangeOf ss k = -1 by simp [rangeOf, hc])
    rw [E.out]
    go_wp2_with fail
    refine (specRangeOf_any b ss.length c ss k w3 (by omega) hmx hkm R3).mono ?_
    rw [E.out]
    rintro e w4 ⟨rfl, hb4⟩
    have B4 := B3.trans (hb4.mono B3.size)
    go_wp2_with fail
    go_ret
    exact ⟨rfl, B4⟩
  have hcl : ss.length < 8 := (cutsB_good hc).1
  have E := Lib.hid (show rangeOf ss k = (rangeN ss k : Nat) by simp [rangeOf, hc]; omega)
  have hks : decide (12 ≤ k.size) = false := by simp; omega
  have hkz : (k.size : Int) < 12 := by omega
  obtain ⟨q, hq⟩ : ∃ q : Nat, q = rangeN ss k := ⟨_, rfl⟩
  have Hq := Lib.hid hq
  have hql := rangeN_le ss k
  rw [E.out, ← hq]
  rw [← hq] at hql
  clear hq
  go_wp2_with fail
  have hz : (k ++ ⟨#[97]⟩ : ByteArray).size = k.size + 1 := by rw [ByteArray.size_append]; rfl
  obtain ⟨p, Hp⟩ : ∃ p : Nat, Hid (p = rangeN ss (k ++ ⟨#[97]⟩)) := ⟨_, Lib.hid rfl⟩
  have hp1 : q ≤ p := by rw [Hq.out, Hp.out]; exact rangeN_mono fun c h => leB_more (bl_a k) h
  have hp2 : p ≤ ss.length := by rw [Hp.out]; exact rangeN_le _ _
  have E2 := Lib.hid (show rangeOf ss (k ++ ⟨#[97]⟩) = (p : Nat) by rw [Hp.out]; simp [rangeOf, hc, hz]; omega)
  have C := implRangeOf_any b ss.length c ss (k ++ ⟨#[97]⟩) w3 (by omega) hmx (by rw [hz]; unfold maxLen; omega) R3
  rw [E2.out] at C
  refine C.mono ?_
  rintro e w4 ⟨rfl, hb4⟩
  have B4 := B3.trans (hb4.mono B3.size)
  have R4 := (R3.below hb4 (Nat.le_refl _)).more hb4.size
  clear C R3 B3 hb4
  have e1 : decide ((q : Int) ≤ (p : Int)) = true := by simp; omega
  have e2 : decide ((p : Int) ≤ (ss.length : Int)) = true := by simp; omega
  go_wp2_with fail
  obtain ⟨o, Ho⟩ : ∃ o : Nat, Hid (o = rangeN ss ⟨#[]⟩) := ⟨_, Lib.hid rfl⟩
  have ho1 : o ≤ q := by rw [Hq.out, Ho.out]; exact rangeN_mono fun c h => leB_empty (by rw [ByteArray.toList_eq]) h
  have E3 := Lib.hid (show rangeOf ss ⟨#[]⟩ = (o : Nat) by rw [Ho.out]; simp [rangeOf, hc, ByteArray.size])
  have C := implRangeOf_any b ss.length c ss ⟨#[]⟩ w4 (by omega) hmx (Nat.zero_le _) R4
  rw [E3.out] at C
  refine C.mono ?_
  rintro e w5 ⟨rfl, hb5⟩
  have B5 := B4.trans (hb5.mono B4.size)
  clear C R4 B4 hb5
  have e3 : decide ((o : Int) ≤ (q : Int)) = true := by simp; omega
  go_wp2_with fail
  go_ret
  exact ⟨rfl, B5⟩
end Go.Proofs.Ytjnljobncdpkkab
