/-
  slices.rotateCmpFunc at rows by its contract: two neighbouring ranges change places. Condition: at most 1048576 rows.
-/
import Derived.Test.YtallcholbbfkdaaDoorSwapFns
namespace Go.Proofs.YtallcholbbfkdaaDoor
open Go.RowKit

set_option maxRecDepth 100000 in
set_option maxHeartbeats 2000000 in
theorem rotate_any (g cap N a m b base : Nat) (P X Y S : List RowV) (cf : Value) (w : World) (hN : N ≤ 1048576) (ha : P.length = a) (hm : a + X.length = m) (hb : m + Y.length = b) (hX0 : 0 < X.length) (hY0 : 0 < Y.length) (hO : Holds w base g cap N (P ++ X ++ (Y ++ S))) :
    Calls Tryd.prog 132 #[.slice (some ⟨g, 0, none⟩) N cap, .int .i64 a, .int .i64 m, .int .i64 b, cf] w fun e w' => e = .returned (.tuple #[]) ∧ Holds w' base g cap N (P ++ Y ++ (X ++ S)) ∧ w.grownBy w' (some g) := by
  have hlen : b ≤ N := by have := hO.len; simp at this; omega
  obtain ⟨i0, hi0⟩ : ∃ i0, X.length = i0 := ⟨_, rfl⟩
  obtain ⟨j0, hj0⟩ : ∃ j0, Y.length = j0 := ⟨_, rfl⟩
  have hm' : a + i0 ≤ m ∧ m ≤ a + i0 := by omega
  have hb' : m + j0 ≤ b ∧ b ≤ m + j0 := by omega
  have hp0 : 0 < i0 := by omega
  have hq0 : 0 < j0 := by omega
  clear hm hb hX0 hY0
  have HX := Lib.hid hi0
  have HY := Lib.hid hj0
  have Ha := Lib.hid ha
  clear hi0 hj0 ha
  go_enter Tryd.func132, Tryd.ntmps132
  go_wp2
  go_loopw [10, 11] (fun vi vj wr => ∃ (i j p : Nat) (L X2 Y2 R : List RowV), vi = .int .i64 i ∧ vj = .int .i64 j ∧ 0 < i ∧ 0 < j ∧ p + i ≤ m ∧ m ≤ p + i ∧ j ≤ j0 ∧ i ≤ i0 ∧ Hid (L.length = p) ∧ Hid (X2.length = i) ∧ Hid (Y2.length = j) ∧ Holds wr base g cap N (L ++ X2 ++ (Y2 ++ R)) ∧ w.grownBy wr (some g) ∧ Hid (L ++ Y2 ++ (X2 ++ R) = P ++ Y ++ (X ++ S))) (fun vi vj _ => (intOf vi).toNat + (intOf vj).toNat)
  case atStart => exact ⟨i0, j0, a, P, X, Y, S, by go_num, by go_num, hp0, hq0, by omega, by omega, Nat.le_refl _, Nat.le_refl _, Ha, HX, HY, hO, World.grownBy.refl _ _, Lib.hid rfl⟩
  case round =>
    obtain ⟨i, j, p, L, X2, Y2, R, rfl, rfl, hi, hj, hpm, hmp, hjj, hii, HL, HX2, HY2, hH, hg, HE⟩ := hrel
    clear hO
    by_cases hij : i = j
    · subst hij
      go_wp2_with fail
      rw [show ((m : Int) - (i : Int)) = (p : Int) by omega]
      refine (swapRange_any g cap N p m i base L X2 [] Y2 R cf _ hN HX2.out HY2.out HL.out (by rw [List.length_nil]; omega) (by simpa using hH)).mono ?_
      rintro e w1 ⟨rfl, hH1, hg1⟩
      have hg2 := gb_trans hg hg1
      rw [show L ++ Y2 ++ ([] ++ (X2 ++ R)) = P ++ Y ++ (X ++ S) from HE.out] at hH1
      clear hH hg hg1
      go_wp2_with fail
      go_end0
      exact ⟨rfl, hH1, hg2⟩
    · have hne : ((i : Int) != (j : Int)) = true := by simp; omega
      by_cases hgt : j < i
      · go_wp2_with fail
        rw [show ((m : Int) - (i : Int)) = (p : Int) by omega]
        refine (swapRange_any g cap N p m j base L (X2.take j) (X2.drop j) Y2 R cf _ hN (by rw [List.length_take, HX2.out]; omega) HY2.out HL.out (by rw [List.length_drop, HX2.out]; omega) (by
          have : L ++ X2.take j ++ (X2.drop j ++ (Y2 ++ R)) = L ++ X2 ++ (Y2 ++ R) := by rw [List.append_assoc, ← List.append_assoc (X2.take j), List.take_append_drop, ← List.append_assoc L]
          rw [this]; exact hH)).mono ?_
        rintro e w1 ⟨rfl, hH1, hg1⟩
        have hg2 := gb_trans hg hg1
        have e1 : L ++ Y2 ++ (X2.drop j ++ (X2.take j ++ R)) = (L ++ Y2) ++ X2.drop j ++ (X2.take j ++ R) := by simp
        rw [e1] at hH1
        have HE2 := Lib.hid (show (L ++ Y2) ++ X2.take j ++ (X2.drop j ++ R) = P ++ Y ++ (X ++ S) by
          rw [← HE.out]
          conv => rhs; rw [← List.take_append_drop j X2]
          simp only [List.append_assoc])
        have l1 := Lib.hid (show (L ++ Y2).length = p + j by rw [List.length_append, HL.out, HY2.out])
        have l2 := Lib.hid (show (X2.drop j).length = i - j by rw [List.length_drop, HX2.out])
        have l3 := Lib.hid (show (X2.take j).length = j by rw [List.length_take, HX2.out]; omega)
        clear hH hg hg1 e1
        go_wp2_with fail
        go_roundw
        case rel => exact ⟨i - j, j, p + j, _, _, _, R, by go_num, by go_num, by omega, hj, by omega, by omega, hjj, by omega, l1, l2, l3, hH1, hg2, HE2⟩
        case measure => simp [intOf]; omega
      · obtain ⟨q, hq1, hq2⟩ : ∃ q : Nat, q + i ≤ m + j ∧ m + j ≤ q + i := ⟨m + j - i, by omega, by omega⟩
        go_wp2_with fail
        rw [show ((m : Int) - (i : Int)) = (p : Int) by omega, show ((m : Int) + (j : Int) - (i : Int)) = (q : Int) by omega]
        refine (swapRange_any g cap N p q i base L X2 (Y2.take (j - i)) (Y2.drop (j - i)) R cf _ hN HX2.out (by rw [List.length_drop, HY2.out]; omega) HL.out (by rw [List.length_take, HY2.out]; omega) (by
          have : L ++ X2 ++ (Y2.take (j - i) ++ (Y2.drop (j - i) ++ R)) = L ++ X2 ++ (Y2 ++ R) := by rw [← List.append_assoc (Y2.take (j - i)), List.take_append_drop]
          rw [this]; exact hH)).mono ?_
        rintro e w1 ⟨rfl, hH1, hg1⟩
        have hg2 := gb_trans hg hg1
        have HE2 := Lib.hid (show L ++ Y2.take (j - i) ++ (Y2.drop (j - i) ++ (X2 ++ R)) = P ++ Y ++ (X ++ S) by
          rw [← HE.out, List.append_assoc, ← List.append_assoc (Y2.take (j - i)), List.take_append_drop, List.append_assoc])
        have l2 := Lib.hid (show (Y2.drop (j - i)).length = i by rw [List.length_drop, HY2.out]; omega)
        have l3 := Lib.hid (show (Y2.take (j - i)).length = j - i by rw [List.length_take, HY2.out]; omega)
        clear hH hg hg1
        go_wp2_with fail
        go_roundw
        case rel => exact ⟨i, j - i, p, L, _, _, _, by go_num, by go_num, hi, by omega, by omega, by omega, by omega, by omega, HL, l2, l3, hH1, hg2, HE2⟩
        case measure => simp [intOf]; omega
end Go.Proofs.YtallcholbbfkdaaDoor
