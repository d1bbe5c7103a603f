/-
  laws.markRowS and laws.heldRowS by their contracts: what was written into an owned slice of rows is found there again. Conditions: at most 1048576 rows.
-/
import Derived.Test.YtallcholbbfkdaaDoorMarkOwn
namespace Go.Proofs.YtallcholbbfkdaaDoor
open Go.RowKit

def markRow (K : Nat) : RowV := ⟨markB K, ((K + 1 : Nat) : Int), markB (K + 2)⟩
def marksR (K j : Nat) : List RowV := (List.range j).map fun i => markRow (K + 3 * i)
theorem marksR_succ (K j : Nat) : flat (marksR K (j + 1)) = flat (marksR K j) ++ [.string (markB (K + 3 * j)), .int .i64 ((K + 3 * j + 1 : Nat) : Int), .string (markB (K + 3 * j + 2))] := by
  simp [flat, marksR, List.range_succ, RowV.cells, markRow]
theorem marksR_get {K n j : Nat} (h : j < n) : (marksR K n)[j]? = some (markRow (K + 3 * j)) := by simp [marksR, h]
set_option maxRecDepth 100000 in
set_option maxHeartbeats 1000000 in
theorem markRowS_any (a : Option Addr) (n cap K base : Nat) (xs : List Value) (w : World) (hm : n ≤ 1048576) (h1 : 1 ≤ K) (hK : K ≤ 1048576000) (hO : w.ownsRow base 68 3 (.slice a n cap) n xs) :
    Calls Tryd.prog 15 #[.slice a n cap, .int .i64 K] w fun e w' => e = .returned (.int .i64 (K + 3 * n)) ∧ w'.ownsRow base 68 3 (.slice a n cap) n (flat (marksR K n)) ∧ w.grownBy w' (Value.slice a n cap).ownBlock := by
  go_enter Tryd.func15, Tryd.ntmps15
  go_wp2
  go_loopw [1, 5] (fun q i wr => ∃ (j : Nat) (ys : List Value), j ≤ n ∧ i = .int .i64 j ∧ q = .int .i64 (K + 3 * j) ∧ wr.ownsRow base 68 3 (.slice a n cap) n ys ∧ ys.take (j * 3) = flat (marksR K j) ∧ w.grownBy wr (Value.slice a n cap).ownBlock) (fun _ i _ => n - (intOf i).toNat)
  case atStart => exact ⟨0, xs, Nat.zero_le _, rfl, by simp, hO, by simp [marksR, flat], World.grownBy.refl _ _⟩
  case round =>
    obtain ⟨j, ys, hj, rfl, rfl, hY, hx, hg⟩ := hrel
    have Hx := Lib.hid hx
    clear hx
    by_cases hlt : j < n
    · obtain ⟨g, rfl, hbg, hgs⟩ := own_form hY (by omega)
      have hxl : j * 3 + 2 < ys.length := by rw [hY.1]; omega
      have hcast := Lib.hid (show ((K : Int) + 3 * (j : Int)) = ((K + 3 * j : Nat) : Int) by simp)
      have hcast2 := Lib.hid (show ((K : Int) + 3 * (j : Int) + 1 + 1) = ((K + 3 * j + 2 : Nat) : Int) by simp; omega)
      go_wp2_with fail
      rw [hcast.out]
      refine (markText_any (K + 3 * j) _ (by omega) (by omega)).mono ?_
      rintro e w1 ⟨rfl, hb1⟩
      have hY1 := own_below hY hb1
      have hg1 : w.grownBy w1 (some g) := gb_trans hg (gb_of_below hb1 _)
      have f0 := hY1.frozenAt (j * 3)
      have f1 := hY1.frozenAt (j * 3 + 1)
      obtain ⟨u0, e0⟩ := own_cell hY1 (j := j * 3) (by omega)
      obtain ⟨u1, e1⟩ := own_cell hY1 (j := j * 3 + 1) (by omega)
      have hY2 := ((hY1.stored (j * 3) (.string (markB (K + 3 * j)))).1.stored (j * 3 + 1) (.int .i64 ((K : Int) + 3 * (j : Int) + 1))).1
      have hg2 := gb_store (gb_store hg1 (j * 3) (.string (markB (K + 3 * j)))) (j * 3 + 1) (.int .i64 ((K : Int) + 3 * (j : Int) + 1))
      clear hb1 hY hY1 hg1
      go_wp2_with fail
      rw [hcast2.out]
      refine (markText_any (K + 3 * j + 2) _ (by omega) (by omega)).mono ?_
      rintro e w2 ⟨rfl, hb2⟩
      have hY3 := own_below hY2 hb2
      have hg3 : w.grownBy w2 (some g) := gb_trans hg2 (gb_of_below hb2 _)
      have f2 := hY3.frozenAt (j * 3 + 2)
      obtain ⟨u2, e2⟩ := own_cell hY3 (j := j * 3 + 2) (by omega)
      clear hb2 hY2 hg2 f0 f1 e0 e1
      go_wp2_with fail
      go_roundw
      case rel => exact ⟨j + 1, _, by omega, by go_num, by go_num, (hY3.stored (j * 3 + 2) _).1, (take_set3 _ _ _ Hx.out hxl).trans (by rw [marksR_succ]; simp), gb_store hg3 (j * 3 + 2) _⟩
      case measure => simp [intOf]; omega
    · obtain rfl : j = n := by omega
      have hx := Hx.out
      rw [List.take_of_length_le (by rw [hY.1]; omega)] at hx
      subst hx
      go_wp2_with fail
      go_ret
      exact ⟨rfl, hY, hg⟩
set_option maxRecDepth 100000 in
set_option maxHeartbeats 1000000 in
theorem heldRowS_any (a : Option Addr) (n cap K : Nat) (w : World) (hm : n ≤ 1048576) (h1 : 1 ≤ K) (hK : K ≤ 1048576000) (hR : Rd w w.heap.size 3 a n (flat (marksR K n))) :
    Calls Tryd.prog 46 #[.slice a n cap, .int .i64 K] w fun e w' => e = .returned (.int .i64 (K + 3 * n)) ∧ Below w.heap.size w w' := by
  go_enter Tryd.func46, Tryd.ntmps46
  go_wp2
  go_loopw [1, 5] (fun q i wr => ∃ j : Nat, j ≤ n ∧ i = .int .i64 j ∧ q = .int .i64 (K + 3 * j) ∧ Below w.heap.size w wr) (fun _ i _ => n - (intOf i).toNat)
  case atStart => exact ⟨0, Nat.zero_le _, rfl, by simp, Below.refl _ _⟩
  case round =>
    obtain ⟨j, hj, rfl, rfl, hb⟩ := hrel
    by_cases hlt : j < n
    · obtain ⟨b, off, r, rfl, hB, hs, c0, c1, c2⟩ := (hR.below hb (Nat.le_refl _)).row hlt
      obtain rfl : markRow (K + 3 * j) = r := by rw [marksR_get hlt] at hs; injection hs
      have hcast := Lib.hid (show ((K : Int) + 3 * (j : Int)) = ((K + 3 * j : Nat) : Int) by simp)
      have hcast2 := Lib.hid (show ((K : Int) + 3 * (j : Int) + 1 + 1) = ((K + 3 * j + 2 : Nat) : Int) by simp; omega)
      replace c0 : wr.cell? ⟨b, off + j * 3, none⟩ = some (.string (markB (K + 3 * j))) := c0
      replace c1 : wr.cell? ⟨b, off + j * 3 + 1, none⟩ = some (.int .i64 ((K : Int) + 3 * (j : Int) + 1)) := c1.trans (by simp [markRow])
      replace c2 : wr.cell? ⟨b, off + j * 3 + 2, none⟩ = some (.string (markB (K + 3 * j + 2))) := c2
      clear hs
      go_wp2_with fail
      go_region_held3 (fun w' => w'.cell? ⟨b, off + j * 3, none⟩ = some (.string (markB (K + 3 * j))) ∧ w'.cell? ⟨b, off + j * 3 + 1, none⟩ = some (.int .i64 ((K : Int) + 3 * (j : Int) + 1)) ∧ w'.cell? ⟨b, off + j * 3 + 2, none⟩ = some (.string (markB (K + 3 * j + 2))) ∧ Below w.heap.size w w')
        (first | exact ⟨c0, c1, c2, hb.drew⟩ | exact ⟨(hb'.cell (p := ⟨b, off + j * 3, none⟩) (Nat.lt_of_lt_of_le hB hb.size)).trans c0, (hb'.cell (p := ⟨b, off + j * 3 + 1, none⟩) (Nat.lt_of_lt_of_le hB hb.size)).trans c1, (hb'.cell (p := ⟨b, off + j * 3 + 2, none⟩) (Nat.lt_of_lt_of_le hB hb.size)).trans c2, hb.drew.trans (hb'.mono hb.size)⟩)
        (first | (go_at_call 45; rw [hcast.out]; refine (markText_any (K + 3 * j) _ (by omega) (by omega)).mono ?_; rintro e w' ⟨rfl, hb'⟩))
      rename_i hH
      obtain ⟨d0, d1, d2, hB2⟩ := hH
      clear c0 c1 c2 hb' d0
      go_wp2_with fail
      go_region_held3 (fun w' => w'.cell? ⟨b, off + j * 3 + 2, none⟩ = some (.string (markB (K + 3 * j + 2))) ∧ Below w.heap.size w w')
        (first | exact ⟨d2, hB2.drew⟩ | exact ⟨(hb'.cell (p := ⟨b, off + j * 3 + 2, none⟩) (Nat.lt_of_lt_of_le hB hB2.size)).trans d2, hB2.drew.trans (hb'.mono hB2.size)⟩)
        (first | (go_at_call 45; rw [hcast2.out]; refine (markText_any (K + 3 * j + 2) _ (by omega) (by omega)).mono ?_; rintro e w' ⟨rfl, hb'⟩))
      rename_i hH
      obtain ⟨_, hB3⟩ := hH
      clear d1 d2 hb'
      go_wp2_with fail
      go_roundw
      case rel => exact ⟨j + 1, by omega, by go_num, by go_num, hB3⟩
      case measure => simp [intOf]; omega
    · obtain rfl : j = n := by omega
      go_wp2_with fail
      go_ret
      exact ⟨rfl, hb⟩
end Go.Proofs.YtallcholbbfkdaaDoor
