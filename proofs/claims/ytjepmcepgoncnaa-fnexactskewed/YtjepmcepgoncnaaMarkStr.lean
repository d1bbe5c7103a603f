/-
  laws.markStringS and laws.heldStringS by their contracts: what was written into an owned slice of strings is found there again. Conditions: at most 1048576 strings.
-/
import Derived.Test.YtjepmcepgoncnaaMarkOwn
import Derived.Test.YtjepmcepgoncnaaStrMem
namespace Go.Proofs.Ytjepmcepgoncnaa
open Go.RowKit

def marks (K j : Nat) : List ByteArray := (List.range j).map fun i => markB (K + i)
theorem marks_zero (K : Nat) : marks K 0 = [] := rfl
theorem marks_succ (K j : Nat) : strC (marks K (j + 1)) = strC (marks K j) ++ [.string (markB (K + j))] := by
  simp [strC, marks, List.range_succ]
theorem marks_get {K n j : Nat} (h : j < n) : (marks K n)[j]? = some (markB (K + j)) := by simp [marks, h]
theorem marks_length (K n : Nat) : (marks K n).length = n := by simp [marks]
set_option maxRecDepth 100000 in
set_option maxHeartbeats 1000000 in
theorem markStringS_any (a : Option Addr) (n cap K base : Nat) (xs : List Value) (w : World) (hm : n ≤ 1048576) (h1 : 1 ≤ K) (hK : K ≤ 1048576000) (hO : w.ownsRow base 9 1 (.slice a n cap) n xs) :
    Calls Try.prog 30 #[.slice a n cap, .int .i64 K] w fun e w' => e = .returned (.int .i64 (K + n)) ∧ w'.ownsRow base 9 1 (.slice a n cap) n (strC (marks K n)) ∧ w.grownBy w' (Value.slice a n cap).ownBlock := by
  go_enter Try.func30, Try.ntmps30
  go_wp2
  go_loopw [1, 5] (fun q i wr => ∃ (j : Nat) (ys : List Value), j ≤ n ∧ i = .int .i64 j ∧ q = .int .i64 (K + j) ∧ wr.ownsRow base 9 1 (.slice a n cap) n ys ∧ ys.take j = strC (marks K j) ∧ w.grownBy wr (Value.slice a n cap).ownBlock) (fun _ i _ => n - (intOf i).toNat)
  case atStart => exact ⟨0, xs, Nat.zero_le _, rfl, by simp, hO, by simp [marks_zero, strC], World.grownBy.refl _ _⟩
  case round =>
    obtain ⟨j, ys, hj, rfl, rfl, hY, hx, hg⟩ := hrel
    have Hx := Lib.hid hx
    clear hx
    by_cases hlt : j < n
    · obtain ⟨g, rfl, hbg, hgs⟩ := own_form hY (by omega)
      have hxl : j < ys.length := by rw [hY.1]; omega
      have hcast := Lib.hid (show ((K : Int) + (j : Int)) = ((K + j : Nat) : Int) by simp)
      go_wp2_with fail
      rw [hcast.out]
      refine (markText_any (K + j) _ (by omega) (by omega)).mono ?_
      rintro e w1 ⟨rfl, hb1⟩
      have hY1 := own_below hY hb1
      have hg1 : w.grownBy w1 (some g) := gb_trans hg (gb_of_below hb1 _)
      have f0 := hY1.frozenAt j
      obtain ⟨u0, e0⟩ := own_cell hY1 (j := j) (by omega)
      clear hb1 hY hcast
      go_wp2_with fail
      go_roundw
      case rel => exact ⟨j + 1, _, by omega, by go_num, by go_num, (hY1.stored j _).1, (take_set1 _ Hx.out hxl).trans (marks_succ K j).symm, gb_store hg1 j _⟩
      case measure => simp [intOf]; omega
    · obtain rfl : j = n := by omega
      have hx := Hx.out
      rw [List.take_of_length_le (by rw [hY.1]; omega)] at hx
      subst hx
      go_wp2_with fail
      go_ret
      exact ⟨rfl, hY, hg⟩
set_option maxRecDepth 100000 in
set_option maxHeartbeats 1000000 in
theorem heldStringS_any (a : Option Addr) (n cap K : Nat) (w : World) (hm : n ≤ 1048576) (h1 : 1 ≤ K) (hK : K ≤ 1048576000) (hR : Rd w w.heap.size 1 a n (strC (marks K n))) :
    Calls Try.prog 31 #[.slice a n cap, .int .i64 K] w fun e w' => e = .returned (.int .i64 (K + n)) ∧ Below w.heap.size w w' := by
  go_enter Try.func31, Try.ntmps31
  go_wp2
  go_loopw [1, 5] (fun q i wr => ∃ j : Nat, j ≤ n ∧ i = .int .i64 j ∧ q = .int .i64 (K + j) ∧ Below w.heap.size w wr) (fun _ i _ => n - (intOf i).toNat)
  case atStart => exact ⟨0, Nat.zero_le _, rfl, by simp, Below.refl _ _⟩
  case round =>
    obtain ⟨j, hj, rfl, rfl, hb⟩ := hrel
    by_cases hlt : j < n
    · obtain ⟨b, off, s, rfl, hB, hs, c0⟩ := (hR.below hb (Nat.le_refl _)).str hlt
      obtain rfl : markB (K + j) = s := by rw [marks_get hlt] at hs; injection hs
      have hcast := Lib.hid (show ((K : Int) + (j : Int)) = ((K + j : Nat) : Int) by simp)
      clear hs
      go_wp2_with fail
      go_region_held3 (fun w' => w'.cell? ⟨b, off + j, none⟩ = some (.string (markB (K + j))) ∧ Below w.heap.size w w') (first | exact ⟨c0, hb.drew⟩ | exact ⟨(hb'.cell (p := ⟨b, off + j, none⟩) (Nat.lt_of_lt_of_le hB hb.size)).trans c0, hb.drew.trans (hb'.mono hb.size)⟩)
        (first | (go_at_call 70; rw [hcast.out]; refine (markText_any (K + j) _ (by omega) (by omega)).mono ?_; rintro e w' ⟨rfl, hb'⟩))
      rename_i hH
      obtain ⟨_, hB'⟩ := hH
      clear c0 hb'
      go_wp2_with fail
      go_roundw
      case rel => exact ⟨j + 1, by omega, by go_num, by go_num, hB'⟩
      case measure => simp [intOf]; omega
    · obtain rfl : j = n := by omega
      go_wp2_with fail
      go_ret
      exact ⟨rfl, hb⟩
end Go.Proofs.Ytjepmcepgoncnaa
