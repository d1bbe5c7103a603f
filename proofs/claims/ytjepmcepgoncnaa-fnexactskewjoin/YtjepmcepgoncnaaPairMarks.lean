/-
  laws.eqPairS, laws.samePairs, laws.markPairS and laws.heldPairS by their contracts: what was written into an owned slice of pairs is found there again. Conditions: at most 1048576 pairs.
-/
import Derived.Test.YtjepmcepgoncnaaMarkOwn
import Derived.Test.YtjepmcepgoncnaaPairRead
import Derived.Laws.StructEq
import Derived.StillTailTactics
import Derived.Deep.RegionHeld3
namespace Go.Proofs.Ytjepmcepgoncnaa
open Go.RowKit

set_option maxRecDepth 100000 in
theorem eqPair_same (p : PairV) (w : World) :
    Calls Try.prog 85 #[.agg #[.string p.key, .string p.l, .string p.r, .bool p.hl, .bool p.hr], .agg #[.string p.key, .string p.l, .string p.r, .bool p.hl, .bool p.hr]] w fun e w' => e = .returned (.bool true) ∧ Below w.heap.size w w' := by
  obtain ⟨k, l, r, x, y⟩ := p
  go_enter Try.func85, Try.ntmps85
  go_wp2
  go_ret
  exact ⟨rfl, bl2 _ _ _⟩
set_option maxRecDepth 100000 in
set_option maxHeartbeats 1000000 in
theorem eqPairS_same (a b : Option Addr) (n ca cb : Nat) (l : List PairV) (w : World) (hm : n ≤ 4194304) (hA : Rd w w.heap.size 5 a n (flatP l)) (hB : Rd w w.heap.size 5 b n (flatP l)) :
    Calls Try.prog 34 #[.slice a n ca, .slice b n cb] w fun e w' => e = .returned (.bool true) ∧ Below w.heap.size w w' := by
  go_enter Try.func34, Try.ntmps34
  go_wp2
  go_loopw [5] (fun i wr => ∃ k : Nat, k ≤ n ∧ i = .int .i64 k ∧ Below w.heap.size w wr) (fun i _ => n - (intOf i).toNat)
  case atStart => exact ⟨0, Nat.zero_le _, rfl, Below.refl _ _⟩
  case round =>
    obtain ⟨k, hk, rfl, hb⟩ := hrel
    by_cases hlt : k < n
    · obtain ⟨b1, o1, r, rfl, hB1, hr, c0, c1, c2, c3, c4⟩ := (hA.below hb (Nat.le_refl _)).pair hlt
      obtain ⟨b2, o2, r', rfl, hB2, hr', d0, d1, d2, d3, d4⟩ := (hB.below hb (Nat.le_refl _)).pair hlt
      obtain rfl : r = r' := by rw [hr] at hr'; injection hr'
      clear hr hr'
      go_wp2_with fail
      refine wp_region_still_tail 8 (by kernel_rfl) (by kernel_rfl) ?_
      simp only [List.take_succ_cons, List.take_zero, List.drop_succ_cons, List.drop_zero]
      change wpStill _ _ wr.drew _ _ _
      repeat still_step
      refine wpStill_nil ?_
      change wpList _ _ _ _ _ wr.drew
      go_wp2_with fail
      refine (eqPair_same r _).mono ?_
      rintro e w1 ⟨rfl, hb1⟩
      clear c0 c1 c2 c3 c4 d0 d1 d2 d3 d4
      go_wp2_with fail
      go_roundw
      case rel => exact ⟨k + 1, by omega, by go_num, hb.drew.trans (hb1.mono hb.size)⟩
      case measure => simp [intOf]; omega
    · go_wp2_with fail
      go_ret
      exact ⟨rfl, hb⟩
def markPB (K : Nat) : Bool := decide (K % 3 = 0)
def markPair (K : Nat) : PairV := ⟨markB K, markB (K + 1), markB (K + 2), markPB (K + 3), markPB (K + 4)⟩
def marksP (K j : Nat) : List PairV := (List.range j).map fun i => markPair (K + 5 * i)
theorem marksP_succ (K j : Nat) : flatP (marksP K (j + 1)) = flatP (marksP K j) ++ [.string (markB (K + 5 * j)), .string (markB (K + 5 * j + 1)), .string (markB (K + 5 * j + 2)), .bool (markPB (K + 5 * j + 3)), .bool (markPB (K + 5 * j + 4))] := by
  simp [flatP, marksP, List.range_succ, PairV.cells, markPair]
theorem marksP_get {K n j : Nat} (h : j < n) : (marksP K n)[j]? = some (markPair (K + 5 * j)) := by simp [marksP, h]
theorem take_set5 {xs A : List Value} {k : Nat} (a b c d e : Value) (h : xs.take (k * 5) = A) (hl : k * 5 + 4 < xs.length) : (((((xs.set (k * 5) a).set (k * 5 + 1) b).set (k * 5 + 2) c).set (k * 5 + 3) d).set (k * 5 + 4) e).take ((k + 1) * 5) = A ++ [a, b, c, d, e] := by
  have hs : ∀ {ys B : List Value} {j : Nat} (v : Value), ys.take j = B → j < ys.length → (ys.set j v).take (j + 1) = B ++ [v] := by
    intro ys B j v h1 h2
    rw [List.take_succ_eq_append_getElem (by simpa using h2), List.take_set_of_le (Nat.le_refl _), h1]
    simp
  have e0 := hs a h (by omega)
  have e1 := hs b e0 (by simp; omega)
  have e2 := hs c e1 (by simp; omega)
  have e3 := hs d e2 (by simp; omega)
  have e4 := hs e e3 (by simp; omega)
  rw [show (k + 1) * 5 = k * 5 + 4 + 1 by omega, e4]
  simp
theorem mod3_eq (x : Nat) : (((x : Nat) : Int) % 3 == 0) = markPB x := by
  unfold markPB
  rw [show ((x : Nat) : Int) % 3 = ((x % 3 : Nat) : Int) from rfl]
  by_cases h : x % 3 = 0
  · rw [h]; rfl
  · rw [decide_eq_false h]
    generalize x % 3 = y at *
    rw [beq_eq_false_iff_ne]
    omega
set_option maxRecDepth 100000 in
set_option maxHeartbeats 2000000 in
theorem markPairS_any (a : Option Addr) (n cap K base : Nat) (xs : List Value) (w : World) (hm : n ≤ 4194304) (h1 : 1 ≤ K) (hK : K ≤ 1048576000) (hO : w.ownsRow base 99 5 (.slice a n cap) n xs) :
    Calls Try.prog 35 #[.slice a n cap, .int .i64 K] w fun e w' => e = .returned (.int .i64 (K + 5 * n)) ∧ w'.ownsRow base 99 5 (.slice a n cap) n (flatP (marksP K n)) ∧ w.grownBy w' (Value.slice a n cap).ownBlock := by
  go_enter Try.func35, Try.ntmps35
  go_wp2
  go_loopw [1, 5] (fun q i wr => ∃ (j : Nat) (ys : List Value), j ≤ n ∧ i = .int .i64 j ∧ q = .int .i64 (K + 5 * j) ∧ wr.ownsRow base 99 5 (.slice a n cap) n ys ∧ ys.take (j * 5) = flatP (marksP K j) ∧ w.grownBy wr (Value.slice a n cap).ownBlock) (fun _ i _ => n - (intOf i).toNat)
  case atStart => exact ⟨0, xs, Nat.zero_le _, rfl, by simp, hO, by simp [marksP, flatP], World.grownBy.refl _ _⟩
  case round =>
    obtain ⟨j, ys, hj, rfl, rfl, hY, hx, hg⟩ := hrel
    have Hx := Lib.hid hx
    clear hx
    by_cases hlt : j < n
    · obtain ⟨g, rfl, hbg, hgs⟩ := own_form hY (by omega)
      have hxl : j * 5 + 4 < ys.length := by rw [hY.1]; omega
      have hcast := Lib.hid (show ((K : Int) + 5 * (j : Int)) = ((K + 5 * j : Nat) : Int) by simp)
      have hcast1 := Lib.hid (show ((K : Int) + 5 * (j : Int) + 1) = ((K + 5 * j + 1 : Nat) : Int) by simp)
      have hcast2 := Lib.hid (show ((K : Int) + 5 * (j : Int) + 1 + 1) = ((K + 5 * j + 2 : Nat) : Int) by simp; omega)
      have hq3 : (((K : Int) + 5 * (j : Int) + 2 + 1) % 3 == 0) = markPB (K + 5 * j + 3) := by
        rw [show ((K : Int) + 5 * (j : Int) + 2 + 1) = ((K + 5 * j + 3 : Nat) : Int) by simp; omega]; exact mod3_eq _
      have hq4 : (((K : Int) + 5 * (j : Int) + 2 + 1 + 1) % 3 == 0) = markPB (K + 5 * j + 4) := by
        rw [show ((K : Int) + 5 * (j : Int) + 2 + 1 + 1) = ((K + 5 * j + 4 : Nat) : Int) by simp; omega]; exact mod3_eq _
      have HM := Lib.hid (marksP_succ K j)
      generalize markPB (K + 5 * j + 3) = m3 at *
      generalize markPB (K + 5 * j + 4) = m4 at *
      go_wp2_with fail
      rw [hcast.out]
      refine (markText_any (K + 5 * j) _ (by omega) (by omega)).mono ?_
      rintro e w1 ⟨rfl, hb1⟩
      have hY1 := own_below hY hb1
      have hg1 : w.grownBy w1 (some g) := gb_trans hg (gb_of_below hb1 _)
      have f0 := hY1.frozenAt (j * 5)
      obtain ⟨u0, e0⟩ := own_cell hY1 (j := j * 5) (by omega)
      have hY2 := (hY1.stored (j * 5) (.string (markB (K + 5 * j)))).1
      have hg2 := gb_store hg1 (j * 5) (.string (markB (K + 5 * j)))
      clear hb1 hY hY1 hg1
      go_wp2_with fail
      rw [hcast1.out]
      refine (markText_any (K + 5 * j + 1) _ (by omega) (by omega)).mono ?_
      rintro e w2 ⟨rfl, hb2⟩
      have hY3 := own_below hY2 hb2
      have hg3 : w.grownBy w2 (some g) := gb_trans hg2 (gb_of_below hb2 _)
      have f1 := hY3.frozenAt (j * 5 + 1)
      obtain ⟨u1, e1⟩ := own_cell hY3 (j := j * 5 + 1) (by omega)
      have hY4 := (hY3.stored (j * 5 + 1) (.string (markB (K + 5 * j + 1)))).1
      have hg4 := gb_store hg3 (j * 5 + 1) (.string (markB (K + 5 * j + 1)))
      clear hb2 hY2 hg2 f0 e0 hY3 hg3
      go_wp2_with fail
      rw [hcast2.out]
      refine (markText_any (K + 5 * j + 2) _ (by omega) (by omega)).mono ?_
      rintro e w3 ⟨rfl, hb3⟩
      have hY5 := own_below hY4 hb3
      have hg5 : w.grownBy w3 (some g) := gb_trans hg4 (gb_of_below hb3 _)
      have f2 := hY5.frozenAt (j * 5 + 2)
      have f3 := hY5.frozenAt (j * 5 + 3)
      have f4 := hY5.frozenAt (j * 5 + 4)
      obtain ⟨u2, e2⟩ := own_cell hY5 (j := j * 5 + 2) (by omega)
      obtain ⟨u3, e3⟩ := own_cell hY5 (j := j * 5 + 3) (by omega)
      obtain ⟨u4, e4⟩ := own_cell hY5 (j := j * 5 + 4) (by omega)
      have hY8 := (((hY5.stored (j * 5 + 2) (.string (markB (K + 5 * j + 2)))).1.stored (j * 5 + 3) (.bool m3)).1.stored (j * 5 + 4) (.bool m4)).1
      have hg8 := gb_store (gb_store (gb_store hg5 (j * 5 + 2) (.string (markB (K + 5 * j + 2)))) (j * 5 + 3) (.bool m3)) (j * 5 + 4) (.bool m4)
      clear hb3 hY4 hg4 f1 e1 hY5 hg5
      go_wp2_with fail
      go_roundw
      case rel => exact ⟨j + 1, _, by omega, by go_num, by go_num, hY8, (take_set5 _ _ _ _ _ Hx.out hxl).trans HM.out.symm, hg8⟩
      case measure => simp [intOf]; omega
    · obtain rfl : j = n := by omega
      have hx := Hx.out
      rw [List.take_of_length_le (by rw [hY.1]; omega)] at hx
      subst hx
      go_wp2_with fail
      go_ret
      exact ⟨rfl, hY, hg⟩
set_option maxRecDepth 100000 in
set_option maxHeartbeats 2000000 in
theorem heldPairS_any (a : Option Addr) (n cap K : Nat) (w : World) (hm : n ≤ 4194304) (h1 : 1 ≤ K) (hK : K ≤ 1048576000) (hR : Rd w w.heap.size 5 a n (flatP (marksP K n))) :
    Calls Try.prog 36 #[.slice a n cap, .int .i64 K] w fun e w' => e = .returned (.int .i64 (K + 5 * n)) ∧ Below w.heap.size w w' := by
  go_enter Try.func36, Try.ntmps36
  go_wp2
  go_loopw [1, 5] (fun q i wr => ∃ j : Nat, j ≤ n ∧ i = .int .i64 j ∧ q = .int .i64 (K + 5 * j) ∧ Below w.heap.size w wr) (fun _ i _ => n - (intOf i).toNat)
  case atStart => exact ⟨0, Nat.zero_le _, rfl, by simp, Below.refl _ _⟩
  case round =>
    obtain ⟨j, hj, rfl, rfl, hb⟩ := hrel
    by_cases hlt : j < n
    · obtain ⟨b, off, r, rfl, hB, hs, c0, c1, c2, c3, c4⟩ := (hR.below hb (Nat.le_refl _)).pair hlt
      obtain rfl : markPair (K + 5 * j) = r := by rw [marksP_get hlt] at hs; injection hs
      have hcast := Lib.hid (show ((K : Int) + 5 * (j : Int)) = ((K + 5 * j : Nat) : Int) by simp)
      have hcast1 := Lib.hid (show ((K : Int) + 5 * (j : Int) + 1) = ((K + 5 * j + 1 : Nat) : Int) by simp)
      have hcast2 := Lib.hid (show ((K : Int) + 5 * (j : Int) + 1 + 1) = ((K + 5 * j + 2 : Nat) : Int) by simp; omega)
      have hq3 : (((K : Int) + 5 * (j : Int) + 2 + 1) % 3 == 0) = markPB (K + 5 * j + 3) := by
        rw [show ((K : Int) + 5 * (j : Int) + 2 + 1) = ((K + 5 * j + 3 : Nat) : Int) by simp; omega]; exact mod3_eq _
      have hq4 : (((K : Int) + 5 * (j : Int) + 2 + 1 + 1) % 3 == 0) = markPB (K + 5 * j + 4) := by
        rw [show ((K : Int) + 5 * (j : Int) + 2 + 1 + 1) = ((K + 5 * j + 4 : Nat) : Int) by simp; omega]; exact mod3_eq _
      replace c0 : wr.cell? ⟨b, off + j * 5, none⟩ = some (.string (markB (K + 5 * j))) := c0
      replace c1 : wr.cell? ⟨b, off + j * 5 + 1, none⟩ = some (.string (markB (K + 5 * j + 1))) := c1
      replace c2 : wr.cell? ⟨b, off + j * 5 + 2, none⟩ = some (.string (markB (K + 5 * j + 2))) := c2
      replace c3 : wr.cell? ⟨b, off + j * 5 + 3, none⟩ = some (.bool (markPB (K + 5 * j + 3))) := c3
      replace c4 : wr.cell? ⟨b, off + j * 5 + 4, none⟩ = some (.bool (markPB (K + 5 * j + 4))) := c4
      clear hs
      generalize markPB (K + 5 * j + 3) = m3 at *
      generalize markPB (K + 5 * j + 4) = m4 at *
      have hC := Lib.hid (show ∀ w', Below wr.heap.size wr w' → w'.cell? ⟨b, off + j * 5, none⟩ = some (.string (markB (K + 5 * j))) ∧ w'.cell? ⟨b, off + j * 5 + 1, none⟩ = some (.string (markB (K + 5 * j + 1))) ∧ w'.cell? ⟨b, off + j * 5 + 2, none⟩ = some (.string (markB (K + 5 * j + 2))) ∧ w'.cell? ⟨b, off + j * 5 + 3, none⟩ = some (.bool m3) ∧ w'.cell? ⟨b, off + j * 5 + 4, none⟩ = some (.bool m4) from fun w' h => ⟨(h.cell (p := ⟨b, off + j * 5, none⟩) (Nat.lt_of_lt_of_le hB hb.size)).trans c0, (h.cell (p := ⟨b, off + j * 5 + 1, none⟩) (Nat.lt_of_lt_of_le hB hb.size)).trans c1, (h.cell (p := ⟨b, off + j * 5 + 2, none⟩) (Nat.lt_of_lt_of_le hB hb.size)).trans c2, (h.cell (p := ⟨b, off + j * 5 + 3, none⟩) (Nat.lt_of_lt_of_le hB hb.size)).trans c3, (h.cell (p := ⟨b, off + j * 5 + 4, none⟩) (Nat.lt_of_lt_of_le hB hb.size)).trans c4⟩)
      clear c1 c2 c3 c4
      go_wp2_with fail
      go_region_held3 (fun w' => w'.cell? ⟨b, off + j * 5, none⟩ = some (.string (markB (K + 5 * j))) ∧ Below wr.heap.size wr w')
        (first | exact ⟨(hC.out _ (Below.refl _ _).drew).1, (Below.refl _ _).drew⟩ | exact ⟨(hC.out _ ((Below.refl _ _).drew.trans hb')).1, (Below.refl _ _).drew.trans hb'⟩)
        (first | (go_at_call 70; rw [hcast.out]; refine (markText_any (K + 5 * j) _ (by omega) (by omega)).mono ?_; rintro e w' ⟨rfl, hb'⟩))
      rename_i hH
      obtain ⟨_, hB1⟩ := hH
      clear hb' c0
      have e1 := (hC.out _ hB1).2.1
      go_wp2_with fail
      go_region_held3 (fun w' => w'.cell? ⟨b, off + j * 5 + 1, none⟩ = some (.string (markB (K + 5 * j + 1))) ∧ Below wr.heap.size wr w')
        (first | exact ⟨(hC.out _ hB1.drew).2.1, hB1.drew⟩ | exact ⟨(hC.out _ (hB1.drew.trans (hb'.mono hB1.size))).2.1, hB1.drew.trans (hb'.mono hB1.size)⟩)
        (first | (go_at_call 70; rw [hcast1.out]; refine (markText_any (K + 5 * j + 1) _ (by omega) (by omega)).mono ?_; rintro e w' ⟨rfl, hb'⟩))
      rename_i hH
      obtain ⟨_, hB2⟩ := hH
      clear hb' e1
      have e2 := (hC.out _ hB2).2.2.1
      go_wp2_with fail
      go_region_held3 (fun w' => w'.cell? ⟨b, off + j * 5 + 2, none⟩ = some (.string (markB (K + 5 * j + 2))) ∧ Below wr.heap.size wr w')
        (first | exact ⟨(hC.out _ hB2.drew).2.2.1, hB2.drew⟩ | exact ⟨(hC.out _ (hB2.drew.trans (hb'.mono hB2.size))).2.2.1, hB2.drew.trans (hb'.mono hB2.size)⟩)
        (first | (go_at_call 70; rw [hcast2.out]; refine (markText_any (K + 5 * j + 2) _ (by omega) (by omega)).mono ?_; rintro e w' ⟨rfl, hb'⟩))
      rename_i hH
      obtain ⟨_, hB3⟩ := hH
      clear hb' e2
      have hB9 := hB3
      obtain ⟨_, _, _, d3, d4⟩ := hC.out _ hB9
      go_wp2_with fail
      have hbr := hb.trans (hB9.mono hb.size)
      go_roundw
      case rel => exact ⟨j + 1, by omega, by go_num, by go_num, hbr⟩
      case measure => simp [intOf]; omega
    · obtain rfl : j = n := by omega
      go_wp2_with fail
      go_ret
      exact ⟨rfl, hb⟩
end Go.Proofs.Ytjepmcepgoncnaa
