/-
  laws.FnSorted returns true for every code. No conditions.
-/
import Derived.Test.YtjnljobncdpkkabOpenBytes
import Derived.Test.YtjnljobncdpkkabAlike
import Derived.Test.YtjnljobncdpkkabSortedList
import Derived.Test.YtjnljobncdpkkabSortedOkFns
namespace Go.Proofs.Ytjnljobncdpkkab
open Go.RowKit

theorem IsBy.keep' {w w' : World} {a : Option Addr} {n : Nat} (h : IsBy w w.heap.size a n) (hb : Below w.heap.size w w') : IsBy w' w'.heap.size a n := by
  obtain ⟨xs, h1, h2⟩ := h
  exact ⟨xs, (h1.below hb (Nat.le_refl _)).more hb.size, h2⟩
theorem sortL_ok {rs : List RowV} (h : ∀ r ∈ rs, r.Ok) : ∀ r ∈ sortL rs, r.Ok := fun r hr => h r ((sortL_perm' rs).mem_iff.1 hr)
theorem rowsOk_perm {a b : List RowV} (p : a.Perm b) : rowsOk a = rowsOk b := by
  unfold rowsOk
  rw [p.length_eq, p.all_eq]
set_option maxRecDepth 100000 in
theorem drawSortedOk_any (a : Option Addr) (len cap : Nat) (w : World) (hl : len ≤ 1048576) (h : IsBy w w.heap.size a len) :
    Calls Try.prog 42 #[.slice a len cap] w fun e w' => ∃ (l : List RowV) (b : Option Addr) (c : Nat), l.length ≤ 6 ∧ (∀ r ∈ l, r.Ok) ∧ e = .returned (.slice b l.length c) ∧ w'.ownsRow w.heap.size 35 3 (.slice b l.length c) l.length (flat l) ∧ Below w.heap.size w w' := by
  go_enter Try.func42, Try.ntmps42
  go_wp2_with fail
  refine (l1Open_any a len cap w hl h).mono ?_
  rintro e w1 ⟨rfl, hR1, hb1⟩
  go_wp2_with fail
  refine (rows_lit w.heap.size len 6 _ _ hR1 (by omega) (by omega) (by omega)).mono ?_
  rintro e w2 ⟨l, b, c, hll, hok, rfl, hO, hD⟩
  have hlt := hR1.lt
  go_wp2_with fail
  refine (once_lit w.heap.size len 2 _ _ hD.rdr (by omega) (by omega) (by omega)).mono ?_
  rintro e w3 ⟨q, rfl, hD3⟩
  have hO3 := hD3.own hO hlt
  have hb3 := below_drew hb1 (hD.trans hD3)
  cases q
  · have hO4 := own_base' hO3 hb1.size
    clear hO hO3
    go_wp2_with fail
    go_ret
    exact ⟨l, _, c, hll, hok, rfl, hO4, hb3⟩
  · go_wp2_with fail
    refine (l3Sort_any _ l.length c l _ (by omega) (Rd.of_own hO3)).mono ?_
    rintro e w4 ⟨b4, c4, rfl, hO4, hb4⟩
    have hO5 : w4.ownsRow w.heap.size 35 3 (.slice b4 (sortL l).length c4) (sortL l).length (flat (sortL l)) := by
      rw [sortL_length]; exact own_base' hO4 hb3.size
    have hb5 := hb3.trans (hb4.mono hb3.size)
    have E := Lib.hid (sortL_length l)
    clear hO hO3 hO4
    go_wp2_with fail
    go_ret
    rw [← E.out]
    exact ⟨sortL l, b4, c4, by rw [E.out]; exact hll, sortL_ok hok, rfl, hO5, hb5⟩
set_option maxRecDepth 100000 in
set_option maxHeartbeats 4000000 in
theorem walk_Sorted (a : Option Addr) (len cap : Nat) (xs : List Value) (w : World) (hI : IsCode w a len cap xs) :
    Calls Try.prog 9 #[.slice a len cap] w fun e w' => e = .returned (.bool true) ∧ Below w.heap.size w w' := by
  have hI0 := hI.by_
  obtain ⟨hlc, hcm, _, _⟩ := hI
  go_enter Try.func9, Try.ntmps9
  go_wp2_with fail
  refine (big_any a len cap w (by omega)).mono ?_
  rintro e w0 ⟨rfl, rfl⟩
  by_cases hbig : 1048576 < len
  · have hd : decide (1048576 < len) = true := by simpa using hbig
    rw [hd]
    go_wp2_with fail
    go_ret
    exact ⟨rfl, Below.refl _ _⟩
  have hd : decide (1048576 < len) = false := by simpa using hbig
  rw [hd]
  go_wp2_with fail
  refine (drawSorted_any a len cap w (by omega) hI0).mono ?_
  rintro e w1 ⟨l, lb, lc, hll, hok, rfl, hO1, hb1⟩
  have L1 := Rd.of_own hO1
  have s1 := hb1.size
  clear hO1
  -- impl.Sorted
  go_wp2_with fail
  refine (implSorted_any _ l.length lc l w1 (by omega) hok L1).mono ?_
  rintro e w2 ⟨sa, sc, rfl, hb2, hS2⟩
  have B2 := hb1.trans (hb2.mono s1)
  have S2 := Rd.of_own hS2
  have L2 := (L1.below hb2 (Nat.le_refl _)).more hb2.size
  clear L1 hS2
  -- spec.Sorted
  go_wp2_with fail
  refine (specSorted_any _ l.length lc l w2 (by omega) hok L2).mono ?_
  rintro e w3 ⟨ta, tc, rfl, hb3, hT3⟩
  have B3 := B2.trans (hb3.mono B2.size)
  have T3 := Rd.of_own hT3
  have S3 := (S2.below hb3 (Nat.le_refl _)).more hb3.size
  have L3 := (L2.below hb3 (Nat.le_refl _)).more hb3.size
  clear L2 S2 hT3 hb2 hb3 B2
  -- the other draw
  go_wp2_with fail
  refine (drawSortedOk_any a len cap w3 (by omega) (hI0.keep' B3)).mono ?_
  rintro e w4 ⟨x, xb, xc, hxl, hxok, rfl, hX4, hb4⟩
  have B4 := B3.trans (hb4.mono B3.size)
  have X4 := Rd.of_own hX4
  have T4 := (T3.below hb4 (Nat.le_refl _)).more hb4.size
  have S4 := (S3.below hb4 (Nat.le_refl _)).more hb4.size
  have L4 := (L3.below hb4 (Nat.le_refl _)).more hb4.size
  clear L3 S3 T3 hX4 hb4 B3
  have hsm : (sortedR l).length ≤ 1048576 := sortedS_le l
  -- are the results the same
  go_wp2_with fail
  refine (sameRows_same sa ta _ sc tc (sortedR l) w4 hsm S4 T4).mono ?_
  rintro e w5 ⟨rfl, hb5⟩
  have B5 := B4.trans (hb5.mono B4.size)
  have X5 := (X4.below hb5 (Nat.le_refl _)).more hb5.size
  have S5 := (S4.below hb5 (Nat.le_refl _)).more hb5.size
  have T5 := (T4.below hb5 (Nat.le_refl _)).more hb5.size
  have L5 := (L4.below hb5 (Nat.le_refl _)).more hb5.size
  clear L4 S4 T4 X4 hb5 B4
  go_wp2_with fail
  refine (implSortedOk_any xb x.length xc x w5 (by omega) hxok X5).mono ?_
  rintro e w6 ⟨rfl, hb6⟩
  have B6 := B5.trans (hb6.mono B5.size)
  have X6 := (X5.below hb6 (Nat.le_refl _)).more hb6.size
  have S6 := (S5.below hb6 (Nat.le_refl _)).more hb6.size
  have T6 := (T5.below hb6 (Nat.le_refl _)).more hb6.size
  have L6 := (L5.below hb6 (Nat.le_refl _)).more hb6.size
  clear L5 S5 T5 X5 hb6 B5
  go_wp2_with fail
  refine (specSortedOk_any xb x.length xc x w6 (by omega) hxok X6).mono ?_
  rintro e w7 ⟨rfl, hb7⟩
  have B7 := B6.trans (hb7.mono B6.size)
  have X7 := (X6.below hb7 (Nat.le_refl _)).more hb7.size
  have S7 := (S6.below hb7 (Nat.le_refl _)).more hb7.size
  have T7 := (T6.below hb7 (Nat.le_refl _)).more hb7.size
  have L7 := (L6.below hb7 (Nat.le_refl _)).more hb7.size
  clear L6 S6 T6 X6 hb7 B6
  cases hq : rowsOk l
  · have hne : (sortedOk x != sortedOk x) = false := by simp
    have heq : (sortedOk x == sortedOk x) = true := by simp
    have C1 := fun w h => implSortedOk_any xb x.length xc x w (by omega) hxok h
    have C2 := fun w h => specSortedOk_any xb x.length xc x w (by omega) hxok h
    generalize sortedOk x = so at *
    go_wp2_with fail
    refine (sameRows_same sa ta _ sc tc (sortedR l) w7 hsm S7 T7).mono ?_
    rintro e w8 ⟨rfl, hb8⟩
    have B8 := B7.trans (hb8.mono B7.size)
    have X8 := (X7.below hb8 (Nat.le_refl _)).more hb8.size
    clear S7 T7 L7 X7 hb8 B7
    go_wp2_with fail
    refine (C1 w8 X8).mono ?_
    rintro e w9 ⟨rfl, hb9⟩
    have B9 := B8.trans (hb9.mono B8.size)
    have X9 := (X8.below hb9 (Nat.le_refl _)).more hb9.size
    clear X8 hb9 B8 C1
    go_wp2_with fail
    refine (C2 w9 X9).mono ?_
    rintro e w10 ⟨rfl, hb10⟩
    have B10 := B9.trans (hb10.mono B9.size)
    clear X9 hb10 B9 C2
    go_wp2_with fail
    go_ret
    exact ⟨rfl, B10⟩
  · have hne : (sortedOk x != sortedOk x) = false := by simp
    have HS := Lib.hid (show sortedR l = sortL l by unfold sortedR; rw [hq]; rfl)
    have HO := Lib.hid (show sortedOk (sortL l) = true by unfold sortedOk; rw [rowsOk_perm (sortL_perm' l), hq, asc_adjOk (sortL_asc l)]; rfl)
    have HR := Lib.hid (show rowsOk l.reverse = true by rw [rowsOk_perm (List.reverse_perm l), hq])
    have HT := Lib.hid (show sortedR l.reverse = sortL l by unfold sortedR; rw [HR.out, if_pos rfl]; exact sortL_of_perm (List.reverse_perm l))
    have HL := Lib.hid (sortL_length l)
    have hok' := sortL_ok hok
    have hokr : ∀ r ∈ l.reverse, r.Ok := fun r hr => hok r (List.mem_reverse.1 hr)
    have HP := Lib.hid (sortL_perm' l)
    rw [HS.out, HL.out] at S7
    clear T7 X7
    generalize sortedOk x = so at *
    rw [HS.out, HL.out]
    clear HS
    go_wp2_with fail
    refine (back_any _ l.length lc l w7 (by omega) L7).mono ?_
    rintro e w8 ⟨ba, bc, rfl, hK8, hb8⟩
    have B8 := B7.trans (hb8.mono B7.size)
    have K8 := Rd.of_own hK8
    have S8 := (S7.below hb8 (Nat.le_refl _)).more hb8.size
    have L8 := (L7.below hb8 (Nat.le_refl _)).more hb8.size
    clear S7 L7 hK8 hb8 B7
    have C := implSorted_any ba l.length bc l.reverse w8 (by omega) hokr K8
    unfold SortedOut at C
    rw [HT.out, HR.out, HL.out] at C
    clear HT HR
    go_wp2_with fail
    refine C.mono ?_
    rintro e w9 ⟨ra, rc, rfl, hb9, hT9⟩
    have B9 := B8.trans (hb9.mono B8.size)
    have T9 := Rd.of_own hT9
    have S9 := (S8.below hb9 (Nat.le_refl _)).more hb9.size
    have L9 := (L8.below hb9 (Nat.le_refl _)).more hb9.size
    clear S8 L8 hT9 hb9 B8 C K8
    have C3 := implSortedOk_any sa l.length sc (sortL l) w9 (by omega) hok' S9
    rw [HO.out] at C3
    clear HO
    go_wp2_with fail
    refine C3.mono ?_
    rintro e w10 ⟨rfl, hb10⟩
    have B10 := B9.trans (hb10.mono B9.size)
    have T10 := (T9.below hb10 (Nat.le_refl _)).more hb10.size
    have S10 := (S9.below hb10 (Nat.le_refl _)).more hb10.size
    have L10 := (L9.below hb10 (Nat.le_refl _)).more hb10.size
    clear S9 L9 T9 hb10 B9 C3
    go_wp2_with fail
    refine (alike_perm sa _ l.length sc lc (sortL l) l w10 (by omega) HP.out S10 L10).mono ?_
    rintro e w11 ⟨rfl, hb11⟩
    have B11 := B10.trans (hb11.mono B10.size)
    have T11 := (T10.below hb11 (Nat.le_refl _)).more hb11.size
    have S11 := (S10.below hb11 (Nat.le_refl _)).more hb11.size
    clear S10 L10 T10 hb11 B10
    go_wp2_with fail
    refine (sameRows_same ra sa l.length rc sc (sortL l) w11 (by omega) T11 S11).mono ?_
    rintro e w12 ⟨rfl, hb12⟩
    have B12 := B11.trans (hb12.mono B11.size)
    clear S11 T11 hb12 B11
    go_wp2_with fail
    go_ret
    exact ⟨rfl, B12⟩
end Go.Proofs.Ytjnljobncdpkkab
