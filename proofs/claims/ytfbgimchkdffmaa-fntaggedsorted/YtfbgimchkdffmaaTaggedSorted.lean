/-
  laws.FnTaggedSorted returns true for every code. No conditions.
-/
import Derived.Test.YtfbgimchkdffmaaOpenBytes
import Derived.Test.YtfbgimchkdffmaaSorted
import Derived.Test.YtfbgimchkdffmaaTaggedFns
import Derived.Test.YtfbgimchkdffmaaDrawTagged
namespace Go.Proofs.Ytfbgimchkdffmaa
open Go.RowKit
theorem filter_sorted (l : List RowV) (p : RowV → Bool) : (sortL l).filter p = sortL (l.filter p) :=
  sortL_unique (List.Pairwise.sublist List.filter_sublist (sortL_asc l)) ((sortL_perm' l).filter p)
theorem rowsOk_filter {l : List RowV} (p : RowV → Bool) (h : rowsOk l = true) : rowsOk (l.filter p) = true := by
  unfold rowsOk at *
  rw [Bool.and_eq_true] at *
  obtain ⟨h1, h2⟩ := h
  refine ⟨decide_eq_true ?_, ?_⟩
  · have := of_decide_eq_true h1
    have := List.length_filter_le p l
    omega
  · rw [List.all_eq_true] at *
    exact fun r hr => h2 r ((List.mem_filter.1 hr).1)
theorem taggedS_ok {l : List RowV} (t : Int) (h : ∀ r ∈ l, r.Ok) : ∀ r ∈ taggedS l t, r.Ok := by
  unfold taggedS
  split
  · exact fun r hr => h r ((List.mem_filter.1 hr).1)
  · simp
set_option maxRecDepth 100000 in
set_option maxHeartbeats 4000000 in
theorem walk_TaggedSorted (a : Option Addr) (len cap : Nat) (xs : List Value) (w : World) (hI : IsCode w a len cap xs) :
    Calls Try.prog 11 #[.slice a len cap] w fun e w' => e = .returned (.bool true) ∧ Below w.heap.size w w' := by
  have hI0 := hI.by_
  obtain ⟨hlc, hcm, _, _⟩ := hI
  go_enter Try.func11, Try.ntmps11
  go_wp2_with fail
  refine (big_any a len cap w (by omega)).mono ?_
  rintro e w0 ⟨rfl, rfl⟩
  by_cases hbig : 1048576 < len
  · have hd : decide (1048576 < len) = true := by simpa using hbig
    rw [hd]
    go_wp2_with fail
    go_ret
    exact ⟨rfl, Below.refl _ _⟩
  have hd : decide (1048576 < len) = false := by simpa using hbig
  rw [hd]
  go_wp2_with fail
  refine (drawTagged_any a len cap w (by omega) hI0).mono ?_
  rintro e w1 ⟨l, t, lb, lc, hll, hok, _, rfl, hO, hb⟩
  have B := hb
  clear hb
  have L := Rd.of_own hO
  clear hO
  have htl := taggedS_le l t
  have htok := taggedS_ok t hok
  go_wp2_with fail
  refine (implTagged_any _ l.length lc l t w1 (by omega) hok L).mono ?_
  rintro e w2 ⟨ta, tc, rfl, hb, hO⟩
  replace B := B.trans (hb.mono B.size)
  replace L := (L.below hb (Nat.le_refl _)).more hb.size
  clear hb
  have T := Rd.of_own hO
  clear hO
  go_wp2_with fail
  refine (implSorted_any _ l.length lc l w2 (by omega) hok L).mono ?_
  rintro e w3 ⟨sa, sc, rfl, hb, hO⟩
  replace B := B.trans (hb.mono B.size)
  replace L := (L.below hb (Nat.le_refl _)).more hb.size
  replace T := (T.below hb (Nat.le_refl _)).more hb.size
  clear hb
  have S := Rd.of_own hO
  clear hO
  go_wp2_with fail
  refine (implSorted_any ta _ tc (taggedS l t) w3 htl htok T).mono ?_
  rintro e w4 ⟨ua, uc, rfl, hb, hO⟩
  replace B := B.trans (hb.mono B.size)
  replace L := (L.below hb (Nat.le_refl _)).more hb.size
  replace T := (T.below hb (Nat.le_refl _)).more hb.size
  replace S := (S.below hb (Nat.le_refl _)).more hb.size
  clear hb
  have U := Rd.of_own hO
  clear hO
  go_wp2_with fail
  refine (specTagged_any _ l.length lc l t w4 (by omega) hok L).mono ?_
  rintro e w5 ⟨va, vc, rfl, hb, hO⟩
  replace B := B.trans (hb.mono B.size)
  replace L := (L.below hb (Nat.le_refl _)).more hb.size
  replace T := (T.below hb (Nat.le_refl _)).more hb.size
  replace S := (S.below hb (Nat.le_refl _)).more hb.size
  replace U := (U.below hb (Nat.le_refl _)).more hb.size
  clear hb
  have V := Rd.of_own hO
  clear hO
  go_wp2_with fail
  refine (sameRows_same ta va _ tc vc (taggedS l t) w5 htl T V).mono ?_
  rintro e w6 ⟨rfl, hb⟩
  replace B := B.trans (hb.mono B.size)
  replace L := (L.below hb (Nat.le_refl _)).more hb.size
  replace T := (T.below hb (Nat.le_refl _)).more hb.size
  replace S := (S.below hb (Nat.le_refl _)).more hb.size
  replace U := (U.below hb (Nat.le_refl _)).more hb.size
  replace V := (V.below hb (Nat.le_refl _)).more hb.size
  clear hb
  cases hq : rowsOk l
  · clear S U V
    go_wp2_with fail
    refine (specTagged_any _ l.length lc l t w6 (by omega) hok L).mono ?_
    rintro e w7 ⟨va2, vc2, rfl, hb, hO⟩
    replace B := B.trans (hb.mono B.size)
    replace L := (L.below hb (Nat.le_refl _)).more hb.size
    replace T := (T.below hb (Nat.le_refl _)).more hb.size
    clear hb
    have V := Rd.of_own hO
    clear hO
    go_wp2_with fail
    refine (sameRows_same ta va2 _ tc vc2 (taggedS l t) w7 htl T V).mono ?_
    rintro e w8 ⟨rfl, hb⟩
    replace B := B.trans (hb.mono B.size)
    replace L := (L.below hb (Nat.le_refl _)).more hb.size
    replace T := (T.below hb (Nat.le_refl _)).more hb.size
    replace V := (V.below hb (Nat.le_refl _)).more hb.size
    clear hb
    go_wp2_with fail
    go_ret
    exact ⟨rfl, B⟩
  · have HS := Lib.hid (show sortedR l = sortL l by unfold sortedR; rw [hq]; rfl)
    have HT := Lib.hid (show taggedS l t = l.filter (fun r => r.tag == t) by unfold taggedS; rw [hq]; rfl)
    have HF := Lib.hid (show rowsOk (taggedS l t) = true by rw [HT.out]; exact rowsOk_filter _ hq)
    have HU := Lib.hid (show sortedR (taggedS l t) = sortL (taggedS l t) by unfold sortedR; rw [HF.out]; rfl)
    have HK := Lib.hid (show taggedS (sortL l) t = sortL (taggedS l t) by rw [HT.out, ← filter_sorted]; unfold taggedS; rw [rowsOk_perm (sortL_perm' l), hq]; rfl)
    have HL := Lib.hid (sortL_length l)
    have hok2 := sortL_ok hok
    have hul : (sortL (taggedS l t)).length ≤ 1048576 := by rw [sortL_length]; exact htl
    clear T V L hq
    rw [HS.out, HL.out] at S
    rw [HU.out] at U
    rw [HF.out]
    rw [HS.out, HL.out, HU.out]
    have C := implTagged_any sa l.length sc (sortL l) t w6 (by omega) hok2 S
    unfold RowsOut at C
    rw [HK.out] at C
    clear HS HT HF HU HK HL S
    go_wp2_with fail
    refine (C).mono ?_
    rintro e w7 ⟨xa, xc, rfl, hb, hO⟩
    replace B := B.trans (hb.mono B.size)
    replace U := (U.below hb (Nat.le_refl _)).more hb.size
    clear hb
    have X := Rd.of_own hO
    clear hO C
    go_wp2_with fail
    refine (sameRows_same xa ua _ xc uc (sortL (taggedS l t)) w7 hul X U).mono ?_
    rintro e w8 ⟨rfl, hb⟩
    replace B := B.trans (hb.mono B.size)
    replace U := (U.below hb (Nat.le_refl _)).more hb.size
    replace X := (X.below hb (Nat.le_refl _)).more hb.size
    clear hb
    go_wp2_with fail
    go_ret
    exact ⟨rfl, B⟩
end Go.Proofs.Ytfbgimchkdffmaa
