/-
  laws.FnSortedPieces returns true for every code. No conditions.
-/
import Derived.Test.YtjnljobncdpkkabSorted
import Derived.Test.YtjnljobncdpkkabStepCall
namespace Go.Proofs.Ytjnljobncdpkkab
open Go.RowKit

theorem rowsOk_sub {l : List RowV} (h : rowsOk l = true) {m : List RowV} (hs : m.Sublist l) : rowsOk m = true := by
  unfold rowsOk at h ⊢
  rw [Bool.and_eq_true] at h ⊢
  refine ⟨decide_eq_true ?_, List.all_eq_true.2 fun x hx => List.all_eq_true.1 h.2 x (hs.subset hx)⟩
  have := of_decide_eq_true h.1
  have := hs.length_le
  omega
theorem pieces_perm (l : List RowV) (k : Nat) : (sortL (l.take k) ++ l.drop k).Perm l := by
  have := (sortL_perm' (l.take k)).append_right (l.drop k)
  rwa [List.take_append_drop] at this
/-- The first k rows, and the others, of rows that can be read. -/
theorem Rd.take {w : World} {B n k : Nat} {a : Option Addr} {rs : List RowV} (h : Rd w B 3 a n (flat rs)) (hk : k ≤ n) : Rd w B 3 a k (flat (rs.take k)) := by
  have hl := h.rows_length
  refine ⟨by rw [flat_length, List.length_take, hl, Nat.min_eq_left hk], fun hp => ?_⟩
  obtain ⟨b, off, e, hb, hc⟩ := h.2 (by omega)
  exact ⟨b, off, e, hb, fun j u hu => hc j u (flat_get_take hu)⟩
theorem Rd.drop {w : World} {B n k g o : Nat} {rs : List RowV} (h : Rd w B 3 (some ⟨g, o, none⟩) n (flat rs)) (hk : k ≤ n) : Rd w B 3 (some ⟨g, o + k * 3, none⟩) (n - k) (flat (rs.drop k)) := by
  have hl := h.rows_length
  refine ⟨by rw [flat_length, List.length_drop, hl], fun hp => ?_⟩
  obtain ⟨b, off, e, hb, hc⟩ := h.2 (by omega)
  obtain ⟨rfl, rfl⟩ : g = b ∧ o = off := by injection e with e; injection e with e1 e2; exact ⟨e1, e2⟩
  refine ⟨g, o + k * 3, rfl, hb, fun j u hu => ?_⟩
  have := hc (k * 3 + j) u (flat_get_drop (by rw [hl]; exact hk) hu)
  rwa [← Nat.add_assoc] at this
theorem Rd.drop_if {w : World} {B n k cap g : Nat} {rs : List RowV} (h : Rd w B 3 (some ⟨g, 0, none⟩) n (flat rs)) (hk : k ≤ n) (hn : n ≤ cap) : Rd w B 3 (if cap = k then some ⟨g, 0, none⟩ else some ⟨g, k * 3, none⟩) (n - k) (flat (rs.drop k)) := by
  have h1 := h.drop hk
  rw [Nat.zero_add] at h1
  split
  · refine ⟨h1.1, fun hp => ?_⟩
    omega
  · exact h1
set_option maxRecDepth 100000 in
set_option maxHeartbeats 8000000 in
theorem walk_SortedPieces (a : Option Addr) (len cap : Nat) (xs : List Value) (w : World) (hI : IsCode w a len cap xs) :
    Calls Try.prog 10 #[.slice a len cap] w fun e w' => e = .returned (.bool true) ∧ Below w.heap.size w w' := by
  obtain ⟨i0, hi, hz0, hz1, hz2⟩ := info_parts infoRow
  have hI0 := hI.by_
  obtain ⟨hlc, hcm, _, _⟩ := hI
  go_enter Try.func10, Try.ntmps10
  go_wp2_with fail
  refine (big_any a len cap w (by omega)).mono ?_
  rintro e w0 ⟨rfl, rfl⟩
  by_cases hbig : 1048576 < len
  · have hd : decide (1048576 < len) = true := by simpa using hbig
    rw [hd]
    go_wp2_with fail
    go_ret
    exact ⟨rfl, Below.refl _ _⟩
  have hd : decide (1048576 < len) = false := by simpa using hbig
  rw [hd]
  go_wp2_with fail
  refine (drawSorted_any a len cap w (by omega) hI0).mono ?_
  rintro e w1 ⟨l, lb, lc, hll, hok, rfl, hO1, hb1⟩
  have L1 := Rd.of_own hO1
  have hlcap : l.length ≤ lc := own_cap hO1
  have s1 := hb1.size
  clear hO1 hI0
  go_wp2_with fail
  refine (implSorted_any _ l.length lc l w1 (by omega) hok L1).mono ?_
  rintro e w2 ⟨sa, sc, rfl, hb2, hS2⟩
  have B2 := hb1.trans (hb2.mono s1)
  have S2 := Rd.of_own hS2
  have L2 := (L1.below hb2 (Nat.le_refl _)).more hb2.size
  clear L1 hS2
  go_wp2_with fail
  refine (specSorted_any _ l.length lc l w2 (by omega) hok L2).mono ?_
  rintro e w3 ⟨ta, tc, rfl, hb3, hT3⟩
  have B3 := B2.trans (hb3.mono B2.size)
  have T3 := Rd.of_own hT3
  have S3 := (S2.below hb3 (Nat.le_refl _)).more hb3.size
  have L3 := (L2.below hb3 (Nat.le_refl _)).more hb3.size
  clear L2 S2 hT3 hb2 hb3 B2
  have hsm : (sortedR l).length ≤ 1048576 := sortedS_le l
  go_wp2_with fail
  refine (sameRows_same sa ta _ sc tc (sortedR l) w3 hsm S3 T3).mono ?_
  rintro e w4 ⟨rfl, hb4⟩
  have B4 := B3.trans (hb4.mono B3.size)
  have S4 := (S3.below hb4 (Nat.le_refl _)).more hb4.size
  have T4 := (T3.below hb4 (Nat.le_refl _)).more hb4.size
  have L4 := (L3.below hb4 (Nat.le_refl _)).more hb4.size
  clear L3 S3 T3 hb4 B3 hb1 s1
  cases hq : rowsOk l
  · go_wp2_with fail
    refine (sameRows_same sa ta _ sc tc (sortedR l) w4 hsm S4 T4).mono ?_
    rintro e w5 ⟨rfl, hb5⟩
    have B5 := B4.trans (hb5.mono B4.size)
    clear S4 T4 L4 hb5 B4
    go_wp2_with fail
    go_ret
    exact ⟨rfl, B5⟩
  have HS := Lib.hid (show sortedR l = sortL l by unfold sortedR; rw [hq]; rfl)
  have HL := Lib.hid (sortL_length l)
  rw [HS.out, HL.out] at S4
  rw [HS.out, HL.out]
  obtain ⟨k, hk1, hk2⟩ : ∃ k : Nat, k ≤ l.length ∧ (k : Int) = (len : Int) % ((l.length : Int) + 1) := ⟨len % (l.length + 1), by have := Nat.mod_lt len (show 0 < l.length + 1 by omega); omega, by simp⟩
  have Hk := Lib.hid hk2
  have Hkn := Lib.hid (show len % (l.length + 1) = k by have h := hk2; exact (Int.ofNat.inj (by simpa using h)).symm)
  have HA := Lib.hid (rowsOk_sub hq (List.take_sublist k l))
  have HAs := Lib.hid (show sortedR (l.take k) = sortL (l.take k) by unfold sortedR; rw [HA.out]; rfl)
  have HAl := Lib.hid (show (sortL (l.take k)).length = k by rw [sortL_length, List.length_take]; omega)
  have HP := Lib.hid (pieces_perm l k)
  have HBo := Lib.hid (show rowsOk (sortL (l.take k) ++ l.drop k) = true by rw [rowsOk_perm HP.out, hq])
  have HBs := Lib.hid (show sortedR (sortL (l.take k) ++ l.drop k) = sortL l by unfold sortedR; rw [HBo.out, if_pos rfl]; exact sortL_of_perm HP.out)
  have HCo := Lib.hid (show rowsOk (sortL l) = true by rw [rowsOk_perm (sortL_perm' l), hq])
  have HCs := Lib.hid (show sortedR (sortL l) = sortL l by unfold sortedR; rw [HCo.out, if_pos rfl]; exact sortL_of_perm (sortL_perm' l))
  have hok' := sortL_ok hok
  have hokA : ∀ r ∈ l.take k, r.Ok := fun r hr => hok r (List.mem_of_mem_take hr)
  have hokB : ∀ r ∈ sortL (l.take k) ++ l.drop k, r.Ok := fun r hr => hok r (HP.out.mem_iff.1 hr)
  clear T4 hk2 HS hq
  have C := implSorted_any (some ⟨lb, 0, none⟩) k lc (l.take k) w4 (by omega) hokA (L4.take hk1)
  unfold SortedOut at C
  rw [HAs.out, HA.out, HAl.out] at C
  clear HAs HA
  have hr1 : 0 ≤ (len : Int) % ((l.length : Int) + 1) ∧ (len : Int) % ((l.length : Int) + 1) ≤ (lc : Int) := by rw [← Hk.out]; omega
  go_wp2_with fail
  rw [← Hk.out]
  rw [Hkn.out]
  refine C.mono ?_
  clear C hr1
  rintro e w5 ⟨pa, pc, rfl, hb5, hO5⟩
  have B5 := B4.trans (hb5.mono B4.size)
  have P5 := Rd.of_own hO5
  have S5 := (S4.below hb5 (Nat.le_refl _)).more hb5.size
  have L5 := (L4.below hb5 (Nat.le_refl _)).more hb5.size
  clear L4 S4 hb5 hO5 B4
  have hkl : (k : Int) ≤ (l.length : Int) := by omega
  have HB6 := Lib.hid (((Below.refl w5.heap.size w5).alloc (Nat.le_refl _) (Obj.cells #[] 35)).drew)
  have HE := Lib.hid (show (w5.alloc (Obj.cells #[] 35)).drew.ownsRow w5.heap.size 35 3 (.slice (some ⟨w5.heap.size, 0, none⟩) 0 0) 0 [] from World.ownsRow_lit (base := w5.heap.size) (size := 3) w5 #[] 0 (Nat.le_refl _) (Nat.zero_le _) rfl)
  have HP5 := Lib.hid (P5.below HB6.out (Nat.le_refl _))
  have HD5 := Lib.hid (L5.drop_if hk1 hlcap)
  have HS5 := Lib.hid S5
  have Hn := Lib.hid (show k + (l.length - k) = l.length by omega)
  have hm1 : 0 + k ≤ maxLen := by unfold maxLen; omega
  have hm2 : (0 + k) * 40 ≤ 140737488355328 := by omega
  have hm3 : k + (l.length - k) ≤ maxLen := by unfold maxLen; omega
  have hm4 : (k + (l.length - k)) * 40 ≤ 140737488355328 := by omega
  clear P5 L5 S5
  go_wp2_with fail
  go_region_law (first
    | (refine step_append_rd rfl (.tmp 64) (.tmp 65) 28 rfl w5.heap.size 35 i0 (.agg #[.string ⟨#[]⟩, .int .i64 0, .string ⟨#[]⟩]) 3 40 Try.underlying28 hi hz0 hz1 hz2 rfl (by decide) (.slice (some ⟨w5.heap.size, 0, none⟩) 0 0) 0 [] rfl HE.out _ w5.heap.size k pc (flat (sortL (l.take k))) rfl HP5.out (flat_one _) hm1 hm2 HB6.out.size ?_; intro v6 w6 hO6 hg6 _; rw [Nat.zero_add, List.nil_append] at hO6; obtain ⟨a6, c6, rfl⟩ := own_slice' hO6; have b6 := HB6.out.grown hg6 HB6.out.size (fun q e => (own_ge HE.out q e).1))
    | (refine step_append_rd rfl (.tmp 66) (.tmp 69) 28 rfl w5.heap.size 35 i0 (.agg #[.string ⟨#[]⟩, .int .i64 0, .string ⟨#[]⟩]) 3 40 Try.underlying28 hi hz0 hz1 hz2 rfl (by decide) (.slice a6 k c6) k _ rfl hO6 _ w5.heap.size (l.length - k) (lc - k) (flat (l.drop k)) rfl (HD5.out.below b6 (Nat.le_refl _)) (flat_one _) hm3 hm4 b6.size ?_; intro v7 w7 hO7 hg7 _; rw [Hn.out, ← flat_append] at hO7; obtain ⟨a7, c7, rfl⟩ := own_slice' hO7; have b7 := b6.grown hg7 b6.size (fun q e => (own_ge hO6 q e).1); clear hO6 hg7 hg6)
    | (refine step_sorted rfl 70 28 rfl (.slice a7 l.length c7) rfl _ (implSorted_any a7 l.length c7 _ w7 (by omega) hokB (Rd.of_own hO7)) ?_; unfold SortedOut; rw [HBs.out, HBo.out, HL.out]; rintro e w8 ⟨qa, qc, rfl, hb8, hO8⟩; refine ⟨_, rfl, ?_⟩))
  have B7 := B5.trans (b7.mono B5.size)
  have B8 := B7.trans (hb8.mono B7.size)
  have S8 := ((HS5.out.below b7 (Nat.le_refl _)).more b7.size).below hb8 (Nat.le_refl _)
  have S8 := S8.more hb8.size
  have Q8 := Rd.of_own hO8
  clear hO7 hO8 b6 b7 hb8 B5 B7 HE HP5 HD5 HS5 HB6 hm1 hm2 hm3 hm4 Hn hokB HBo HBs
  go_wp2_with fail
  all_goals
    refine (implSorted_any sa l.length sc (sortL l) w8 (by omega) hok' S8).mono ?_
    unfold SortedOut
    rw [HCs.out, HCo.out, HL.out]
    rintro e w9 ⟨ra, rc, rfl, hb9, hO9⟩
    have B9 := B8.trans (hb9.mono B8.size)
    have S9 := (S8.below hb9 (Nat.le_refl _)).more hb9.size
    have Q9 := (Q8.below hb9 (Nat.le_refl _)).more hb9.size
    have R9 := Rd.of_own hO9
    clear hb9 hO9 B8 S8 Q8
    have hl2 : (sortL l).length ≤ 1048576 := by rw [HL.out]; omega
    go_wp2_with fail
    have CA := sameRows_same qa sa (sortL l).length qc sc (sortL l) w9 hl2 (by rw [HL.out]; exact Q9) (by rw [HL.out]; exact S9)
    rw [HL.out] at CA
    refine CA.mono ?_
    rintro e w10 ⟨rfl, hb10⟩
    have B10 := B9.trans (hb10.mono B9.size)
    have S10 := (S9.below hb10 (Nat.le_refl _)).more hb10.size
    have R10 := (R9.below hb10 (Nat.le_refl _)).more hb10.size
    clear hb10 B9 S9 R9 Q9 CA
    go_wp2_with fail
    have CB := sameRows_same ra sa (sortL l).length rc sc (sortL l) w10 hl2 (by rw [HL.out]; exact R10) (by rw [HL.out]; exact S10)
    rw [HL.out] at CB
    refine CB.mono ?_
    rintro e w11 ⟨rfl, hb11⟩
    have B11 := B10.trans (hb11.mono B10.size)
    clear hb11 B10 S10 R10 CB
    go_wp2_with fail
    go_ret
    exact ⟨rfl, B11⟩
end Go.Proofs.Ytjnljobncdpkkab
