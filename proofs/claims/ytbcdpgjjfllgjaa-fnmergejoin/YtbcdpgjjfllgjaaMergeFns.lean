/-
  impl.MergeJoin and spec.MergeJoin by their contracts. Conditions: those of each statement.
-/
import Derived.Test.YtbcdpgjjfllgjaaJoinFns
namespace Go.Proofs.Ytbcdpgjjfllgjaa
open Go.RowKit
def mergeJoinB (a b : List RowV) (n : Int) : Bool := sortedOk a && sortedOk b && kindB n
def mergeJoinS (a b : List RowV) (n : Int) : List PairV := if mergeJoinB a b n = true then l5J n a b else []
theorem sortedOk_le5 {rs : List RowV} (h : sortedOk rs = true) : rs.length ≤ 120 := by
  unfold sortedOk at h
  rw [Bool.and_eq_true] at h
  exact rowsOk_le5 h.1
theorem sortedOk_sortL {rs : List RowV} (h : sortedOk rs = true) : sortL rs = rs := by
  unfold sortedOk at h
  rw [Bool.and_eq_true] at h
  exact (sortL_unique (adjOk_asc h.2) (List.Perm.refl _)).symm
theorem mergeJoinS_le (a b : List RowV) (n : Int) : (mergeJoinS a b n).length ≤ 4194304 := by
  unfold mergeJoinS
  split
  · rename_i h
    simp only [mergeJoinB, Bool.and_eq_true] at h
    exact l5J_le (sortedOk_le5 h.1.1) (sortedOk_le5 h.1.2)
  · simp
theorem mergeJoin_no {a b : List RowV} {n : Int} (h : mergeJoinB a b n = false) : mergeJoinS a b n = [] := by unfold mergeJoinS; rw [h]; rfl
theorem mergeJoin_yes {a b : List RowV} {n : Int} (h : mergeJoinB a b n = true) : mergeJoinS a b n = l5J n a b := by unfold mergeJoinS; rw [if_pos h]
set_option maxRecDepth 100000 in
set_option maxHeartbeats 2000000 in
theorem specMergeJoin_any (a0 : Option Addr) (len0 cap0 : Nat) (x0 : List RowV) (a1 : Option Addr) (len1 cap1 : Nat) (x1 : List RowV) (n : Int) (w : World) (hm0 : len0 ≤ 1048576) (hok0 : ∀ r ∈ x0, r.Ok) (hR0 : Rd w w.heap.size 3 a0 len0 (flat x0)) (hm1 : len1 ≤ 1048576) (hok1 : ∀ r ∈ x1, r.Ok) (hR1 : Rd w w.heap.size 3 a1 len1 (flat x1)) :
    Calls Try.prog 24 #[.slice a0 len0 cap0, .slice a1 len1 cap1, .int .i64 n] w (PairsB w (mergeJoinS x0 x1 n) (mergeJoinB x0 x1 n)) := by
  have C0 := specSortedOk_any a0 len0 cap0 x0 w hm0 hok0 hR0
  have hl0 := hR0.rows_length
  have hl1 := hR1.rows_length
  cases h0 : sortedOk x0
  · have hB : mergeJoinB x0 x1 n = false := by unfold mergeJoinB; rw [h0]; rfl
    rw [mergeJoin_no hB, hB]
    rw [h0] at C0
    clear h0 hB hl0 hl1
    go_enter Try.func24, Try.ntmps24
    go_wp2_with fail
    refine C0.mono ?_
    rintro e w1 ⟨rfl, hb⟩
    go_wp2_with fail
    go_ret2
    exact PairsB.no hb
  rw [h0] at C0
  cases h1 : sortedOk x1
  · have hB : mergeJoinB x0 x1 n = false := by unfold mergeJoinB; rw [h1, Bool.and_false]; rfl
    rw [mergeJoin_no hB, hB]
    clear h0 hB hl0 hl1
    go_enter Try.func24, Try.ntmps24
    go_wp2_with fail
    refine C0.mono ?_
    rintro e w1 ⟨rfl, hb⟩
    have C1 := specSortedOk_any a1 len1 cap1 x1 w1 hm1 hok1 ((hR1.below hb (Nat.le_refl _)).more hb.size)
    rw [h1] at C1
    clear h1
    go_wp2_with fail
    refine C1.mono ?_
    rintro e w2 ⟨rfl, hb2⟩
    have B2 := hb.trans (hb2.mono hb.size)
    go_wp2_with fail
    go_ret2
    exact PairsB.no B2
  cases h2 : kindB n
  · have hB : mergeJoinB x0 x1 n = false := by unfold mergeJoinB; rw [h2, Bool.and_false]
    rw [mergeJoin_no hB, hB]
    clear h0 hB hl0 hl1
    go_enter Try.func24, Try.ntmps24
    go_wp2_with fail
    refine C0.mono ?_
    rintro e w1 ⟨rfl, hb⟩
    have C1 := specSortedOk_any a1 len1 cap1 x1 w1 hm1 hok1 ((hR1.below hb (Nat.le_refl _)).more hb.size)
    rw [h1] at C1
    clear h1
    go_wp2_with fail
    refine C1.mono ?_
    rintro e w2 ⟨rfl, hb2⟩
    have B2 := hb.trans (hb2.mono hb.size)
    have C2 := l5Kind_any n false w2 h2
    clear h2
    go_wp2_with fail
    refine C2.mono ?_
    rintro e w3 ⟨rfl, hb3⟩
    have B3 := B2.trans (hb3.mono B2.size)
    go_wp2_with fail
    go_ret2
    exact PairsB.no B3
  have hB : mergeJoinB x0 x1 n = true := by unfold mergeJoinB; rw [h0, h1, h2]; rfl
  rw [mergeJoin_yes hB, hB]
  have q0 : len0 ≤ 120 := by rw [← hl0]; exact sortedOk_le5 h0
  have q1 : len1 ≤ 120 := by rw [← hl1]; exact sortedOk_le5 h1
  have hn := kindB_iff.1 h2
  clear hB hl0 hl1 h0
  go_enter Try.func24, Try.ntmps24
  go_wp2_with fail
  refine C0.mono ?_
  rintro e w1 ⟨rfl, hb⟩
  have C1 := specSortedOk_any a1 len1 cap1 x1 w1 hm1 hok1 ((hR1.below hb (Nat.le_refl _)).more hb.size)
  rw [h1] at C1
  clear h1
  go_wp2_with fail
  refine C1.mono ?_
  rintro e w2 ⟨rfl, hb2⟩
  have B2 := hb.trans (hb2.mono hb.size)
  have C2 := l5Kind_any n true w2 h2
  clear h2
  have HN := Lib.hid hn
  clear hn
  go_wp2_with fail
  refine C2.mono ?_
  rintro e w3 ⟨rfl, hb3⟩
  have B3 := B2.trans (hb3.mono B2.size)
  have C3 := l5Join_any n HN.out a0 a1 len0 cap0 len1 cap1 x0 x1 w3 q0 q1 ((hR0.below B3 (Nat.le_refl _)).more B3.size) ((hR1.below B3 (Nat.le_refl _)).more B3.size)
  clear C0 C1 C2
  go_wp2_with fail
  refine C3.mono ?_
  rintro e w4 ⟨a, c, rfl, hb4, hO⟩
  have B4 := B3.trans (hb4.mono B3.size)
  generalize l5J n x0 x1 = ll at *
  have hO4 := own_base' hO B3.size
  clear C3
  go_wp2_with fail
  go_ret2
  exact ⟨a, c, rfl, B4, hO4⟩
set_option maxRecDepth 100000 in
set_option maxHeartbeats 2000000 in
theorem implMergeJoin_any (a0 : Option Addr) (len0 cap0 : Nat) (x0 : List RowV) (a1 : Option Addr) (len1 cap1 : Nat) (x1 : List RowV) (n : Int) (w : World) (hc0 : len0 ≤ cap0) (hc1 : len1 ≤ cap1) (hm0 : len0 ≤ 1048576) (hok0 : ∀ r ∈ x0, r.Ok) (hR0 : Rd w w.heap.size 3 a0 len0 (flat x0)) (hm1 : len1 ≤ 1048576) (hok1 : ∀ r ∈ x1, r.Ok) (hR1 : Rd w w.heap.size 3 a1 len1 (flat x1)) :
    Calls Try.prog 25 #[.slice a0 len0 cap0, .slice a1 len1 cap1, .int .i64 n] w (PairsB w (mergeJoinS x0 x1 n) (mergeJoinB x0 x1 n)) := by
  have C0 := implSortedOk_any a0 len0 cap0 x0 w hm0 hok0 hR0
  have hl0 := hR0.rows_length
  have hl1 := hR1.rows_length
  have hks := kindOf_some n
  have HQ0 := Lib.hid (fun h : sortedOk x0 = true => sortedOk_le5 h)
  have HQ1 := Lib.hid (fun h : sortedOk x1 = true => sortedOk_le5 h)
  have HS0 := Lib.hid (fun h : sortedOk x0 = true => sortedOk_sortL h)
  have HS1 := Lib.hid (fun h : sortedOk x1 = true => sortedOk_sortL h)
  have HB := Lib.hid (show mergeJoinB x0 x1 n = (sortedOk x0 && sortedOk x1 && kindB n) from rfl)
  go_enter Try.func25, Try.ntmps25
  go_wp2_with fail
  refine (joinKindOf_any n w).mono ?_
  rintro e w0 ⟨rfl, rfl⟩
  rw [hks]
  cases h0 : sortedOk x0
  · have HX := Lib.hid (show mergeJoinB x0 x1 n = false by rw [HB.out, h0]; rfl)
    rw [h0] at C0
    clear h0 HB HQ0 HQ1 HS0 HS1 hl0 hl1
    go_wp2_with fail
    refine C0.mono ?_
    rintro e w1 ⟨rfl, hb⟩
    go_wp2_with fail
    go_ret2
    rw [mergeJoin_no HX.out, HX.out]
    exact PairsB.no hb
  rw [h0] at C0
  have H0 := Lib.hid h0
  clear h0
  go_wp2_with fail
  refine C0.mono ?_
  clear C0
  rintro e w1 ⟨rfl, hb1⟩
  have C1 := implSortedOk_any a1 len1 cap1 x1 w1 hm1 hok1 ((hR1.below hb1 (Nat.le_refl _)).more hb1.size)
  cases h1 : sortedOk x1
  · have HX := Lib.hid (show mergeJoinB x0 x1 n = false by rw [HB.out, h1, Bool.and_false]; rfl)
    rw [h1] at C1
    clear h1 HB HQ0 HQ1 HS0 HS1 hl0 hl1
    go_wp2_with fail
    refine C1.mono ?_
    rintro e w2 ⟨rfl, hb2⟩
    have B2 := hb1.trans (hb2.mono hb1.size)
    go_wp2_with fail
    go_ret2
    rw [mergeJoin_no HX.out, HX.out]
    exact PairsB.no B2
  rw [h1] at C1
  have H1 := Lib.hid h1
  clear h1
  go_wp2_with fail
  refine C1.mono ?_
  clear C1
  rintro e w2 ⟨rfl, hb2⟩
  have B2 := hb1.trans (hb2.mono hb1.size)
  cases h2 : kindB n
  · have HX := Lib.hid (show mergeJoinB x0 x1 n = false by rw [HB.out, h2, Bool.and_false])
    clear h2 HB HQ0 HQ1 HS0 HS1 hl0 hl1 hks
    go_wp2_with fail
    go_ret2
    rw [mergeJoin_no HX.out, HX.out]
    exact PairsB.no B2
  have hB : mergeJoinB x0 x1 n = true := by rw [HB.out, H0.out, H1.out, h2]; rfl
  have HX := Lib.hid hB
  have q0 : len0 ≤ 120 := by rw [← hl0]; exact HQ0.out H0.out
  have q1 : len1 ≤ 120 := by rw [← hl1]; exact HQ1.out H1.out
  obtain ⟨k, hk⟩ : ∃ k, kindOf n = some k := by
    rw [h2] at hks
    exact Option.isSome_iff_exists.1 hks
  have HJ := Lib.hid (show mergeJoinS x0 x1 n = joinL k x0 x1 by rw [mergeJoin_yes hB, ← joinL_l5J hk, HS0.out H0.out, HS1.out H1.out])
  rw [hk]
  have C3 := joined_any k a0 a1 len0 cap0 len1 cap1 x0 x1 w2 q0 q1 hc0 hc1 ((hR0.below B2 (Nat.le_refl _)).more B2.size) ((hR1.below B2 (Nat.le_refl _)).more B2.size)
  generalize joinL k x0 x1 = ll at *
  clear h2 hB HB HQ0 HQ1 HS0 HS1 H0 H1 hl0 hl1 hks hk
  go_wp2_with fail
  refine C3.mono ?_
  rintro e w4 ⟨a, c, rfl, hb4, hO⟩
  have B4 := B2.trans (hb4.mono B2.size)
  have hO4 := own_base' hO B2.size
  clear C3
  go_wp2_with fail
  go_ret2
  rw [HX.out, HJ.out]
  exact ⟨a, c, rfl, B4, hO4⟩
end Go.Proofs.Ytbcdpgjjfllgjaa
