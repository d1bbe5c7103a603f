/-
  impl.JoinOf, spec.JoinOf, impl.MergeJoin and spec.MergeJoin by their contracts. Conditions: those of each statement.
-/
import Derived.Test.YtjhicjhgpbighaaSpecJoin
import Derived.Test.YtjhicjhgpbighaaJoined
import Derived.Test.YtjhicjhgpbighaaSortedOkFns
import Derived.Test.YtjhicjhgpbighaaSortedList
namespace Go.Proofs.Ytjhicjhgpbighaa
open Go.RowKit
def kindB (n : Int) : Bool := decide (1 ≤ n) && decide (n ≤ 6)
theorem kindB_iff {n : Int} : kindB n = true ↔ (n = 1 ∨ n = 2 ∨ n = 3 ∨ n = 4 ∨ n = 5 ∨ n = 6) := by
  unfold kindB
  rw [Bool.and_eq_true, decide_eq_true_eq, decide_eq_true_eq]
  omega
theorem kindOf_some (n : Int) : (kindOf n).isSome = kindB n := by
  cases h : kindB n
  · have h2 : ¬ (n = 1 ∨ n = 2 ∨ n = 3 ∨ n = 4 ∨ n = 5 ∨ n = 6) := fun e => by rw [kindB_iff.2 e] at h; cases h
    simp only [not_or] at h2
    obtain ⟨g1, g2, g3, g4, g5, g6⟩ := h2
    simp [kindOf, g1, g2, g3, g4, g5, g6]
  · rcases kindB_iff.1 h with rfl | rfl | rfl | rfl | rfl | rfl <;> rfl
theorem flatMap_len {α β : Type} {f : α → List β} {M : Nat} : ∀ {l : List α}, (∀ x, (f x).length ≤ M) → (l.flatMap f).length ≤ l.length * M
  | [], _ => by simp
  | x :: l, h => by
    have ih := flatMap_len (l := l) h
    have := h x
    rw [List.flatMap_cons, List.length_append, List.length_cons, Nat.succ_mul]
    omega
theorem oneK_le2 {n : Int} {key : ByteArray} {a b : List ByteArray} (ha : a.length ≤ 120) (hb : b.length ≤ 120) : (oneK n key a b).length ≤ 14640 := by
  have h1 : ∀ x : ByteArray, (headK n key x b.length ++ bodyK n key x b).length ≤ 121 := by
    intro x
    have h1 : (headK n key x b.length).length ≤ 1 := by
      unfold headK
      split
      · simp
      · split <;> simp
    have h2 : (bodyK n key x b).length ≤ 120 := by
      unfold bodyK
      split
      · simpa using hb
      · simp
    rw [List.length_append]
    omega
  have h2 : (tailK n key a.length b).length ≤ 120 := by
    unfold tailK
    split
    · simpa using hb
    · simp
  have h3 := flatMap_len (l := a) h1
  have e : oneK n key a b = (a.flatMap fun x => headK n key x b.length ++ bodyK n key x b) ++ tailK n key a.length b := rfl
  rw [e, List.length_append]
  have h4 : a.length * 121 ≤ 120 * 121 := Nat.mul_le_mul_right _ ha
  omega
theorem l5J_le {n : Int} {a b : List RowV} (ha : a.length ≤ 120) (hb : b.length ≤ 120) : (l5J n a b).length ≤ 4194304 := by
  have h1 : ∀ key, (oneK n key (valsK (sortL a) key) (valsK (sortL b) key)).length ≤ 14640 := fun key => by
    have h1 := valsK_le (sortL a) key
    have h2 := valsK_le (sortL b) key
    rw [sortL_length] at h1 h2
    exact oneK_le2 (by omega) (by omega)
  have h2 := flatMap_len (l := keysOf (sortL (a ++ b))) h1
  have h3 := keysOf_le (sortL (a ++ b))
  rw [sortL_length, List.length_append] at h3
  have h4 : (keysOf (sortL (a ++ b))).length * 14640 ≤ 240 * 14640 := Nat.mul_le_mul_right _ (by omega)
  unfold l5J
  omega
theorem rowsOk_le5 {rs : List RowV} (h : rowsOk rs = true) : rs.length ≤ 120 := by
  unfold rowsOk at h
  exact of_decide_eq_true (Bool.and_eq_true _ _ ▸ h).1
def joinOfB (a b : List RowV) (n : Int) : Bool := rowsOk a && rowsOk b && kindB n
def joinOfS (a b : List RowV) (n : Int) : List PairV := if joinOfB a b n = true then l5J n a b else []
theorem joinOfS_le (a b : List RowV) (n : Int) : (joinOfS a b n).length ≤ 4194304 := by
  unfold joinOfS
  split
  · rename_i h
    simp only [joinOfB, Bool.and_eq_true] at h
    exact l5J_le (rowsOk_le5 h.1.1) (rowsOk_le5 h.1.2)
  · simp
def PairsB (w : World) (l : List PairV) (q : Bool) (e : Ending) (w' : World) : Prop := ∃ a c, e = .returned (.tuple #[.slice a l.length c, .bool q]) ∧ Below w.heap.size w w' ∧ w'.ownsRow w.heap.size 82 5 (.slice a l.length c) l.length (flatP l)
theorem PairsB.no {w w' : World} (hb : Below w.heap.size w w') : PairsB w [] false (.returned (.tuple #[.slice none 0 0, .bool false])) w' := ⟨none, 0, rfl, hb, World.ownsRow_nil _ _ _ _⟩
set_option maxRecDepth 100000 in
theorem l1In_kind (n : Int) (b : Bool) (w : World) (h : kindB n = b) : Calls Try.prog 65 #[.int .i64 n, .int .i64 1, .int .i64 6] w fun e w' => e = .returned (.bool b) ∧ Below w.heap.size w w' := by
  unfold kindB at h
  have E := Lib.hid h
  clear h
  by_cases h1 : 1 ≤ n
  · have d1 : decide (1 ≤ n) = true := by simp [h1]
    go_enter Try.func65, Try.ntmps65
    go_wp2
    go_ret
    exact ⟨ret_bool (by rw [← E.out, d1, Bool.true_and]), Below.refl _ _⟩
  · have d1 : decide (1 ≤ n) = false := by simp [h1]
    go_enter Try.func65, Try.ntmps65
    go_wp2
    go_ret
    exact ⟨ret_bool (by rw [← E.out, d1, Bool.false_and]), Below.refl _ _⟩
set_option maxRecDepth 100000 in
theorem l5Kind_any (n : Int) (b : Bool) (w : World) (h : kindB n = b) : Calls Try.prog 83 #[.int .i64 n] w fun e w' => e = .returned (.bool b) ∧ Below w.heap.size w w' := by
  have C := l1In_kind n b w h
  clear h
  go_enter Try.func83, Try.ntmps83
  go_wp2_with fail
  refine C.mono ?_
  rintro e w1 ⟨rfl, hb⟩
  go_wp2_with fail
  go_ret
  exact ⟨rfl, hb⟩
theorem joinOf_no {a b : List RowV} {n : Int} (h : joinOfB a b n = false) : joinOfS a b n = [] := by unfold joinOfS; rw [h]; rfl
theorem joinOf_yes {a b : List RowV} {n : Int} (h : joinOfB a b n = true) : joinOfS a b n = l5J n a b := by unfold joinOfS; rw [if_pos h]
set_option maxRecDepth 100000 in
set_option maxHeartbeats 2000000 in
theorem specJoinOf_any (a0 : Option Addr) (len0 cap0 : Nat) (x0 : List RowV) (a1 : Option Addr) (len1 cap1 : Nat) (x1 : List RowV) (n : Int) (w : World) (hm0 : len0 ≤ 1048576) (hok0 : ∀ r ∈ x0, r.Ok) (hR0 : Rd w w.heap.size 3 a0 len0 (flat x0)) (hm1 : len1 ≤ 1048576) (hok1 : ∀ r ∈ x1, r.Ok) (hR1 : Rd w w.heap.size 3 a1 len1 (flat x1)) :
    Calls Try.prog 57 #[.slice a0 len0 cap0, .slice a1 len1 cap1, .int .i64 n] w (PairsB w (joinOfS x0 x1 n) (joinOfB x0 x1 n)) := by
  have C0 := specRowsOk_any a0 len0 cap0 x0 w hm0 hok0 hR0
  have hl0 := hR0.rows_length
  have hl1 := hR1.rows_length
  cases h0 : rowsOk x0
  · have hB : joinOfB x0 x1 n = false := by unfold joinOfB; rw [h0]; rfl
    rw [joinOf_no hB, hB]
    rw [h0] at C0
    clear h0 hB hl0 hl1
    go_enter Try.func57, Try.ntmps57
    go_wp2_with fail
    refine C0.mono ?_
    rintro e w1 ⟨rfl, hb⟩
    go_wp2_with fail
    go_ret2
    exact PairsB.no hb
  rw [h0] at C0
  cases h1 : rowsOk x1
  · have hB : joinOfB x0 x1 n = false := by unfold joinOfB; rw [h1, Bool.and_false]; rfl
    rw [joinOf_no hB, hB]
    clear h0 hB hl0 hl1
    go_enter Try.func57, Try.ntmps57
    go_wp2_with fail
    refine C0.mono ?_
    rintro e w1 ⟨rfl, hb⟩
    have C1 := specRowsOk_any a1 len1 cap1 x1 w1 hm1 hok1 ((hR1.below hb (Nat.le_refl _)).more hb.size)
    rw [h1] at C1
    clear h1
    go_wp2_with fail
    refine C1.mono ?_
    rintro e w2 ⟨rfl, hb2⟩
    have B2 := hb.trans (hb2.mono hb.size)
    go_wp2_with fail
    go_ret2
    exact PairsB.no B2
  cases h2 : kindB n
  · have hB : joinOfB x0 x1 n = false := by unfold joinOfB; rw [h2, Bool.and_false]
    rw [joinOf_no hB, hB]
    clear h0 hB hl0 hl1
    go_enter Try.func57, Try.ntmps57
    go_wp2_with fail
    refine C0.mono ?_
    rintro e w1 ⟨rfl, hb⟩
    have C1 := specRowsOk_any a1 len1 cap1 x1 w1 hm1 hok1 ((hR1.below hb (Nat.le_refl _)).more hb.size)
    rw [h1] at C1
    clear h1
    go_wp2_with fail
    refine C1.mono ?_
    rintro e w2 ⟨rfl, hb2⟩
    have B2 := hb.trans (hb2.mono hb.size)
    have C2 := l5Kind_any n false w2 h2
    clear h2
    go_wp2_with fail
    refine C2.mono ?_
    rintro e w3 ⟨rfl, hb3⟩
    have B3 := B2.trans (hb3.mono B2.size)
    go_wp2_with fail
    go_ret2
    exact PairsB.no B3
  have hB : joinOfB x0 x1 n = true := by unfold joinOfB; rw [h0, h1, h2]; rfl
  rw [joinOf_yes hB, hB]
  have q0 : len0 ≤ 120 := by rw [← hl0]; exact rowsOk_le5 h0
  have q1 : len1 ≤ 120 := by rw [← hl1]; exact rowsOk_le5 h1
  have hn := kindB_iff.1 h2
  clear hB hl0 hl1 h0
  go_enter Try.func57, Try.ntmps57
  go_wp2_with fail
  refine C0.mono ?_
  rintro e w1 ⟨rfl, hb⟩
  have C1 := specRowsOk_any a1 len1 cap1 x1 w1 hm1 hok1 ((hR1.below hb (Nat.le_refl _)).more hb.size)
  rw [h1] at C1
  clear h1
  go_wp2_with fail
  refine C1.mono ?_
  rintro e w2 ⟨rfl, hb2⟩
  have B2 := hb.trans (hb2.mono hb.size)
  have C2 := l5Kind_any n true w2 h2
  clear h2
  have HN := Lib.hid hn
  clear hn
  go_wp2_with fail
  refine C2.mono ?_
  rintro e w3 ⟨rfl, hb3⟩
  have B3 := B2.trans (hb3.mono B2.size)
  have C3 := l5Join_any n HN.out a0 a1 len0 cap0 len1 cap1 x0 x1 w3 q0 q1 ((hR0.below B3 (Nat.le_refl _)).more B3.size) ((hR1.below B3 (Nat.le_refl _)).more B3.size)
  clear C0 C1 C2
  go_wp2_with fail
  refine C3.mono ?_
  rintro e w4 ⟨a, c, rfl, hb4, hO⟩
  have B4 := B3.trans (hb4.mono B3.size)
  generalize l5J n x0 x1 = ll at *
  have hO4 := own_base' hO B3.size
  clear C3
  go_wp2_with fail
  go_ret2
  exact ⟨a, c, rfl, B4, hO4⟩
theorem sortedR_yes {rs : List RowV} (h : rowsOk rs = true) : sortedR rs = sortL rs := if_pos h
set_option maxRecDepth 100000 in
set_option maxHeartbeats 2000000 in
theorem implJoinOf_any (a0 : Option Addr) (len0 cap0 : Nat) (x0 : List RowV) (a1 : Option Addr) (len1 cap1 : Nat) (x1 : List RowV) (n : Int) (w : World) (hm0 : len0 ≤ 1048576) (hok0 : ∀ r ∈ x0, r.Ok) (hR0 : Rd w w.heap.size 3 a0 len0 (flat x0)) (hm1 : len1 ≤ 1048576) (hok1 : ∀ r ∈ x1, r.Ok) (hR1 : Rd w w.heap.size 3 a1 len1 (flat x1)) :
    Calls Try.prog 60 #[.slice a0 len0 cap0, .slice a1 len1 cap1, .int .i64 n] w (PairsB w (joinOfS x0 x1 n) (joinOfB x0 x1 n)) := by
  have C0 := implSorted_any a0 len0 cap0 x0 w hm0 hok0 hR0
  have hl0 := hR0.rows_length
  have hl1 := hR1.rows_length
  have hks := kindOf_some n
  have HQ0 := Lib.hid (fun h : rowsOk x0 = true => rowsOk_le5 h)
  have HQ1 := Lib.hid (fun h : rowsOk x1 = true => rowsOk_le5 h)
  have HB := Lib.hid (show joinOfB x0 x1 n = (rowsOk x0 && rowsOk x1 && kindB n) from rfl)
  go_enter Try.func60, Try.ntmps60
  go_wp2_with fail
  refine C0.mono ?_
  clear C0
  rintro e w1 ⟨p0, pc0, rfl, hb1, hO1⟩
  have C1 := implSorted_any a1 len1 cap1 x1 w1 hm1 hok1 ((hR1.below hb1 (Nat.le_refl _)).more hb1.size)
  go_wp2_with fail
  refine C1.mono ?_
  clear C1
  rintro e w2 ⟨p1, pc1, rfl, hb2, hO2⟩
  have B2 := hb1.trans (hb2.mono hb1.size)
  have O1 := own_below hO1 hb2
  clear hR0 hR1 hO1
  go_wp2_with fail
  refine (joinKindOf_any n w2).mono ?_
  rintro e w3 ⟨rfl, rfl⟩
  rw [hks]
  cases h0 : rowsOk x0
  · have hB : joinOfB x0 x1 n = false := by rw [HB.out, h0]; rfl
    have HX := Lib.hid hB
    clear h0 hB HB HQ0 HQ1 hl0 hl1
    go_wp2_with fail
    go_ret2
    rw [joinOf_no HX.out, HX.out]
    exact PairsB.no B2
  cases h1 : rowsOk x1
  · have hB : joinOfB x0 x1 n = false := by rw [HB.out, h1, Bool.and_false]; rfl
    have HX := Lib.hid hB
    clear h0 h1 hB HB HQ0 HQ1 hl0 hl1
    go_wp2_with fail
    go_ret2
    rw [joinOf_no HX.out, HX.out]
    exact PairsB.no B2
  cases h2 : kindB n
  · have hB : joinOfB x0 x1 n = false := by rw [HB.out, h2, Bool.and_false]
    have HX := Lib.hid hB
    clear h0 h1 h2 hB HB HQ0 HQ1 hl0 hl1 hks
    go_wp2_with fail
    go_ret2
    rw [joinOf_no HX.out, HX.out]
    exact PairsB.no B2
  have hB : joinOfB x0 x1 n = true := by rw [HB.out, h0, h1, h2]; rfl
  have HX := Lib.hid hB
  have q0 : len0 ≤ 120 := by rw [← hl0]; exact HQ0.out h0
  have q1 : len1 ≤ 120 := by rw [← hl1]; exact HQ1.out h1
  obtain ⟨k, hk⟩ : ∃ k, kindOf n = some k := by
    rw [h2] at hks
    exact Option.isSome_iff_exists.1 hks
  have HJ := Lib.hid (show joinOfS x0 x1 n = joinL k (sortL x0) (sortL x1) by rw [joinOf_yes hB, joinL_l5J hk])
  rw [hk]
  rw [sortedR_yes h0, sortL_length, hl0] at O1
  rw [sortedR_yes h1, sortL_length, hl1] at hO2
  rw [sortedR_yes h0, sortedR_yes h1, sortL_length, sortL_length, hl0, hl1]
  have hc0 : len0 ≤ pc0 := by
    obtain ⟨g, c', e, h⟩ := own_slice2 O1
    injection e with _ _ e
    rw [e]; exact h
  have hc1 : len1 ≤ pc1 := by
    obtain ⟨g, c', e, h⟩ := own_slice2 hO2
    injection e with _ _ e
    rw [e]; exact h
  have C3 := joined_any k p0 p1 len0 pc0 len1 pc1 (sortL x0) (sortL x1) w2 q0 q1 hc0 hc1 (Rd.of_own O1) (Rd.of_own hO2)
  generalize joinL k (sortL x0) (sortL x1) = ll at *
  clear h0 h1 h2 hB HB HQ0 HQ1 hl0 hl1 hks hk O1 hO2
  go_wp2_with fail
  refine C3.mono ?_
  rintro e w4 ⟨a, c, rfl, hb4, hO⟩
  have B4 := B2.trans (hb4.mono B2.size)
  have hO4 := own_base' hO B2.size
  clear C3
  go_wp2_with fail
  go_ret2
  rw [HX.out, HJ.out]
  exact ⟨a, c, rfl, B4, hO4⟩
end Go.Proofs.Ytjhicjhgpbighaa
