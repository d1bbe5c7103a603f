/-
  spec.l3Runs and impl.runsOk by their contracts: are all runs sorted, and are there at most 120 runs and 120 rows? Conditions: those of each statement.
-/
import Derived.Test.YtgdbpckobngmjaaAllRows
import Derived.Test.YtgdbpckobngmjaaSortedOkFns
namespace Go.Proofs.Ytgdbpckobngmjaa
open Go.RowKit

def runsB (ps : List (List RowV)) : Bool := decide (ps.length ≤ 120) && decide (ps.flatten.length ≤ 120) && ps.all sortedOk
theorem runsB_no {ps : List (List RowV)} {k : Nat} {rs : List RowV} (h : ps[k]? = some rs) (hs : sortedOk rs = false) : runsB ps = false := by
  unfold runsB
  have : ps.all sortedOk = false := by
    rw [Bool.eq_false_iff]
    intro ha
    have := List.all_eq_true.1 ha rs (List.mem_of_getElem? h)
    rw [hs] at this; cases this
  rw [this, Bool.and_false]
def RunsTo (ps : List (List RowV)) (k : Nat) : Prop := ∀ j rs, j < k → ps[j]? = some rs → sortedOk rs = true
theorem RunsTo.succ {ps : List (List RowV)} {k : Nat} {rs : List RowV} (h : RunsTo ps k) (hr : ps[k]? = some rs) (hs : sortedOk rs = true) : RunsTo ps (k + 1) := fun j r hj hr' => by
  rcases Nat.lt_or_ge j k with h1 | h1
  · exact h j r h1 hr'
  · obtain rfl : j = k := by omega
    rw [hr] at hr'; injection hr' with e; rw [← e]; exact hs
theorem runsB_all {ps : List (List RowV)} {k : Nat} (h : RunsTo ps k) (hk : ps.length ≤ k) : runsB ps = (decide (ps.length ≤ 120) && decide (ps.flatten.length ≤ 120)) := by
  unfold runsB
  have : ps.all sortedOk = true := List.all_eq_true.2 fun rs hm => by
    obtain ⟨j, hj⟩ := List.getElem?_of_mem hm
    have := (List.getElem?_eq_some_iff.1 hj).1
    exact h j rs (by omega) hj
  rw [this, Bool.and_true]
theorem part_le {ps : List (List RowV)} {k : Nat} {rs : List RowV} (h : ps[k]? = some rs) : rs.length ≤ ps.flatten.length := by
  have h1 := flatten_take h
  have h2 := flatten_take_le ps (k + 1)
  rw [h1, List.length_append] at h2
  omega
set_option maxRecDepth 100000 in
set_option maxHeartbeats 2000000 in
theorem l3Runs_any (a : Option Addr) (n cap : Nat) (ps : List (List RowV)) (w : World) (hn : n ≤ 1048576) (hm : ps.flatten.length ≤ 1048576) (hok : ∀ rs ∈ ps, ∀ r ∈ rs, r.Ok) (hP : PRd w w.heap.size a n ps) :
    Calls Try.prog 78 #[.slice a n cap] w fun e w' => e = .returned (.bool (runsB ps)) ∧ Below w.heap.size w w' := by
  have hpl := Lib.hid hP.len
  go_enter Try.func78, Try.ntmps78
  go_wp2_with fail
  go_loopw [3] (fun i wr => ∃ k : Nat, k ≤ n ∧ i = .int .i64 k ∧ Below w.heap.size w wr ∧ Hid (RunsTo ps k)) (fun i _ => n - (intOf i).toNat)
  case atStart => exact ⟨0, Nat.zero_le _, rfl, Below.refl _ _, Lib.hid (fun j _ h => absurd h (by omega))⟩
  case round =>
    obtain ⟨k, hk, rfl, hb, ho⟩ := hrel
    by_cases hlt : k < n
    · obtain ⟨b1, o1, a1, c1, r1, rfl, hB1, hr1, d1, R1⟩ := (hP.below hb (Nat.le_refl _)).at_ hlt
      have Hr := Lib.hid hr1
      have hl1 := part_le hr1
      have hok1 := hok r1 (List.mem_of_getElem? hr1)
      clear hr1
      go_wp2_with fail
      refine (specSortedOk_any a1 r1.length c1 r1 wr (by omega) hok1 (R1.more hb.size)).mono ?_
      rintro e w1 ⟨rfl, hb1⟩
      have b9 := hb.trans (hb1.mono hb.size)
      cases hs : sortedOk r1
      · have E := Lib.hid (runsB_no Hr.out hs)
        go_wp2_with fail
        go_ret
        exact ⟨ret_bool E.out.symm, b9⟩
      · have O := Lib.hid (ho.out.succ Hr.out hs)
        go_wp2_with fail
        go_roundw
        case rel => exact ⟨k + 1, by omega, by go_num, b9, O⟩
        case measure => simp [intOf]; omega
    · have E := Lib.hid (show runsB ps = (decide (n ≤ 120) && decide (ps.flatten.length ≤ 120)) by rw [runsB_all ho.out (by rw [hpl.out]; omega), hpl.out])
      by_cases h120 : n ≤ 120
      · have d0 : decide ((n : Int) ≤ 120) = true := by simp; omega
        rw [decide_eq_true h120, Bool.true_and] at E
        go_wp2_with fail
        refine (l3All_any a n cap ps wr hn hm ((hP.below hb (Nat.le_refl _)).more hb.size)).mono ?_
        rintro e w1 ⟨b, c, rfl, hb1, _⟩
        have b9 := hb.trans (hb1.mono hb.size)
        generalize ps.flatten.length = fl at *
        go_wp2_with fail
        go_ret
        exact ⟨ret_bool (by rw [E.out, decide_eq_decide]; omega), b9⟩
      · have d0 : decide ((n : Int) ≤ 120) = false := by simp; omega
        rw [decide_eq_false h120, Bool.false_and] at E
        go_wp2_with fail
        go_ret
        exact ⟨ret_bool E.out.symm, hb⟩
set_option maxRecDepth 100000 in
set_option maxHeartbeats 2000000 in
theorem runsOk_any (a : Option Addr) (n cap : Nat) (ps : List (List RowV)) (w : World) (hn : n ≤ 1048576) (hm : ps.flatten.length ≤ 1048576) (hok : ∀ rs ∈ ps, ∀ r ∈ rs, r.Ok) (hP : PRd w w.heap.size a n ps) :
    Calls Try.prog 81 #[.slice a n cap] w fun e w' => e = .returned (.bool (runsB ps)) ∧ Below w.heap.size w w' := by
  have hpl := Lib.hid hP.len
  by_cases h120 : n ≤ 120
  case neg =>
    have E := Lib.hid (show runsB ps = false by unfold runsB; rw [hpl.out, decide_eq_false h120, Bool.false_and, Bool.false_and])
    have d0 : decide ((120 : Int) < (n : Int)) = true := by simp; omega
    go_enter Try.func81, Try.ntmps81
    go_wp2_with fail
    go_ret
    exact ⟨ret_bool E.out.symm, Below.refl _ _⟩
  have d0 : decide ((120 : Int) < (n : Int)) = false := by simp; omega
  go_enter Try.func81, Try.ntmps81
  go_wp2_with fail
  go_loopw [3, 11] (fun v i wr => ∃ k q : Nat, k ≤ n ∧ i = .int .i64 k ∧ v = .int .i64 q ∧ q ≤ 1048576 ∧ Hid ((ps.take k).flatten.length = q) ∧ Below w.heap.size w wr ∧ Hid (RunsTo ps k)) (fun _ i _ => n - (intOf i).toNat)
  case atStart => exact ⟨0, 0, Nat.zero_le _, rfl, rfl, by omega, Lib.hid (by simp), Below.refl _ _, Lib.hid (fun j _ h => absurd h (by omega))⟩
  case round =>
    obtain ⟨k, q, hk, rfl, rfl, hq, HQ, hb, ho⟩ := hrel
    by_cases hlt : k < n
    · obtain ⟨b1, o1, a1, c1, r1, rfl, hB1, hr1, d1, R1⟩ := (hP.below hb (Nat.le_refl _)).at_ hlt
      have Hr := Lib.hid hr1
      have hl1 := part_le hr1
      have hok1 := hok r1 (List.mem_of_getElem? hr1)
      have HC := Lib.hid (flatten_take hr1)
      have hle2 := flatten_take_le ps (k + 1)
      rw [HC.out, List.length_append, HQ.out] at hle2
      clear hr1
      have hba := bl1 wr (.cells #[.slice a1 r1.length c1] 50)
      have b1' := hb.trans (hba.mono hb.size)
      have R2 := (R1.more hb.size).below hba (Nat.le_refl _) |>.more hba.size
      have e1 : (wr.alloc (.cells #[.slice a1 r1.length c1] 50)).cell? ⟨wr.heap.size, 0, none⟩ = some (.slice a1 r1.length c1) := by simp [go_sem]
      have hlt1 : wr.heap.size < (wr.alloc (.cells #[.slice a1 r1.length c1] 50)).heap.size := by simp
      go_wp2_with fail
      generalize wr.alloc (.cells #[.slice a1 r1.length c1] 50) = w0 at *
      refine (implSortedOk_any a1 r1.length c1 r1 w0 (by omega) hok1 R2).mono ?_
      rintro e w1 ⟨rfl, hb1⟩
      have b9 := b1'.trans (hb1.mono b1'.size)
      have e2 := (hb1.cell (p := ⟨wr.heap.size, 0, none⟩) hlt1).trans e1
      clear e1
      cases hs : sortedOk r1
      · have E := Lib.hid (runsB_no Hr.out hs)
        go_wp2_with fail
        go_ret
        exact ⟨ret_bool E.out.symm, b9⟩
      · have O := Lib.hid (ho.out.succ Hr.out hs)
        go_wp2_with fail
        go_roundw
        case rel => exact ⟨k + 1, q + r1.length, by omega, by go_num, by go_num, by omega, Lib.hid (by rw [HC.out, List.length_append, HQ.out]), b9, O⟩
        case measure => simp [intOf]; omega
    · have HA : (ps.take k).flatten = ps.flatten := by rw [List.take_of_length_le (by rw [hpl.out]; omega)]
      have E := Lib.hid (show runsB ps = decide (q ≤ 120) by rw [runsB_all ho.out (by rw [hpl.out]; omega), hpl.out, decide_eq_true h120, Bool.true_and, ← HA, HQ.out])
      clear HA
      go_wp2_with fail
      go_ret
      exact ⟨ret_bool (by rw [E.out, decide_eq_decide]; omega), hb⟩
end Go.Proofs.Ytgdbpckobngmjaa
