/-
  laws.all and spec.l3All by their contracts: all rows of parts, one behind the other, in new memory. Conditions: those of each statement.
-/
import Derived.Test.YtgdbpckobngmjaaRowsOut
import Derived.Test.YtgdbpckobngmjaaPartMem
import Derived.Test.YtgdbpckobngmjaaAppendAny
namespace Go.Proofs.Ytgdbpckobngmjaa
open Go.RowKit
theorem flat_one2 (l : List RowV) : ∀ u ∈ flat l, u.oneCell' = true := by
  induction l with
  | nil => simp [flat]
  | cons r l ih =>
    intro u hu
    rw [flat_cons] at hu
    simp only [List.mem_cons] at hu
    rcases hu with rfl | rfl | rfl | hu
    · rfl
    · rfl
    · rfl
    · exact ih u hu
theorem flatten_take {ps : List (List RowV)} {k : Nat} {r : List RowV} (h : ps[k]? = some r) : (ps.take (k + 1)).flatten = (ps.take k).flatten ++ r := by
  obtain ⟨hk, rfl⟩ := List.getElem?_eq_some_iff.1 h
  rw [List.take_succ_eq_append_getElem hk, List.flatten_append]; simp only [List.flatten_cons, List.flatten_nil, List.append_nil]
theorem flatten_take_le (ps : List (List RowV)) (k : Nat) : (ps.take k).flatten.length ≤ ps.flatten.length := by
  have : ps.flatten = (ps.take k).flatten ++ (ps.drop k).flatten := by rw [← List.flatten_append, List.take_append_drop]
  rw [this, List.length_append]; omega
set_option maxRecDepth 100000 in
set_option maxHeartbeats 4000000 in
theorem l3All_any (a : Option Addr) (n cap : Nat) (ps : List (List RowV)) (w : World) (hn : n ≤ 1048576) (hm : ps.flatten.length ≤ 1048576) (hP : PRd w w.heap.size a n ps) :
    Calls Try.prog 79 #[.slice a n cap] w (RowsOut w ps.flatten) := by
  obtain ⟨i0, hi, hz0, hz1, hz2⟩ := info_parts infoRow
  have hpl := Lib.hid hP.len
  have hO0 : (w.alloc (.cells #[] 68)).ownsRow w.heap.size 68 3 (.slice (some ⟨w.heap.size, 0, none⟩) 0 0) 0 (flat (ps.take 0).flatten) := World.ownsRow_lit (base := w.heap.size) (size := 3) w #[] 0 (Nat.le_refl _) (Nat.zero_le _) rfl
  go_enter Try.func79, Try.ntmps79
  go_wp2_with fail
  go_loopw [3, 4] (fun v i wr => ∃ (k q : Nat) (b : Option Addr) (c : Nat), k ≤ n ∧ i = .int .i64 k ∧ v = .slice b q c ∧ q ≤ 1048576 ∧ Hid ((ps.take k).flatten.length = q) ∧ wr.ownsRow w.heap.size 68 3 (.slice b q c) q (flat (ps.take k).flatten) ∧ Below w.heap.size w wr) (fun _ i _ => n - (intOf i).toNat)
  case atStart => exact ⟨0, 0, _, 0, Nat.zero_le _, rfl, rfl, Nat.zero_le _, Lib.hid (by simp), hO0, bl1 _ _⟩
  case round =>
    obtain ⟨k, q, b, c, hk, rfl, rfl, hq, HQ, hO, hbr⟩ := hrel
    clear hO0
    by_cases hlt : k < n
    · obtain ⟨b1, o1, a1, c1, r1, rfl, hB1, hr1, d1, R1⟩ := (hP.below hbr (Nat.le_refl _)).at_ hlt
      have HC := Lib.hid (flatten_take hr1)
      have hle2 := flatten_take_le ps (k + 1)
      rw [HC.out, List.length_append, HQ.out] at hle2
      replace R1 := R1.more hbr.size
      clear hr1
      go_wp2_with (at_builtin; refine wpList_append_rd rfl _ _ 27 rfl w.heap.size 68 i0 (.agg #[.string ⟨#[]⟩, .int .i64 0, .string ⟨#[]⟩]) 3 40 Try.underlying27 hi hz0 hz1 hz2 rfl (by decide) (.slice b q c) q (flat (ps.take k).flatten) (by rfl) hO a1 wr.heap.size r1.length c1 (flat r1) (by rfl) R1 (flat_one2 _) (by unfold maxLen; omega) (by omega) hbr.size ?_)
      intro v' w8 hO8 hg8 _
      obtain ⟨a', cap', rfl⟩ := own_slice' hO8
      have hb8 := hbr.grown hg8 hbr.size (fun q e => (own_ge hO q e).1)
      rw [← flat_append, ← HC.out] at hO8
      clear hg8 hO R1 d1
      go_wp2_with fail
      go_roundw
      case rel => exact ⟨k + 1, q + r1.length, a', cap', by omega, by go_num, by go_num, by omega, Lib.hid (by rw [HC.out, List.length_append, HQ.out]), hO8, hb8⟩
      case measure => simp [intOf]; omega
    · have hkn : k = n := by omega
      have HA := Lib.hid (show (ps.take k).flatten = ps.flatten by rw [List.take_of_length_le (by rw [hpl.out]; omega)])
      have HL := HQ.out
      rw [HA.out] at HL hO
      subst HL
      clear hkn
      go_wp2_with fail
      go_ret
      exact ⟨b, c, rfl, hbr, hO⟩
end Go.Proofs.Ytgdbpckobngmjaa
