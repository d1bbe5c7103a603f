/-
  impl.sortedKeys by its contract: the keys of the rows, sorted, in new memory. Condition: at most 1048576 rows.
-/
import Derived.Test.YtlalbcdbcalaiacRowsMem
import Derived.Test.YtlalbcdbcalaiacStrMem
import Derived.Test.YtlalbcdbcalaiacShelf
import Derived.Sort.OwnSorted
namespace Go.Proofs.Ytlalbcdbcalaiac
open Go.RowKit

/-- The bytes of strings. -/
def bytesL (ss : List ByteArray) : List (List UInt8) := ss.map fun s => s.data.toList
def keysB (rs : List RowV) : List ByteArray := rs.map RowV.key
theorem bytesL_enc (ss : List ByteArray) : (bytesL ss).map Go.Proofs.encStr = strC ss := by simp [bytesL, strC, Go.Proofs.encStr]
theorem keysB_take_succ {rs : List RowV} {k : Nat} {r : RowV} (h : rs[k]? = some r) : strC (keysB (rs.take (k + 1))) = strC (keysB (rs.take k)) ++ [.string r.key] := by
  have hk := (List.getElem?_eq_some_iff.1 h).1
  have : rs[k] = r := by rw [List.getElem?_eq_getElem hk] at h; injection h
  rw [List.take_succ_eq_append_getElem hk, this]; simp [strC, keysB]
/-- The keys, sorted. -/
def sortedK (rs : List RowV) : List (List UInt8) := (bytesL (keysB rs)).mergeSort fun x y => decide (x ≤ y)
set_option maxHeartbeats 1000000 in
theorem sortedKeys_any (a : Option Addr) (n cap : Nat) (rs : List RowV) (w : World) (hm : n ≤ 1048576) (hR : Rd w w.heap.size 3 a n (flat rs)) :
    Calls Try.prog 48 #[.slice a n cap] w fun e w' => e = .returned (.slice (some ⟨w.heap.size, 0, none⟩) n n) ∧ w'.ownsRow w.heap.size 9 1 (.slice (some ⟨w.heap.size, 0, none⟩) n n) n ((sortedK rs).map Go.Proofs.encStr) ∧ Below w.heap.size w w' := by
  obtain ⟨i0, hi, hz0, hz1, hz2⟩ := info_parts infoStr
  have hl := Lib.hid hR.rows_length
  go_enter Try.func48, Try.ntmps48
  go_wp2_with (at_make; refine wpList_make_own _ rfl _ _ 34 rfl w.heap.size 9 i0 (.string ⟨#[]⟩) 1 Try.underlying34 hi hz0 hz1 .i64 .i64 _ n rfl rfl rfl (by rw [hz2]; omega) (by unfold maxLen; omega) (Nat.le_refl _) ?_; intro w1 hown hgrow)
  have hb1 := (Below.refl w.heap.size w).grown hgrow (Nat.le_refl _) (by simp)
  clear hgrow
  go_loopw [3, 11] (fun v i wr => ∃ k : Nat, k ≤ n ∧ i = .int .i64 k ∧ v = .slice (some ⟨w.heap.size, 0, none⟩) k n ∧ wr.ownsRow w.heap.size 9 1 (.slice (some ⟨w.heap.size, 0, none⟩) k n) k (strC (keysB (rs.take k))) ∧ Below w.heap.size w wr) (fun _ i _ => n - (intOf i).toNat)
  case atStart => exact ⟨0, Nat.zero_le _, rfl, rfl, hown, hb1⟩
  case round =>
    obtain ⟨k, hk, rfl, rfl, hO, hb⟩ := hrel
    clear hown hb1
    by_cases hlt : k < n
    case neg =>
      obtain rfl : k = n := by omega
      rw [List.take_of_length_le (by rw [hl.out]; omega)] at hO
      rcases hO.2 with ⟨h0, _⟩ | ⟨g, cap', cur, hv, hbase, hbk, h1, h2, h3, h4⟩
      · cases h0
      obtain ⟨rfl, rfl⟩ : w.heap.size = g ∧ k = cap' := by injection hv with e1 _ e3; injection e1 with e1; injection e1 with e1; exact ⟨e1, e3⟩
      have hlen : (bytesL (keysB rs)).length = k := by simp [bytesL, keysB, hl.out]
      have C := Try.slices_Sort_string w.heap.size 0 k (bytesL (keysB rs)) wr (holds_of_block hbk (by rw [hlen, bytesL_enc]; simpa using h4)) (Array.getElem?_eq_some_iff.1 hbk).1 (by omega)
      rw [hlen] at C
      go_wp2_with fail
      refine C.mono ?_
      rintro e w2 ⟨rfl, nq, os, rfl⟩
      have hO2 := ownsRow_sorted (n := nq) (os := os) (ss := bytesL (keysB rs)) (ts := sortedK rs) (by simp [sortedK]) hbase hbk (by omega) h2 h3
      rw [hlen] at hO2
      have hg2 := grownBy_sorted (w := wr) (g := w.heap.size) (n := nq) (os := os) (sortedK rs).toArray
      have hB2 := hb.grown hg2 hb.size (fun q e => by injection e with e; omega)
      go_wp2_with fail
      go_ret
      exact ⟨rfl, hO2, hB2⟩
    obtain ⟨ab, ao, r, rfl, hB, hr, c0, c1, c2⟩ := (hR.below hb (Nat.le_refl _)).row hlt
    have Hr := Lib.hid hr
    clear hr
    go_wp2_with (at_builtin; refine wpList_append_fits _ rfl _ _ 34 rfl w.heap.size 9 i0 1 Try.underlying34 hi hz1 w.heap.size k n _ rfl ((hO.alloc _).alloc _) ⟨wr.heap.size + 1, 0, none⟩ 1 1 [.string r.key] rfl rfl ?c1 ?c2 (by omega) ?_)
    case c1 =>
      intro j u hj
      match j, hj with
      | 0, hj => simp at hj; subst hj; simp [Addr.add, go_sem]
    case c2 =>
      intro u hu
      simp at hu
      subst hu; rfl
    intro w3 hO3 hg3
    have hB3 := ((hb.alloc hb.size (.cells #[.string r.key, .int .i64 r.tag, .string r.val] 50)).alloc (by have := hb.size; simp; omega) (.cells #[.string r.key] 9)).grown hg3 (by have := hb.size; simp; omega) (fun q e => by injection e with e; omega)
    rw [← keysB_take_succ Hr.out] at hO3
    clear hg3 hO c0 c1 c2
    go_wp2_with fail
    go_roundw
    case rel => exact ⟨k + 1, by omega, by go_num, rfl, hO3, hB3⟩
    case measure => simp [intOf]; omega
end Go.Proofs.Ytlalbcdbcalaiac
