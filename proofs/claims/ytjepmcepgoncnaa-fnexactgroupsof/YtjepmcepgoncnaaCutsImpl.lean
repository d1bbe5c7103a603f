
/-
  impl.CutsOf by its contract. Condition: at most 1048576 rows.
-/
import Derived.Test.YtjepmcepgoncnaaCutsList
import Derived.Test.YtjepmcepgoncnaaSortedList
import Derived.Deep.QuietTactic
import Derived.Lib.RowBridge
namespace Go.Proofs.Ytjepmcepgoncnaa
open Go.RowKit

def inP (N : Int) : Bool := decide (1 ≤ N) && decide (N ≤ 8)
theorem l1In_b (N : Int) (b : Bool) (w : World) (h : inP N = b) : Calls Try.prog 89 #[.int .i64 N, .int .i64 1, .int .i64 8] w fun e w' => e = .returned (.bool b) ∧ Below w.heap.size w w' := by
  unfold inP at h
  have E := Lib.hid h
  clear h
  by_cases h1 : 1 ≤ N
  · have d1 : decide (1 ≤ N) = true := by simp [h1]
    go_enter Try.func89, Try.ntmps89
    go_wp2
    go_ret
    exact ⟨ret_bool (by rw [← E.out, d1, Bool.true_and]), Below.refl _ _⟩
  · have d1 : decide (1 ≤ N) = false := by simp [h1]
    go_enter Try.func89, Try.ntmps89
    go_wp2
    go_ret
    exact ⟨ret_bool (by rw [← E.out, d1, Bool.false_and]), Below.refl _ _⟩
/-- What CutsOf returns: nil and false, or the cuts in memory of its own. -/
def CutsOut (rs : List RowV) (N : Int) (w : World) (e : Ending) (w' : World) : Prop :=
  ∃ a m c, e = .returned (.tuple #[.slice a m c, .bool (rowsOk rs && inP N)]) ∧ Below w.heap.size w w' ∧ w'.ownsRow w.heap.size 9 1 (.slice a m c) m ((if (rowsOk rs && inP N) = true then cutsR rs N.toNat else []).map encStr)
theorem own_none (w : World) (base : Nat) : w.ownsRow base 9 1 (.slice none 0 0) 0 (([] : List (List UInt8)).map encStr) := World.ownsRow_nil w base _ _
/-- The place of a pick, as the program reckons it. -/
theorem pick_facts {K : List (List UInt8)} {k n M : Nat} (hk : k + 1 < M) (hM : M ≤ 8) (hn : 0 < n) (hm : n ≤ 1048576) (hl : K.length = n) :
    ∃ (Q : Nat) (s : List UInt8), Q < n ∧ (wrap64 (((k : Int) + 1) * (n : Int)) = ((k : Int) + 1) * (n : Int) ∧ wrap64 ((((k : Int) + 1) * (n : Int)).tdiv (M : Int)) = (Q : Int)) ∧ Q = (k + 1) * n / M ∧ K[(k + 1) * n / M]? = some s := by
  have hQ : (k + 1) * n / M < n := pick_lt hn hk
  have e1 : ((k : Int) + 1) * (n : Int) = (((k + 1) * n : Nat) : Int) := by push_cast; rfl
  have hb : (k + 1) * n ≤ 8 * 1048576 := Nat.mul_le_mul (by omega) hm
  have e2 : (((k + 1) * n : Nat) : Int).tdiv (M : Int) = (((k + 1) * n / M : Nat) : Int) := rfl
  refine ⟨(k + 1) * n / M, K[(k + 1) * n / M]'(by omega), hQ, ⟨?_, ?_⟩, rfl, List.getElem?_eq_getElem (by omega)⟩
  · rw [e1]; generalize (k + 1) * n = P at *; unfold wrap64; omega
  · rw [e1, e2]; generalize (k + 1) * n / M = P at *; unfold wrap64; omega
theorem keyAt {K : List (List UInt8)} {Q : Nat} {s : List UInt8} (h : K[Q]? = some s) : (K.map encStr)[Q]? = some (.string ⟨s.toArray⟩) := by simp [h]
theorem cuts_take_succ {K : List (List UInt8)} {k n M : Nat} {s : List UInt8} (hk : k < M - 1) (h : K[(k + 1) * n / M]? = some s) (hl : K.length = n) : ((cutsL K M).take k).map encStr ++ [.string ⟨s.toArray⟩] = ((cutsL K M).take (k + 1)).map encStr := by
  have hkl : k < (cutsL K M).length := by rw [cutsL_length]; exact hk
  rw [List.take_succ_eq_append_getElem hkl, List.map_append]
  have : (cutsL K M)[k] = s := by
    have h1 := (List.getElem?_eq_some_iff.1 h).1
    simp only [cutsL, List.getElem_map, List.getElem_range, hl]
    rw [getElem!_pos K _ h1]
    rw [List.getElem?_eq_getElem h1] at h; injection h
  rw [this]; rfl
theorem own_compact {w : World} {base e g cap q : Nat} {zs ts rest : List (List UInt8)} (h : w.ownsRow base e 1 (.slice (some ⟨g, 0, none⟩) zs.length cap) zs.length (zs.map encStr)) (hl : (ts ++ rest).length = zs.length) :
    (Sort.putRow encStr (Sort.ahead w q) g 0 (ts ++ rest).toArray).ownsRow base e 1 (.slice (some ⟨g, 0, none⟩) ts.length cap) ts.length (ts.map encStr) ∧ w.grownBy (Sort.putRow encStr (Sort.ahead w q) g 0 (ts ++ rest).toArray) (some g) := by
  rcases h.2 with ⟨h0, _⟩ | ⟨g', cap', cur, hv, hgb, hbk, h1, h2, h3, h4⟩
  · cases h0
  obtain ⟨rfl, rfl⟩ : g = g' ∧ cap = cap' := by injection hv with e1 _ e3; injection e1 with e1; injection e1 with e1; exact ⟨e1, e3⟩
  have hh := heap_sorted (n := q) (os := #[]) (ts ++ rest).toArray hbk
  have hg := grownBy_sorted (w := w) (g := g) (n := q) (os := #[]) (ts ++ rest).toArray
  rw [Sort.grow_empty] at hh hg
  refine ⟨⟨by simp, .inr ⟨g, cap, _, rfl, hgb, hh, ?_, h2, by simp [Sort.putCells, h3], ?_⟩⟩, hg⟩
  · have : ts.length ≤ (ts ++ rest).length := by simp
    omega
  · have ht := take_putCells cur (ts ++ rest) (by omega)
    rw [Nat.mul_one]
    have e : ((Sort.putCells encStr 0 (ts ++ rest).toArray cur).toList.take (ts ++ rest).length).take ts.length = (Sort.putCells encStr 0 (ts ++ rest).toArray cur).toList.take ts.length := by
      rw [List.take_take, Nat.min_eq_left (by simp)]
    rw [← e, ht]; simp
end Go.Proofs.Ytjepmcepgoncnaa
