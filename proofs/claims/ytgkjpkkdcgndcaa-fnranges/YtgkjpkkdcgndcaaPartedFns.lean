
/-
  impl.Parted and spec.Parted by their contracts. Condition: at most 1048576 rows.
-/
import Derived.Test.YtgkjpkkdcgndcaaDealtP
namespace Go.Proofs.Ytgkjpkkdcgndcaa
open Go.RowKit

theorem POwn.nil (w : World) (lo : Nat) : POwn w lo none 0 0 [] [] := ⟨World.ownsRow_nil w lo _ _, Fam.nil w lo, fun v hv => by cases hv⟩
def partedB (rs : List RowV) (N : Int) : Bool := rowsOk rs && inP N
def partedS (rs : List RowV) (N : Int) : List (List RowV) := if partedB rs N = true then partsL (partF N.toNat) N.toNat rs else []
/-- What Parted returns. -/
def PartedOut (rs : List RowV) (N : Int) (w : World) (e : Ending) (w' : World) : Prop :=
  ∃ a c vs, e = .returned (.tuple #[.slice a (partedS rs N).length c, .bool (partedB rs N)]) ∧ Below w.heap.size w w' ∧ POwn w' w.heap.size a (partedS rs N).length c vs (partedS rs N)
theorem rowsOk_key {rs : List RowV} (h : rowsOk rs = true) {r : RowV} (hr : r ∈ rs) : r.key.size ≤ 12 := by
  unfold rowsOk at h
  rw [Bool.and_eq_true] at h
  have := List.all_eq_true.1 h.2 r hr
  unfold RowV.ok okB at this
  exact (of_decide_eq_true this).1
theorem rowsOk_len {rs : List RowV} (h : rowsOk rs = true) : rs.length ≤ 120 := by
  unfold rowsOk at h
  rw [Bool.and_eq_true] at h
  exact of_decide_eq_true h.1
theorem POwn.base {w : World} {lo lo' n c : Nat} {a : Option Addr} {vs : List Value} {ps : List (List RowV)} (h : POwn w lo a n c vs ps) (hl : lo' ≤ lo) : POwn w lo' a n c vs ps := ⟨own_base' h.outer hl, h.fam.base hl, h.out⟩
theorem partedS_le (rs : List RowV) (N : Int) : (partedS rs N).length ≤ 1048576 ∧ rowsIn (partedS rs N) ≤ 1048576 := by
  unfold partedS
  split
  · rename_i h
    unfold partedB at h
    rw [Bool.and_eq_true] at h
    have h1 := rowsOk_len h.1
    obtain ⟨hN1, hN8⟩ : 1 ≤ N ∧ N ≤ 8 := by simpa [inP] using h.2
    rw [partsL_length, rowsIn_partsL _ _ _ (fun r _ => (partF_int (by omega) r).2)]
    omega
  · simp [rowsIn]
end Go.Proofs.Ytgkjpkkdcgndcaa
