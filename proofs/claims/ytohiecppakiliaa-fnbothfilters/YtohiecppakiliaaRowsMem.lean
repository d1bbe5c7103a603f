/-
  laws.szRowS, laws.toRowS and laws.eqRowS by their contracts: a copy of the rows in new memory that the call owns. Conditions: at most 1048576 rows.
-/
import Derived.Test.YtohiecppakiliaaRowsFns
import Derived.Test.YtohiecppakiliaaGrow
import Derived.Test.YtohiecppakiliaaEqRow
import Derived.StillTailTactics
namespace Go.Proofs.Ytohiecppakiliaa
open Go.RowKit
/-- What szRowS returns: -1, or a number from 0 to 'left', and then there are no more rows than that. -/
def SzOut (left : Int) (len : Nat) (w : World) (e : Ending) (w' : World) : Prop := ∃ z : Int, e = .returned (.int .i64 z) ∧ Below w.heap.size w w' ∧ (z = -1 ∨ 0 ≤ z ∧ z ≤ left ∧ (len : Int) ≤ left)
theorem take_set3 {xs A : List Value} {k : Nat} (a b c : Value) (h : xs.take (k * 3) = A) (hl : k * 3 + 2 < xs.length) : (((xs.set (k * 3) a).set (k * 3 + 1) b).set (k * 3 + 2) c).take ((k + 1) * 3) = A ++ [a, b, c] := by
  subst h
  apply List.ext_getElem?
  intro j
  have hlen : (xs.take (k * 3)).length = k * 3 := by simp; omega
  rcases Nat.lt_or_ge j (k * 3) with h1 | h1
  · rw [List.getElem?_append_left (by omega), List.getElem?_take_of_lt (by omega), List.getElem?_take_of_lt h1, List.getElem?_set_ne (by omega), List.getElem?_set_ne (by omega), List.getElem?_set_ne (by omega)]
  · rw [List.getElem?_append_right (by omega), hlen]
    rcases (show j = k * 3 ∨ j = k * 3 + 1 ∨ j = k * 3 + 2 ∨ k * 3 + 3 ≤ j by omega) with e | e | e | e
    · rw [List.getElem?_take_of_lt (by omega), List.getElem?_set_ne (by omega), List.getElem?_set_ne (by omega), e, List.getElem?_set_self (by omega), Nat.sub_self]; rfl
    · rw [List.getElem?_take_of_lt (by omega), List.getElem?_set_ne (by omega), e, List.getElem?_set_self (by simp; omega), show k * 3 + 1 - k * 3 = 1 by omega]; rfl
    · rw [List.getElem?_take_of_lt (by omega), e, List.getElem?_set_self (by simp; omega), show k * 3 + 2 - k * 3 = 2 by omega]; rfl
    · rw [List.getElem?_eq_none (by simp; omega), List.getElem?_eq_none (by simp; omega)]
theorem flat_take_succ {rs : List RowV} {k : Nat} {r : RowV} (h : rs[k]? = some r) : flat (rs.take (k + 1)) = flat (rs.take k) ++ [.string r.key, .int .i64 r.tag, .string r.val] := by
  have hk := (List.getElem?_eq_some_iff.1 h).1
  rw [List.take_succ_eq_append_getElem hk, flat_append]
  have : rs[k] = r := by rw [List.getElem?_eq_getElem hk] at h; injection h
  rw [this]; rfl
/-- A store of a row into an owned row. -/
theorem own_store3 {w : World} {base e n g cap k : Nat} {xs : List Value} (h : w.ownsRow base e 3 (.slice (some ⟨g, 0, none⟩) n cap) n xs) (a b c : Value) :
    (((w.setCell ⟨g, k * 3, none⟩ a).setCell ⟨g, k * 3 + 1, none⟩ b).setCell ⟨g, k * 3 + 2, none⟩ c).ownsRow base e 3 (.slice (some ⟨g, 0, none⟩) n cap) n (((xs.set (k * 3) a).set (k * 3 + 1) b).set (k * 3 + 2) c) :=
  (((h.stored (k * 3) a).1.stored (k * 3 + 1) b).1.stored (k * 3 + 2) c).1
theorem below_store3 {w W : World} {B g o o1 o2 : Nat} (h : Below B w W) (hg : B ≤ g) (a b c : Value) : Below B w (((W.setCell ⟨g, o, none⟩ a).setCell ⟨g, o1, none⟩ b).setCell ⟨g, o2, none⟩ c) :=
  ((h.setCell (p := ⟨g, o, none⟩) hg a).setCell (p := ⟨g, o1, none⟩) hg b).setCell (p := ⟨g, o2, none⟩) hg c
theorem infoRow : (Try.prog.info? 44).map (fun i => (i.zero, i.size, i.bytes)) = some (some (.agg #[.string ⟨#[]⟩, .int .i64 0, .string ⟨#[]⟩]), 3, 40) := by kernel_rfl
end Go.Proofs.Ytohiecppakiliaa
