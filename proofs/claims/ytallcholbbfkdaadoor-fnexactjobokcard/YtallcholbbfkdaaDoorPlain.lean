/-
  Plain values of rows, and slices that read as lists of them, used by the other texts. No conditions.
-/
import Derived.Test.YtallcholbbfkdaaDoorRows
import Derived.WalkKit
import Derived.WalkSpells
import Derived.WalkLawsBesides
import Derived.Outline
import Derived.Lib.Hide
namespace Go.Proofs.YtallcholbbfkdaaDoor
open Go.RowKit

theorem ret_int {k : IntKind} {a b : Int} (h : a = b) : Ending.returned (.int k a) = .returned (.int k b) := by rw [h]
theorem ret_bool {a b : Bool} (h : a = b) : Ending.returned (.bool a) = .returned (.bool b) := by rw [h]
theorem ret_str {a b : ByteArray} (h : a = b) : Ending.returned (.string a) = .returned (.string b) := by rw [h]
/-- A row, as plain values. -/
structure RowV where
  key : ByteArray
  tag : Int
  val : ByteArray
def RowV.Ok (r : RowV) : Prop := r.key.size ≤ maxLen ∧ (Lit.int .i64 r.tag).wf = true ∧ r.val.size ≤ maxLen
/-- The cells of a row; of rows. -/
def RowV.cells (r : RowV) : List Value := [.string r.key, .int .i64 r.tag, .string r.val]
def flat (rs : List RowV) : List Value := rs.flatMap RowV.cells
theorem flat_nil : flat [] = [] := rfl
theorem flat_cons (r : RowV) (rs : List RowV) : flat (r :: rs) = .string r.key :: .int .i64 r.tag :: .string r.val :: flat rs := rfl
theorem flat_append (a b : List RowV) : flat (a ++ b) = flat a ++ flat b := by simp [flat]
theorem flat_length (rs : List RowV) : (flat rs).length = rs.length * 3 := by
  induction rs with
  | nil => rfl
  | cons r rs ih => rw [flat_cons]; simp only [List.length_cons, ih]; omega
theorem flat_get : ∀ (rs : List RowV) (k : Nat) (r : RowV), rs[k]? = some r → (flat rs)[k * 3]? = some (.string r.key) ∧ (flat rs)[k * 3 + 1]? = some (.int .i64 r.tag) ∧ (flat rs)[k * 3 + 2]? = some (.string r.val)
  | [], _, _, h => by simp at h
  | x :: rs, 0, r, h => by
    obtain rfl : x = r := by simpa using h
    exact ⟨rfl, rfl, rfl⟩
  | x :: rs, k + 1, r, h => by
    have g := flat_get rs k r (by simpa using h)
    rw [flat_cons, show (k + 1) * 3 = k * 3 + 1 + 1 + 1 by omega, show k * 3 + 1 + 1 + 1 + 1 = (k * 3 + 1) + 1 + 1 + 1 by omega, show k * 3 + 1 + 1 + 1 + 2 = (k * 3 + 2) + 1 + 1 + 1 by omega]
    simpa only [List.getElem?_cons_succ] using g

/-- A slice that reads as the cells xs, below block B; nil is let in. -/
def Rd (w : World) (B size : Nat) (a : Option Addr) (n : Nat) (xs : List Value) : Prop :=
  xs.length = n * size ∧ (0 < n → ∃ b off, a = some ⟨b, off, none⟩ ∧ b < B ∧ ∀ j u, xs[j]? = some u → w.cell? ⟨b, off + j, none⟩ = some u)
theorem Rd.keep {w w' : World} {B size n : Nat} {a : Option Addr} {xs : List Value} (h : Rd w B size a n xs) (hk : ∀ b o, b < B → w'.cell? ⟨b, o, none⟩ = w.cell? ⟨b, o, none⟩) : Rd w' B size a n xs :=
  ⟨h.1, fun hn => by
    obtain ⟨b, off, e, hb, hc⟩ := h.2 hn
    exact ⟨b, off, e, hb, fun j u hu => (hk b _ hb).trans (hc j u hu)⟩⟩
theorem Rd.more {w : World} {B B' size n : Nat} {a : Option Addr} {xs : List Value} (h : Rd w B size a n xs) (hB : B ≤ B') : Rd w B' size a n xs :=
  ⟨h.1, fun hn => by
    obtain ⟨b, off, e, hb, hc⟩ := h.2 hn
    exact ⟨b, off, e, by omega, hc⟩⟩
theorem Rd.below {w w' : World} {B B' size n : Nat} {a : Option Addr} {xs : List Value} (h : Rd w B size a n xs) (hb : Below B' w w') (hB : B ≤ B') : Rd w' B size a n xs :=
  h.keep fun _ _ hp => hb.cell (Nat.lt_of_lt_of_le hp hB)
/-- A row of such a slice. -/
theorem Rd.row {w : World} {B n k : Nat} {a : Option Addr} {rs : List RowV} (h : Rd w B 3 a n (flat rs)) (hk : k < n) :
    ∃ b off r, a = some ⟨b, off, none⟩ ∧ b < B ∧ rs[k]? = some r ∧ w.cell? ⟨b, off + k * 3, none⟩ = some (.string r.key) ∧ w.cell? ⟨b, off + k * 3 + 1, none⟩ = some (.int .i64 r.tag) ∧ w.cell? ⟨b, off + k * 3 + 2, none⟩ = some (.string r.val) := by
  obtain ⟨b, off, e, hb, hc⟩ := h.2 (by omega)
  have hl := h.1
  rw [flat_length] at hl
  have hkl : k < rs.length := by omega
  have g := flat_get rs k rs[k] (List.getElem?_eq_getElem hkl)
  exact ⟨b, off, rs[k], e, hb, List.getElem?_eq_getElem hkl, hc _ _ g.1, by rw [Nat.add_assoc]; exact hc _ _ g.2.1, by rw [Nat.add_assoc]; exact hc _ _ g.2.2⟩
theorem Rd.rows_length {w : World} {B n : Nat} {a : Option Addr} {rs : List RowV} (h : Rd w B 3 a n (flat rs)) : rs.length = n := by
  have hl := h.1
  rw [flat_length] at hl
  omega
/-- A string of such a slice of strings. -/
def strC (ss : List ByteArray) : List Value := ss.map Value.string
theorem Rd.str {w : World} {B n k : Nat} {a : Option Addr} {ss : List ByteArray} (h : Rd w B 1 a n (strC ss)) (hk : k < n) :
    ∃ b off s, a = some ⟨b, off, none⟩ ∧ b < B ∧ ss[k]? = some s ∧ w.cell? ⟨b, off + k, none⟩ = some (.string s) := by
  obtain ⟨b, off, e, hb, hc⟩ := h.2 (by omega)
  have hl := h.1
  have hkl : k < ss.length := by simp [strC] at hl; omega
  exact ⟨b, off, ss[k], e, hb, List.getElem?_eq_getElem hkl, hc _ _ (by simp [strC, hkl])⟩
theorem Rd.strs_length {w : World} {B n : Nat} {a : Option Addr} {ss : List ByteArray} (h : Rd w B 1 a n (strC ss)) : ss.length = n := by
  have hl := h.1
  simp [strC] at hl
  omega
theorem Rd.of_own {w : World} {base e size n cap : Nat} {a : Option Addr} {xs : List Value} (h : w.ownsRow base e size (.slice a n cap) n xs) : Rd w w.heap.size size a n xs := by
  refine ⟨h.1, fun hn => ?_⟩
  rcases h.2 with ⟨hv, h0⟩ | ⟨g, c, cur, hv, _, hh, _, _, _, ht⟩
  · omega
  · have ha : a = some ⟨g, 0, none⟩ := by injection hv
    subst ha
    have hg : g < w.heap.size := by
      rcases Nat.lt_or_ge g w.heap.size with hlt | hge
      · exact hlt
      · rw [Array.getElem?_eq_none hge] at hh; cases hh
    refine ⟨g, 0, rfl, hg, fun j u hu => ?_⟩
    have hj : j < n * size := by
      have := (List.getElem?_eq_some_iff.1 hu).1
      rw [h.1] at this; exact this
    have hc : c = cap := by injection hv with _ _ h3; exact h3.symm
    subst hc
    rw [Nat.zero_add, World.ownsRow.cellAt h j hj]
    exact hu

/-- A slice of rows, of strings, that came in. -/
def IsRows (w : World) (a : Option Addr) (len cap : Nat) (rs : List RowV) : Prop := len ≤ cap ∧ cap ≤ maxLen ∧ (∀ r ∈ rs, r.Ok) ∧ Rd w w.heap.size 3 a len (flat rs)
def IsStrs (w : World) (a : Option Addr) (len cap : Nat) (ss : List ByteArray) : Prop := len ≤ cap ∧ cap ≤ maxLen ∧ (∀ s ∈ ss, s.size ≤ maxLen) ∧ Rd w w.heap.size 1 a len (strC ss)
end Go.Proofs.YtallcholbbfkdaaDoor
