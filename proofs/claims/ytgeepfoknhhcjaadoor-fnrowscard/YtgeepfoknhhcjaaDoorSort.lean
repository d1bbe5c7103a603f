
/-
  spec.l3Sort by its contract: it returns the rows, sorted by insertion, in new memory. Condition: at most 1048576 rows.
-/
import Derived.Test.YtgeepfoknhhcjaaDoorL1Less
import Derived.Test.YtgeepfoknhhcjaaDoorRowsMem
import Derived.Deep.QuietTactic
import Derived.BigQuiet
import Derived.Deep.RegionHeld
namespace Go.Proofs.YtgeepfoknhhcjaaDoor
open Go.RowKit

/-- The order of rows. -/
def RowV.less (a b : RowV) : Bool := lessB a.key a.tag a.val b.key b.tag b.val
/-- Where a row belongs among sorted ones: behind all that it does not precede. -/
def insPos (r : RowV) : List RowV → Nat
  | [] => 0
  | x :: xs => if r.less x = true then 0 else insPos r xs + 1
def ins (r : RowV) (out : List RowV) : List RowV := out.take (insPos r out) ++ [r] ++ out.drop (insPos r out)
def sortL (rs : List RowV) : List RowV := rs.foldl (fun out r => ins r out) []
theorem sortL_snoc (rs : List RowV) (r : RowV) : sortL (rs ++ [r]) = ins r (sortL rs) := by simp [sortL]
theorem ins_length (r : RowV) (out : List RowV) : (ins r out).length = out.length + 1 := by
  simp [ins]; omega
theorem sortL_length (rs : List RowV) : (sortL rs).length = rs.length := by
  rcases List.eq_nil_or_concat rs with rfl | ⟨l, r, rfl⟩
  · rfl
  · rw [List.concat_eq_append, sortL_snoc, ins_length, sortL_length l]; simp
termination_by rs.length
decreasing_by simp_all
/-- The row precedes none of the first k. -/
def NotLess (r : RowV) (out : List RowV) (k : Nat) : Prop := ∀ j x, j < k → out[j]? = some x → r.less x = false
theorem NotLess.succ {r x : RowV} {out : List RowV} {k : Nat} (h : NotLess r out k) (hx : out[k]? = some x) (hl : r.less x = false) : NotLess r out (k + 1) := fun j y hj hy => by
  rcases Nat.lt_or_ge j k with h1 | h1
  · exact h j y h1 hy
  · obtain rfl : j = k := by omega
    rw [hx] at hy; injection hy with e; rw [← e]; exact hl
theorem insPos_at : ∀ (r : RowV) (out : List RowV) (k : Nat), NotLess r out k → k ≤ out.length → (∀ x, out[k]? = some x → r.less x = true) → insPos r out = k
  | _, [], k, _, hk, _ => by simp at hk; rw [hk]; rfl
  | r, y :: out, 0, _, _, h => by rw [insPos, if_pos (h y rfl)]
  | r, y :: out, k + 1, hN, hk, h => by
    have h0 := hN 0 y (by omega) rfl
    rw [insPos, if_neg (by rw [h0]; simp)]
    rw [insPos_at r out k (fun j x hj hx => hN (j + 1) x (by omega) (by simpa using hx)) (by simpa using hk) (fun x hx => h x (by simpa using hx))]
theorem ins_at {r : RowV} {out : List RowV} {k : Nat} (h1 : NotLess r out k) (h2 : k ≤ out.length) (h3 : ∀ x, out[k]? = some x → r.less x = true) : flat (out.take k) ++ [.string r.key, .int .i64 r.tag, .string r.val] ++ flat (out.drop k) = flat (ins r out) := by
  unfold ins
  rw [insPos_at r out k h1 h2 h3, flat_append, flat_append]
  rfl
theorem l1Less_b (r x : RowV) (b : Bool) (w : World) (h : r.less x = b) :
    Calls Tryd.prog 58 #[.agg #[.string r.key, .int .i64 r.tag, .string r.val], .agg #[.string x.key, .int .i64 x.tag, .string x.val]] w fun e w' => e = .returned (.bool b) ∧ Below w.heap.size w w' := h ▸ l1Less_any r.key r.val r.tag x.key x.val x.tag w
theorem own_base' {w : World} {base base' e s n : Nat} {v : Value} {xs : List Value} (h : w.ownsRow base e s v n xs) (hb : base' ≤ base) : w.ownsRow base' e s v n xs := by
  refine ⟨h.1, ?_⟩
  rcases h.2 with h0 | ⟨g, c, cur, hv, hg, rest⟩
  · exact .inl h0
  · exact .inr ⟨g, c, cur, hv, Nat.le_trans hb hg, rest⟩
theorem own_ge {w : World} {base e s n : Nat} {v : Value} {xs : List Value} (h : w.ownsRow base e s v n xs) (g : Nat) (hg : v.ownBlock = some g) : base ≤ g ∧ g < w.heap.size := by
  rcases h.2 with ⟨rfl, _⟩ | ⟨g', c, cur, rfl, hb, hh, _⟩
  · cases hg
  · have e : g' = g := by simpa [Value.ownBlock] using hg
    subst e
    refine ⟨hb, ?_⟩
    rcases Nat.lt_or_ge g' w.heap.size with hlt | hge
    · exact hlt
    · rw [Array.getElem?_eq_none hge] at hh; cases hh
/-- An older owned slice is not touched by what writes into a younger one. -/
theorem own_apart {w w' : World} {base base' e s n e' s' n' B : Nat} {v v' : Value} {xs ys : List Value} (h : w.ownsRow base e s v n xs) (hg : w.grownBy w' v'.ownBlock) (hB : ∀ g, v.ownBlock = some g → g < B) (h' : w.ownsRow base' e' s' v' n' ys) (hb : B ≤ base') : w'.ownsRow base e s v n xs := by
  refine h.kept hg ?_
  cases hv : v.ownBlock with
  | none => exact .inl rfl
  | some g =>
    right
    intro he
    have h1 := hB g hv
    have h2 := (own_ge h' g he.symm).1
    omega
theorem flat_get_take {out : List RowV} {p j : Nat} {u : Value} (h : (flat (out.take p))[j]? = some u) : (flat out)[j]? = some u := by
  have e : flat out = flat (out.take p) ++ flat (out.drop p) := by rw [← flat_append, List.take_append_drop]
  rw [e, List.getElem?_append_left (List.getElem?_eq_some_iff.1 h).1]
  exact h
theorem flat_one (l : List RowV) : ∀ u ∈ flat l, u.oneCell' = true := by
  induction l with
  | nil => intro u hu; cases hu
  | cons a l ih =>
    intro u hu
    rw [show flat (a :: l) = a.cells ++ flat l from rfl, List.mem_append] at hu
    rcases hu with hu | hu
    · simp [RowV.cells] at hu
      rcases hu with rfl | rfl | rfl <;> rfl
    · exact ih u hu
theorem own_new (w : World) : (w.alloc (.cells #[] 29)).ownsRow w.heap.size 29 3 (.slice (some ⟨w.heap.size, 0, none⟩) 0 0) 0 [] := World.ownsRow_lit (base := w.heap.size) (size := 3) w #[] 0 (Nat.le_refl _) (Nat.zero_le _) rfl
theorem own_cap {w : World} {base e s n g cap : Nat} {xs : List Value} (h : w.ownsRow base e s (.slice (some ⟨g, 0, none⟩) n cap) n xs) : n ≤ cap := by
  rcases h.2 with ⟨h0, _⟩ | ⟨g', c, cur, hv, _, _, hnc, _⟩
  · cases h0
  · injection hv with _ _ e3; rw [e3]; exact hnc
theorem own_slice' {w : World} {base e s n : Nat} {v : Value} {xs : List Value} (h : w.ownsRow base e s v n xs) : ∃ a cap, v = .slice a n cap := by
  rcases h.2 with ⟨rfl, rfl⟩ | ⟨g, c, cur, rfl, _⟩
  · exact ⟨_, _, rfl⟩
  · exact ⟨_, _, rfl⟩
theorem addr_add3 (g o j : Nat) : (⟨g, o, none⟩ : Addr).add j = ⟨g, o + j, none⟩ := by unfold Addr.add; split <;> simp_all
theorem flat_get_drop {out : List RowV} {p j : Nat} {u : Value} (hp : p ≤ out.length) (h : (flat (out.drop p))[j]? = some u) : (flat out)[p * 3 + j]? = some u := by
  have e : flat out = flat (out.take p) ++ flat (out.drop p) := by rw [← flat_append, List.take_append_drop]
  have el : (flat (out.take p)).length = p * 3 := by rw [flat_length, List.length_take, Nat.min_eq_left hp]
  rw [e, List.getElem?_append_right (by omega), el, Nat.add_sub_cancel_left]
  exact h
end Go.Proofs.YtgeepfoknhhcjaaDoor
