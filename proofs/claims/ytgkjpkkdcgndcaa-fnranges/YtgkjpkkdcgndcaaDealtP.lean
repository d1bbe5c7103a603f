
/-
  impl.dealt with the closure of impl.Parted by its contract: each row on the list that the closure names. Condition: at most 1048576 rows.
-/
import Derived.Test.YtgkjpkkdcgndcaaPartsDeal
namespace Go.Proofs.Ytgkjpkkdcgndcaa
open Go.RowKit

/-- The lists of an array of eight, each in memory of its own. -/
structure LOwn (w : World) (lo L : Nat) (vs : List Value) (ps : List (List RowV)) : Prop where
  outer : w.ownsRow lo 171 8 (.slice (some ⟨L, 0, none⟩) 1 1) 1 vs
  fam : Fam w lo vs ps
  out : ∀ v ∈ vs, ∀ g, v.ownBlock = some g → (Value.slice (some ⟨L, 0, none⟩) 1 1).ownBlock ≠ some g
theorem LOwn.new (w : World) (f : RowV → Nat) : LOwn (w.alloc (.cells #[.slice none 0 0, .slice none 0 0, .slice none 0 0, .slice none 0 0, .slice none 0 0, .slice none 0 0, .slice none 0 0, .slice none 0 0] 171)) w.heap.size w.heap.size (List.replicate 8 (.slice none 0 0)) (partsL f 8 []) := by
  refine ⟨World.ownsRow_lit (base := w.heap.size) (size := 8) w #[.slice none 0 0, .slice none 0 0, .slice none 0 0, .slice none 0 0, .slice none 0 0, .slice none 0 0, .slice none 0 0, .slice none 0 0] 1 (Nat.le_refl _) (by decide) rfl, by rw [partsL_nil]; exact Fam.nils _ _ _, fun v hv g hg => ?_⟩
  have e1 : v = .slice none 0 0 := (List.mem_replicate.1 hv).2
  subst e1
  cases hg
theorem LOwn.below {w w' : World} {lo L : Nat} {vs : List Value} {ps : List (List RowV)} (h : LOwn w lo L vs ps) (hb : Below w.heap.size w w') : LOwn w' lo L vs ps := ⟨own_below h.outer hb, h.fam.below hb, h.out⟩
theorem LOwn.bnd {w : World} {lo L : Nat} {vs : List Value} {ps : List (List RowV)} (h : LOwn w lo L vs ps) : Bnd w.heap.size vs := fun v hv g hg => by
  obtain ⟨i, hi, e⟩ := List.mem_iff_getElem.1 hv
  have h1 : vs[i]? = some v := by rw [List.getElem?_eq_getElem hi, e]
  have h2 : ps[i]? = some (ps[i]'(by rw [← h.fam.len]; exact hi)) := List.getElem?_eq_getElem _
  exact (own_ge (h.fam.own i v _ h1 h2) g hg).2
theorem LOwn.other {w w' : World} {lo L : Nat} {vs : List Value} {ps : List (List RowV)} {row : Option Nat} (h : LOwn w lo L vs ps) (hg : w.grownBy w' row) (hr : ∀ g, row = some g → (∀ v ∈ vs, v.ownBlock ≠ some g) ∧ L ≠ g) : LOwn w' lo L vs ps :=
  ⟨own_other h.outer hg (fun g h1 h2 => (hr g h2).2 (by injection h1)), ⟨h.fam.len, fun i v rs hv hrs => own_other (h.fam.own i v rs hv hrs) hg (fun g h1 h2 => (hr g h2).1 v (List.mem_of_getElem? hv) h1), h.fam.sep⟩, h.out⟩
theorem LOwn.put {w w' : World} {lo g p : Nat} {vs : List Value} {ps : List (List RowV)} {v v' : Value} {rs' : List RowV} (h : LOwn w lo g vs ps) (hv : vs[p]? = some v) (hg : w.grownBy w' v.ownBlock) (hO : w'.ownsRow lo 38 3 v' rs'.length (flat rs')) (hat : v'.ownBlock = v.ownBlock ∨ v'.ownBlock = some w.heap.size) : LOwn (w'.setCell ⟨g, p, none⟩ v') lo g (vs.set p v') (ps.set p rs') := by
  have hmem := List.mem_of_getElem? hv
  have hgo : (Value.slice (some ⟨g, 0, none⟩) 1 1).ownBlock = some g := rfl
  have hgw := (own_ge h.outer g hgo).2
  have F := h.fam.set hv hg hO (hat.imp id fun e g' hg' => by rw [e] at hg'; injection hg' with e'; omega)
  have ho : w'.ownsRow lo 171 8 (.slice (some ⟨g, 0, none⟩) 1 1) 1 vs := own_other h.outer hg (fun g' h1 h2 => h.out v hmem g' h2 h1)
  have hout : ∀ u ∈ vs.set p v', ∀ g', u.ownBlock = some g' → (Value.slice (some ⟨g, 0, none⟩) 1 1).ownBlock ≠ some g' := by
    intro u hu g' hg' he
    rw [hgo] at he
    injection he with he
    rcases List.mem_or_eq_of_mem_set hu with hu | rfl
    · exact h.out u hu g' hg' (by rw [hgo, he])
    · rcases hat with e | e
      · exact h.out v hmem g' (e ▸ hg') (by rw [hgo, he])
      · rw [e] at hg'; injection hg' with e'; omega
  refine ⟨(ho.stored p v').1, ⟨F.len, fun i u rs hu hr => ?_, F.sep⟩, hout⟩
  refine own_other (F.own i u rs hu hr) (gb_store (World.grownBy.refl w' (some g)) p v') (fun g' h1 h2 => ?_)
  injection h2 with h2
  exact hout u (List.mem_of_getElem? hu) g' h1 (by rw [hgo, h2])
theorem Fam.take {w : World} {lo : Nat} {vs : List Value} {ps : List (List RowV)} (h : Fam w lo vs ps) (k : Nat) : Fam w lo (vs.take k) (ps.take k) := by
  have up : ∀ {β : Type} (l : List β) (i : Nat) (x : β), (l.take k)[i]? = some x → l[i]? = some x := by
    intro β l i x hx
    have hi := (List.getElem?_eq_some_iff.1 hx).1
    rw [List.length_take] at hi
    rw [List.getElem?_take_of_lt (by omega)] at hx
    exact hx
  exact ⟨by simp [h.len], fun i v rs hv hr => h.own i v rs (up _ _ _ hv) (up _ _ _ hr), fun i j v u g hij hv hu => h.sep i j v u g hij (up _ _ _ hv) (up _ _ _ hu)⟩
theorem partsL_take (f : RowV → Nat) {M : Nat} (rs : List RowV) (hM : M ≤ 8) : (partsL f 8 rs).take M = partsL f M rs := by
  unfold partsL
  rw [← List.map_take, List.take_range, Nat.min_eq_left hM]
end Go.Proofs.Ytgkjpkkdcgndcaa
