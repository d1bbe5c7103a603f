/-
  A region that calls functions and keeps a struct that one of them returns in a new variable, whenever that variable is made: what holds throughout it. No conditions but those of each statement.
-/
import Derived.Test.YtpnbbedfbglekaaBothImpl
import Derived.Deep.RegionHeld3
namespace Go.Proofs.Ytpnbbedfbglekaa
open Go.RowKit
section
variable {v W W' : World} {C : World → Prop}
theorem keepStart (hC : ∀ W, Below v.heap.size v W → C W) : C v.drew ∧ Below v.heap.size v v.drew := ⟨hC _ (Below.refl _ _).drew, (Below.refl _ _).drew⟩
theorem keepCall (hC : ∀ W, Below v.heap.size v W → C W) (H : Below W.heap.size W W') (G : C W ∧ Below v.heap.size v W) : C W' ∧ Below v.heap.size v W' := ⟨hC _ (G.2.trans (H.mono G.2.size)), G.2.trans (H.mono G.2.size)⟩
theorem keepBelow (_hC : ∀ W, Below v.heap.size v W → C W) (G : C W ∧ Below v.heap.size v W) : Below v.heap.size v W := G.2
theorem keepSize (_hC : ∀ W, Below v.heap.size v W → C W) (H : Below W.heap.size W W') (G : C W ∧ Below v.heap.size v W) : v.heap.size ≤ W'.heap.size := Nat.le_trans G.2.size H.size
theorem keepAlloc {o : Obj} (hC : ∀ W, Below v.heap.size v W → C W) (G : C W ∧ Below v.heap.size v W) : C (W.alloc o) ∧ Below v.heap.size v (W.alloc o) := ⟨hC _ (G.2.alloc G.2.size _), G.2.alloc G.2.size _⟩
theorem keepSwap {o o' : Obj} (hC : ∀ W, Below v.heap.size v W → C W) (hw : v.heap.size ≤ W.heap.size) (G : C (W.alloc o) ∧ Below v.heap.size v (W.alloc o)) : C (W.alloc o') ∧ Below v.heap.size v (W.alloc o') := by
  have h1 : Below W.heap.size (W.alloc o) (W.alloc o') := ⟨rfl, rfl, rfl, by simp, fun k hk => by rw [Below.heap_alloc _ _ _ hk, Below.heap_alloc _ _ _ hk]⟩
  have h2 := G.2.trans (h1.mono hw)
  exact ⟨hC _ h2, h2⟩
/-- A new variable of type impl.Filter in block p, behind all that was there. -/
def FN (v W : World) (p : Nat) : Prop := W.cell? ⟨p, 0, none⟩ = some (.int .i64 0) ∧ W.cell? ⟨p, 1, none⟩ = some (.string ⟨#[]⟩) ∧ W.frozen? ⟨p, 0, none⟩ = false ∧ W.frozen? ⟨p, 1, none⟩ = false ∧ p < W.heap.size ∧ v.heap.size ≤ p
theorem FN.new (hw : v.heap.size ≤ W.heap.size) : FN v (W.alloc (.cells #[.int .i64 0, .string ⟨#[]⟩] 66)) W.heap.size := by
  refine ⟨?_, ?_, ?_, ?_, by simp, hw⟩ <;> simp [go_sem]
theorem FN.below {p : Nat} (h : FN v W p) (hb : Below W.heap.size W W') : FN v W' p := by
  obtain ⟨h0, h1, h2, h3, h4, h5⟩ := h
  exact ⟨(hb.cell (p := ⟨p, 0, none⟩) h4).trans h0, (hb.cell (p := ⟨p, 1, none⟩) h4).trans h1, (hb.frozen (p := ⟨p, 0, none⟩) h4).trans h2, (hb.frozen (p := ⟨p, 1, none⟩) h4).trans h3, Nat.lt_of_lt_of_le h4 hb.size, h5⟩
theorem FN.new_below (hw : v.heap.size ≤ W.heap.size) (hb : Below (W.alloc (.cells #[.int .i64 0, .string ⟨#[]⟩] 66)).heap.size (W.alloc (.cells #[.int .i64 0, .string ⟨#[]⟩] 66)) W') : FN v W' W.heap.size := (FN.new hw).below hb
theorem FN.new_first (hb : Below (v.drew.alloc (.cells #[.int .i64 0, .string ⟨#[]⟩] 66)).heap.size (v.drew.alloc (.cells #[.int .i64 0, .string ⟨#[]⟩] 66)) W') : FN v W' v.heap.size := (FN.new (W := v.drew) (Nat.le_refl v.heap.size)).below hb
theorem keepStore {p : Nat} {x y : Value} (hC : ∀ W, Below v.heap.size v W → C W) (A : FN v W p) (G : C W ∧ Below v.heap.size v W) : C ((W.setCell ⟨p, 0, none⟩ x).setCell ⟨p, 1, none⟩ y) ∧ Below v.heap.size v ((W.setCell ⟨p, 0, none⟩ x).setCell ⟨p, 1, none⟩ y) := by
  have hw := A.2.2.2.2.2
  have h2 := (G.2.setCell (p := ⟨p, 0, none⟩) hw x).setCell (p := ⟨p, 1, none⟩) hw y
  exact ⟨hC _ h2, h2⟩
/-- What is known of such a variable behind its store. -/
def Got (v W : World) (p : Nat) (x y : Value) : Prop := At2 W p x y ∧ p < W.heap.size ∧ v.heap.size ≤ p
theorem Got.new {x y : Value} (hw : v.heap.size ≤ W.heap.size) : Got v (W.alloc (.cells #[x, y] 66)) W.heap.size x y := ⟨At2.new _ _ _ _, by simp, hw⟩
theorem Got.store {p : Nat} {x y : Value} (A : FN v W p) : Got v ((W.setCell ⟨p, 0, none⟩ x).setCell ⟨p, 1, none⟩ y) p x y := by
  obtain ⟨h0, h1, h2, h3, h4, h5⟩ := A
  have hr := World.rangeAt_setCells_same W p 0 [x, y] (fun j hj => by
    rcases (show j = 0 ∨ j = 1 by simp at hj; omega) with rfl | rfl
    · exact ⟨by simp [h0], by simpa using h2⟩
    · exact ⟨by simp [h1], by simpa using h3⟩)
  refine ⟨⟨by have := hr 0 x rfl; exact this, by have := hr 1 y rfl; exact this⟩, ?_, h5⟩
  have := size_setCells p [x, y] 0 W
  exact this ▸ h4
theorem Got.below {p : Nat} {x y : Value} (h : Got v W p x y) (hb : Below W.heap.size W W') : Got v W' p x y := ⟨h.1.keep hb h.2.1, Nat.lt_of_lt_of_le h.2.1 hb.size, h.2.2⟩
/-- A region, by what stands behind it. -/
theorem region_via {P : Program} {id : Nat} {ops : Array Oper} {b : Bool} {Q : Exit → Act → World → Prop} {a : Act} (T : Act → World → Prop) (h : (Code.region id ops b).wp P (fun e a w => e = .normal ∧ T a w) a W)
    (hr : ∀ a w, T a w → Q .normal a w) : (Code.region id ops b).wp P Q a W := Code.wp_mono (fun _ a w ⟨he, h⟩ => he ▸ hr a w h) h
end
end Go.Proofs.Ytpnbbedfbglekaa
