/-
  A slice that reads as some cells in blocks from one bound to another; it stays so while other blocks change. No conditions but those of each statement.
-/
import Derived.Test.YtallcholbbfkdaaDoorGrow
import Derived.Test.YtallcholbbfkdaaDoorSort
namespace Go.Proofs.YtallcholbbfkdaaDoor
open Go.RowKit
/-- A slice that reads as the cells xs, in a block from lo up to hi. -/
def RdIn (w : World) (lo hi size : Nat) (a : Option Addr) (n : Nat) (xs : List Value) : Prop :=
  xs.length = n * size ∧ (0 < n → ∃ b off, a = some ⟨b, off, none⟩ ∧ lo ≤ b ∧ b < hi ∧ ∀ j u, xs[j]? = some u → w.cell? ⟨b, off + j, none⟩ = some u)
/-- Whatever slice it is, its block is none of those from lo up to hi. -/
def Apart (lo hi : Nat) (v : Value) : Prop := ∀ g, v.ownBlock = some g → g < lo ∨ hi ≤ g
theorem RdIn.of_own {w : World} {base e s n cap : Nat} {a : Option Addr} {xs : List Value} (h : w.ownsRow base e s (.slice a n cap) n xs) : RdIn w base w.heap.size s a n xs := by
  refine ⟨h.1, fun hn => ?_⟩
  obtain ⟨g, rfl, h1, h2⟩ := own_form h hn
  exact ⟨g, 0, rfl, h1, h2, fun j u hu => by
    have hj := (List.getElem?_eq_some_iff.1 hu).1
    rw [Nat.zero_add, h.cellAt j (by rw [← h.1]; exact hj)]; exact hu⟩
theorem RdIn.rd {w : World} {lo hi size n : Nat} {a : Option Addr} {xs : List Value} (h : RdIn w lo hi size a n xs) : Rd w hi size a n xs :=
  ⟨h.1, fun hn => by
    obtain ⟨b, off, e, _, hb, hc⟩ := h.2 hn
    exact ⟨b, off, e, hb, hc⟩⟩
theorem RdIn.below {w w' : World} {lo hi size n B : Nat} {a : Option Addr} {xs : List Value} (h : RdIn w lo hi size a n xs) (hb : Below B w w') (hB : hi ≤ B) : RdIn w' lo hi size a n xs :=
  ⟨h.1, fun hn => by
    obtain ⟨b, off, e, h1, h2, hc⟩ := h.2 hn
    exact ⟨b, off, e, h1, h2, fun j u hu => (hb.cell (p := ⟨b, off + j, none⟩) (Nat.lt_of_lt_of_le h2 hB)).trans (hc j u hu)⟩⟩
theorem RdIn.gb {w w' : World} {lo hi size n : Nat} {a : Option Addr} {xs : List Value} {v : Value} (h : RdIn w lo hi size a n xs) (hg : w.grownBy w' v.ownBlock) (hi' : hi ≤ w.heap.size) (ha : Apart lo hi v) : RdIn w' lo hi size a n xs :=
  ⟨h.1, fun hn => by
    obtain ⟨b, off, e, h1, h2, hc⟩ := h.2 hn
    refine ⟨b, off, e, h1, h2, fun j u hu => (World.cell?_of_block (a := ⟨b, off + j, none⟩) (hg.block b (by omega) (fun e' => ?_))).trans (hc j u hu)⟩
    have := ha b e'.symm
    omega⟩
theorem Apart.next {lo hi : Nat} {v v' : Value} {w : World} (h : Apart lo hi v) (hat : v'.ownBlock = v.ownBlock ∨ v'.ownBlock = some w.heap.size) (hw : hi ≤ w.heap.size) : Apart lo hi v' := fun g e => by
  rcases hat with h1 | h1
  · exact h g (h1 ▸ e)
  · rw [h1] at e; injection e with e; omega
theorem Apart.next1 {lo hi : Nat} {v v' : Value} {w : World} (h : Apart lo hi v) (hat : v'.ownBlock = v.ownBlock ∨ v'.ownBlock = some (w.heap.size + 1)) (hw : hi ≤ w.heap.size) : Apart lo hi v' := fun g e => by
  rcases hat with h1 | h1
  · exact h g (h1 ▸ e)
  · rw [h1] at e; injection e with e; omega
theorem RdIn.gb1 {w w' : World} {lo hi size n : Nat} {a : Option Addr} {xs : List Value} {v : Value} {o : Obj} (h : RdIn w lo hi size a n xs) (hg : (w.alloc o).grownBy w' v.ownBlock) (hi' : hi ≤ w.heap.size) (ha : Apart lo hi v) : RdIn w' lo hi size a n xs :=
  (h.below ((Below.refl w.heap.size w).alloc (Nat.le_refl _) o) hi').gb hg (by simp; omega) ha
theorem size_grown1 {w w' : World} {o : Obj} {row : Option Nat} {k : Nat} (hg : (w.alloc o).grownBy w' row) (hk : k ≤ w.heap.size) : k ≤ w'.heap.size := by
  have := hg.size
  simp at this
  omega
/-- Behind the append of one element. -/
theorem below_grown1 {w wr w4 : World} {o : Obj} {e s n : Nat} {v : Value} {xs : List Value} (hb : Below w.heap.size w wr) (hO : wr.ownsRow w.heap.size e s v n xs) (hg : (wr.alloc o).grownBy w4 v.ownBlock) : Below w.heap.size w w4 :=
  (hb.alloc hb.size o).grown hg (by have := hb.size; simp; omega) (fun q e' => (own_ge hO q e').1)
theorem Apart.at_ {lo hi b o n c : Nat} (h : b < lo ∨ hi ≤ b) : Apart lo hi (.slice (some ⟨b, o, none⟩) n c) := fun g e => by
  have : b = g := by simpa [Value.ownBlock] using e
  omega
theorem Apart.none {lo hi n c : Nat} : Apart lo hi (.slice Option.none n c) := fun g e => by simp [Value.ownBlock] at e
end Go.Proofs.YtallcholbbfkdaaDoor
