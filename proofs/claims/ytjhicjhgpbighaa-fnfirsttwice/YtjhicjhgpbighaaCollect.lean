
/-
  slices.Collect at rows: what a function yields lies in a new slice, in its order. Conditions: at most 1048576 rows come.
-/
import Derived.Test.YtjhicjhgpbighaaIterRows
import Derived.Deep.MidRow
namespace Go.Proofs.Ytjhicjhgpbighaa
open Go.RowKit Go.Shelf
attribute [local go_sem] Oper.semAt_some
def Box3 (W : World) (B : Nat) (r : RowV) : Prop := W.heap[B]? = some (.cells #[.string r.key, .int .i64 r.tag, .string r.val] 39 (0, 0))
theorem Box3.c0 {W : World} {B : Nat} {r : RowV} (h : Box3 W B r) : W.cell? ⟨B, 0, none⟩ = some (.string r.key) := by simp [World.cell?, show W.heap[B]? = _ from h]
theorem Box3.c1 {W : World} {B : Nat} {r : RowV} (h : Box3 W B r) : W.cell? ⟨B, 1, none⟩ = some (.int .i64 r.tag) := by simp [World.cell?, show W.heap[B]? = _ from h]
theorem Box3.c2 {W : World} {B : Nat} {r : RowV} (h : Box3 W B r) : W.cell? ⟨B, 2, none⟩ = some (.string r.val) := by simp [World.cell?, show W.heap[B]? = _ from h]
theorem Box3.own {X Y : World} {B n : Nat} {r : RowV} {row : Option Nat} (h : Box3 X B r) (hg : X.grownBy Y row) (hr : ∀ q, row = some q → n ≤ q ∧ ∃ o : Obj, X.heap[q]? = some o ∧ o.isCells = false) : Box3 Y B r := by
  refine (hg.block B (Array.getElem?_eq_some_iff.1 h).1 (fun e => ?_)).trans h
  obtain ⟨_, o, ho, hc⟩ := hr B e.symm
  rw [show X.heap[B]? = _ from h] at ho; cases ho; cases hc
theorem cell_row_new (W : World) (r : RowV) (t : TypeId) : ∀ j u, [Value.string r.key, .int .i64 r.tag, .string r.val][j]? = some u → (W.alloc (.cells #[.string r.key, .int .i64 r.tag, .string r.val] t)).cell? ((⟨W.heap.size, 0, none⟩ : Addr).add j) = some u := by
  intro j u hu
  rw [Addr.add_mid, Nat.zero_add]
  rcases j with _ | _ | _ | j <;> simp at hu <;> subst hu <;> simp [go_sem]
theorem flat_snoc (l : List RowV) (r : RowV) : flat (l ++ [r]) = flat l ++ [.string r.key, .int .i64 r.tag, .string r.val] := by rw [flat_append]; rfl
def CollOut (w : World) (ys : List RowV) (e : Ending) (W' : World) : Prop := ∃ v, e = .returned v ∧ W'.ownsRow w.heap.size 39 3 v ys.length (flat ys) ∧ Below w.heap.size w W'
end Go.Proofs.Ytjhicjhgpbighaa
