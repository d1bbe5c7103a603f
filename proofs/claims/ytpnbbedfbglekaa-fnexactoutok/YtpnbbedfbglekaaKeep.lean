/-
  A region that reads cells and calls functions: what holds throughout it. No conditions but those of each statement.
-/
import Derived.Test.YtpnbbedfbglekaaPlain
import Derived.WalkKit
import Derived.Deep.RegionHeld3
namespace Go.Proofs.Ytpnbbedfbglekaa
open Go.RowKit
section
variable {v W W' : World} {C : World → Prop}
theorem kStart (hC : ∀ W, Below v.heap.size v W → C W) : C v.drew ∧ Below v.heap.size v v.drew := ⟨hC _ (Below.refl _ _).drew, (Below.refl _ _).drew⟩
theorem kCall (hC : ∀ W, Below v.heap.size v W → C W) (H : Below W.heap.size W W') (G : C W ∧ Below v.heap.size v W) : C W' ∧ Below v.heap.size v W' := ⟨hC _ (G.2.trans (H.mono G.2.size)), G.2.trans (H.mono G.2.size)⟩
theorem kBelow (_hC : ∀ W, Below v.heap.size v W → C W) (G : C W ∧ Below v.heap.size v W) : Below v.heap.size v W := G.2
theorem kSize (_hC : ∀ W, Below v.heap.size v W → C W) (H : Below W.heap.size W W') (G : C W ∧ Below v.heap.size v W) : v.heap.size ≤ W'.heap.size := Nat.le_trans G.2.size H.size
theorem kAlloc {o : Obj} (hC : ∀ W, Below v.heap.size v W → C W) (G : C W ∧ Below v.heap.size v W) : C (W.alloc o) ∧ Below v.heap.size v (W.alloc o) := ⟨hC _ (G.2.alloc G.2.size _), G.2.alloc G.2.size _⟩
theorem kSwap {o o' : Obj} (hC : ∀ W, Below v.heap.size v W → C W) (hw : v.heap.size ≤ W.heap.size) (G : C (W.alloc o) ∧ Below v.heap.size v (W.alloc o)) : C (W.alloc o') ∧ Below v.heap.size v (W.alloc o') := by
  have h1 : Below W.heap.size (W.alloc o) (W.alloc o') := ⟨rfl, rfl, rfl, by simp, fun k hk => by rw [Below.heap_alloc _ _ _ hk, Below.heap_alloc _ _ _ hk]⟩
  have h2 := G.2.trans (h1.mono hw)
  exact ⟨hC _ h2, h2⟩
end
end Go.Proofs.Ytpnbbedfbglekaa
