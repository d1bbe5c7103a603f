/-
  What the exact laws share: marks that begin at 1, and older slices that lie outside a younger owned block. No conditions.
-/
import Derived.Test.YtpnbbedfbglekaaMarkRows
import Derived.Test.YtpnbbedfbglekaaSort
namespace Go.Proofs.Ytpnbbedfbglekaa
open Go.RowKit

theorem markRowS_one (a : Option Addr) (n cap base : Nat) (xs : List Value) (w : World) (hm : n ≤ 1048576) (hO : w.ownsRow base 52 3 (.slice a n cap) n xs) :
    Calls Try.prog 51 #[.slice a n cap, .int .i64 1] w fun e w' => e = .returned (.int .i64 (1 + 3 * n)) ∧ w'.ownsRow base 52 3 (.slice a n cap) n (flat (marksR 1 n)) ∧ w.grownBy w' (Value.slice a n cap).ownBlock := markRowS_any a n cap 1 base xs w hm (by omega) (by omega) hO
theorem heldRowS_one (a : Option Addr) (n cap : Nat) (w : World) (hm : n ≤ 1048576) (hR : Rd w w.heap.size 3 a n (flat (marksR 1 n))) :
    Calls Try.prog 52 #[.slice a n cap, .int .i64 1] w fun e w' => e = .returned (.int .i64 (1 + 3 * n)) ∧ Below w.heap.size w w' := heldRowS_any a n cap 1 w hm (by omega) (by omega) hR
/-- An older slice does not lie in a younger owned block. -/
theorem Rd.gb_own {w w' : World} {B size n base e s k cap : Nat} {a b : Option Addr} {xs ys : List Value} (h : Rd w B size a n xs) (hg : w.grownBy w' (Value.slice b k cap).ownBlock) (hO : w.ownsRow base e s (.slice b k cap) k ys) (hB : B ≤ base) (hBw : B ≤ w.heap.size) : Rd w' B size a n xs :=
  ⟨h.1, fun hn => by
    obtain ⟨g, off, e, hb, hc⟩ := h.2 hn
    have hne : some g ≠ (Value.slice b k cap).ownBlock := fun h' => by have := (own_ge hO g h'.symm).1; omega
    exact ⟨g, off, e, hb, fun j u hu => (World.cell?_of_block (a := ⟨g, off + j, none⟩) (hg.block g (by omega) hne)).trans (hc j u hu)⟩⟩
end Go.Proofs.Ytpnbbedfbglekaa
