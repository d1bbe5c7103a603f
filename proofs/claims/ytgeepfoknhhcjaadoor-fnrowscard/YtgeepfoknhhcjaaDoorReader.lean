/-
  The reader of package impl by its contracts: ended, require, next. Conditions: those of each statement.
-/
import Derived.Test.YtgeepfoknhhcjaaDoorGrow
import Derived.Deep.QuietTactic
import Derived.BigQuiet
import Derived.Deep.LoopGhost
import Derived.Laws.IdiomStrings
import Derived.Lib.BufferRead
namespace Go.Proofs.YtgeepfoknhhcjaaDoor
open Go.RowKit

/-- The reader at block R: its text and its place. -/
def RdrAt (w : World) (R : Nat) (s : ByteArray) (p : Nat) : Prop := w.cell? ⟨R, 0, none⟩ = some (.string s) ∧ w.cell? ⟨R, 1, none⟩ = some (.int .i64 p) ∧ w.frozen? ⟨R, 1, none⟩ = false
/-- What a reader's method panics with. -/
def msgE : PanicEntry := { v := .iface 9 (.string ⟨#[110, 111, 116, 32, 97, 110, 32, 101, 110, 99, 111, 100, 105, 110, 103]⟩), recovered := false }

theorem RdrAt.below {w w' : World} {R : Nat} {s : ByteArray} {p : Nat} (h : RdrAt w R s p) (hb : Below w.heap.size w w') (hR : R < w.heap.size) : RdrAt w' R s p :=
  ⟨(hb.cell (p := ⟨R, 0, none⟩) hR).trans h.1, (hb.cell (p := ⟨R, 1, none⟩) hR).trans h.2.1, (hb.frozen (p := ⟨R, 1, none⟩) hR).trans h.2.2⟩
theorem ended_any (R : Nat) (s : ByteArray) (p : Nat) (b : Bool) (w : World) (h : RdrAt w R s p) (hb : decide (p = s.size) = b) :
    Calls Tryd.prog 81 #[.pointer (some ⟨R, 0, none⟩)] w fun e w' => e = .returned (.bool b) ∧ RdrAt w' R s p ∧ Below w.heap.size w w' := by
  have h' := h
  obtain ⟨h0, h1, _⟩ := h
  have Hb := Lib.hid hb
  clear hb
  go_enter Tryd.func81, Tryd.ntmps81
  go_wp2_with fail
  go_quiet (fail)
  go_wp2
  go_ret
  exact ⟨ret_bool (by rw [← Hb.out, Bool.eq_iff_iff]; simp; omega), h', below_drewN (Below.refl _ _) _⟩
theorem require_yes (R : Nat) (w : World) :
    Calls Tryd.prog 72 #[.pointer (some ⟨R, 0, none⟩), .bool true] w fun e w' => e = .returned (.tuple #[]) ∧ w = w' := by
  go_enter Tryd.func72, Tryd.ntmps72
  go_wp2
  go_end0
  exact ⟨rfl, rfl⟩
theorem require_no (R : Nat) (w : World) :
    Calls Tryd.prog 72 #[.pointer (some ⟨R, 0, none⟩), .bool false] w fun e w' => e = .panicked [msgE] ∧ w = w' := by
  go_enter Tryd.func72, Tryd.ntmps72
  go_wp2
  exact ⟨rfl, rfl, rfl⟩
theorem next_no (R : Nat) (s : ByteArray) (w : World) (h : RdrAt w R s s.size) :
    Calls Tryd.prog 71 #[.pointer (some ⟨R, 0, none⟩)] w fun e w' => e = .panicked [msgE] ∧ w.grownBy w' (some R) := by
  go_enter Tryd.func71, Tryd.ntmps71
  go_wp2_with fail
  refine (ended_any R s s.size true _ h (by simp)).mono ?_
  rintro e w1 ⟨rfl, _, hb⟩
  go_wp2_with fail
  refine (require_no R _).mono ?_
  rintro e w2 ⟨rfl, rfl⟩
  go_wp2_with fail
  exact ⟨rfl, rfl, gb_of_below hb _⟩
theorem next_yes (R : Nat) (s : ByteArray) (p : Nat) (w : World) (hs : s.size ≤ maxLen) (hp : p < s.size) (h : RdrAt w R s p) :
    Calls Tryd.prog 71 #[.pointer (some ⟨R, 0, none⟩)] w fun e w' => e = .returned (.int .u8 s[p].toNat) ∧ RdrAt w' R s (p + 1) ∧ w.grownBy w' (some R) := by
  go_enter Tryd.func71, Tryd.ntmps71
  go_wp2_with fail
  refine (ended_any R s p false _ h (by simp; omega)).mono ?_
  rintro e w1 ⟨rfl, h', hb⟩
  go_wp2_with fail
  refine (require_yes R _).mono ?_
  rintro e w1 ⟨rfl, rfl⟩
  obtain ⟨h0, h1, h2⟩ := h'
  unfold maxLen at hs
  have hpi : (p : Int) < (s.size : Int) := by omega
  go_wp2_with fail
  go_quiet (fail)
  go_wp2
  go_ret
  refine ⟨rfl, ⟨?_, ?_, ?_⟩, gb_store (gb_trans (gb_of_below hb _) (gb_of_below (below_drewN (Below.refl _ _) _) _)) 1 _⟩
  · simp [go_sem, h0]
  · simp [go_sem, h1]
  · simp [go_sem, h2]
end Go.Proofs.YtgeepfoknhhcjaaDoor
