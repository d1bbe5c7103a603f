/-
  How the arguments of the laws are opened: a laws.Row by value, a slice of them, a slice of strings, each as plain values with the cells that hold it. Conditions: those of each statement.
-/
import Derived.Test.YtlalbcdbcalaiabPlain
import Derived.ProofKit
import Derived.OpenShut
import Derived.ShutString
import Derived.ChangeOld
import Derived.Below
import Derived.Lib.SmallJoins
import Derived.SliceStrings
namespace Go.Proofs.Ytlalbcdbcalaiab
open Go.ChangeShapes Go.WideShapes Go.ChangeAt Go.RowKit Go.Joins

theorem own : ownKnob Try.prog.godebug = none := by kernel_rfl
theorem laidOut : laidOutB Try.prog = true := by kernel_rfl
section
variable {H : Type} {enc : TypeId × Value → H} {W : World} {base : Nat}
theorem cellsRow : Try.prog.cellsOf 29 = 3 := by kernel_rfl
theorem open_Row {v : Value} {d : DataW H} {p : List MemPlace} (hv : Value.okWide Try.prog W .any base 29 v) (h : DataW.Trod enc Try.prog W 0 (fun _ => true) true 29 v d p) :
    ∃ r : RowV, v = .agg #[.string r.key, .int .i64 r.tag, .string r.val] ∧ r.Ok := by
  obtain ⟨v0, v1, v2, y0, y1, y2, n, rfl, _, _, t0, t1, t2⟩ := open_agg3 Try.underlying29 (by kernel_rfl) cellsRow hv h
  obtain ⟨k, e0, _, hk⟩ := DataW.trod_string Try.underlying9 t0
  obtain ⟨t, e1, _, ht⟩ := DataW.trod_int Try.underlying2 t1
  obtain ⟨u, e2, _, hu⟩ := DataW.trod_string Try.underlying9 t2
  simp only [List.cons.injEq, and_true] at e0 e1 e2
  subst e0 e1 e2
  exact ⟨⟨k, t, u⟩, rfl, hk, ht, hu⟩
end
end Go.Proofs.Ytlalbcdbcalaiab
