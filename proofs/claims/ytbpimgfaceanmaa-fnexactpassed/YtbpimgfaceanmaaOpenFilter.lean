/-
  How a laws.Filter by value is opened, as plain values. No conditions.
-/
import Derived.Test.YtbpimgfaceanmaaFilterOk
import Derived.Test.YtbpimgfaceanmaaOpen
namespace Go.Proofs.Ytbpimgfaceanmaa
open Go.ChangeShapes Go.WideShapes Go.ChangeAt Go.RowKit Go.Joins Go.Deep
section
variable {H : Type} {enc : TypeId × Value → H} {W : World} {base : Nat}
theorem cellsFilter : Try.prog.cellsOf 23 = 2 := by kernel_rfl
set_option maxRecDepth 100000 in
theorem open_Filter {v : Value} {d : DataW H} {p : List MemPlace} (hv : Value.okWide Try.prog W .any base 23 v) (h : DataW.Trod enc Try.prog W 0 (fun _ => true) true 23 v d p) :
    ∃ r : FilV, v = .agg #[.int .i64 r.n, .string r.bits] ∧ r.Ok := by
  obtain ⟨v0, v1, y0, y1, n, rfl, _, _, t0, t1⟩ := open_agg2 Try.underlying23 (by kernel_rfl) cellsFilter hv h
  obtain ⟨t, e0, _, ht⟩ := DataW.trod_int Try.underlying2 t0
  obtain ⟨u, e1, _, hu⟩ := DataW.trod_string Try.underlying9 t1
  simp only [List.cons.injEq, and_true] at e0 e1
  subst e0 e1
  exact ⟨⟨t, u⟩, rfl, ht, hu⟩
end
end Go.Proofs.Ytbpimgfaceanmaa
