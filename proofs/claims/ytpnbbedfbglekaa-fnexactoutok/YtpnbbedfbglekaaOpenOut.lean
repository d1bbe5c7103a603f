/-
  How a laws.Out by value is opened, as plain values with the cells that hold its totals. No conditions.
-/
import Derived.Test.YtpnbbedfbglekaaOpenTot
import Derived.Test.YtpnbbedfbglekaaOutMem
import Derived.Test.YtpnbbedfbglekaaOpen
namespace Go.Proofs.Ytpnbbedfbglekaa
open Go.ChangeShapes Go.WideShapes Go.ChangeAt Go.RowKit Go.Joins Go.Deep
section
variable {H : Type} {enc : TypeId × Value → H} {W : World} {base : Nat}
theorem cellsOut : Try.prog.cellsOf 24 = 2 := by kernel_rfl
set_option maxRecDepth 100000 in
theorem open_Out {v : Value} {d : DataW H} {p : List MemPlace} (hv : Value.okWide Try.prog W .any base 24 v) (h : DataW.Trod enc Try.prog W 0 (fun _ => true) true 24 v d p) :
    ∃ (P : Int) (a : Option Addr) (len cap : Nat) (ts : List TotV), v = .agg #[.int .i64 P, .slice a len cap] ∧ IsTots W a len cap ts := by
  obtain ⟨v0, v1, y0, y1, n, rfl, h0, h1, t0, t1⟩ := open_agg2 Try.underlying24 (by kernel_rfl) cellsOut hv h
  obtain ⟨t, e0, _, ht⟩ := DataW.trod_int Try.underlying2 t0
  simp only [List.cons.injEq, and_true] at e0
  subst e0
  obtain ⟨a, len, cap, ts, rfl, hI⟩ := open_Tots_at W Try.underlying22 Try.underlying148 (by kernel_rfl) cellsTotal Try.underlying9 Try.underlying2 (d := y1.1) (p := y1.2) t1
  exact ⟨t, a, len, cap, ts, rfl, hI⟩
end
end Go.Proofs.Ytpnbbedfbglekaa
