
/-
  Pairs as plain values: laws.szPair and laws.toPair by their contracts; how a laws.Pair by value is opened. Conditions: texts have at most maxLen bytes.
-/
import Derived.Test.YtgdbpckobngmjaaRowOk
import Derived.Test.YtgdbpckobngmjaaOpen
namespace Go.Proofs.Ytgdbpckobngmjaa
open Go.ChangeShapes Go.WideShapes Go.ChangeAt Go.RowKit Go.Joins Go.Deep

/-- A pair, as plain values. -/
structure PairV where
  key : ByteArray
  l : ByteArray
  r : ByteArray
  hl : Bool
  hr : Bool
def PairV.Ok (p : PairV) : Prop := p.key.size ≤ maxLen ∧ p.l.size ≤ maxLen ∧ p.r.size ≤ maxLen
def szP (k l r : ByteArray) (left : Int) : Int := if left < k.size + l.size + r.size then -1 else left - k.size - l.size - r.size
theorem szP_bd (k l r : ByteArray) (left : Int) (h0 : 0 ≤ left) (h1 : left ≤ 1048576) : szP k l r left = -1 ∨ (0 ≤ szP k l r left ∧ szP k l r left ≤ 1048576 ∧ (k.size + l.size + r.size : Int) ≤ left) := by
  unfold szP; split <;> omega

theorem bl4 (w : World) (a b c d : Obj) : Below w.heap.size w ((((w.alloc a).alloc b).alloc c).alloc d) := (bl3 w a b c).alloc (by simp; omega) _
section
variable {H : Type} {enc : TypeId × Value → H} {W : World} {base : Nat}
theorem array5 {α : Type} {a : Array α} (h : a.size = 5) : ∃ x0 x1 x2 x3 x4, a = #[x0, x1, x2, x3, x4] := by
  obtain ⟨l⟩ := a
  match l, h with
  | [x0, x1, x2, x3, x4], _ => exact ⟨x0, x1, x2, x3, x4, rfl⟩
set_option maxRecDepth 100000 in
/-- A struct of five fields of one cell each, opened. -/
theorem open_five {t : TypeId} {f0 f1 f2 f3 f4 : Field} {v : Value} {d : DataW H} {p : List MemPlace} (hs : Try.prog.underlying t = some (.struct #[f0, f1, f2, f3, f4])) (hone : oneCellFields Try.prog #[f0, f1, f2, f3, f4] = true) (hC : Try.prog.cellsOf t = 5)
    (hv : Value.okWide Try.prog W .any base t v) (h : DataW.Trod enc Try.prog W 0 (fun _ => true) true t v d p) :
    ∃ (v0 v1 v2 v3 v4 : Value) (n : Nat) (y0 y1 y2 y3 y4 : DataW H × List MemPlace), v = .agg #[v0, v1, v2, v3, v4] ∧
      DataW.trod enc Try.prog W 0 (fun _ => true) true n f0.type [v0] = some y0 ∧ DataW.trod enc Try.prog W 0 (fun _ => true) true n f1.type [v1] = some y1 ∧ DataW.trod enc Try.prog W 0 (fun _ => true) true n f2.type [v2] = some y2 ∧
      DataW.trod enc Try.prog W 0 (fun _ => true) true n f3.type [v3] = some y3 ∧ DataW.trod enc Try.prog W 0 (fun _ => true) true n f4.type [v4] = some y4 := by
  obtain ⟨cs, rfl, hsz⟩ := okWide_struct hs hv
  obtain ⟨c0, c1, c2, c3, c4, rfl⟩ := array5 (hsz.trans hC)
  obtain ⟨fuel, hf⟩ := h
  obtain ⟨ys, n', hn', hy, hlen, hyl, hf'⟩ := DataW.trod_struct hs hf
  have y5 : ys.length = 5 := hyl
  obtain ⟨o0, q0⟩ := hone_of hone 0 f0 rfl
  obtain ⟨o1, q1⟩ := hone_of hone 1 f1 rfl
  obtain ⟨o2, q2⟩ := hone_of hone 2 f2 rfl
  obtain ⟨o3, q3⟩ := hone_of hone 3 f3 rfl
  obtain ⟨o4, q4⟩ := hone_of hone 4 f4 rfl
  have g0 := hf' 0 f0 rfl
  have g1 := hf' 1 f1 rfl
  have g2 := hf' 2 f2 rfl
  have g3 := hf' 3 f3 rfl
  have g4 := hf' 4 f4 rfl
  rw [List.getElem?_eq_getElem (show 0 < ys.length by omega)] at g0
  rw [List.getElem?_eq_getElem (show 1 < ys.length by omega)] at g1
  rw [List.getElem?_eq_getElem (show 2 < ys.length by omega)] at g2
  rw [List.getElem?_eq_getElem (show 3 < ys.length by omega)] at g3
  rw [List.getElem?_eq_getElem (show 4 < ys.length by omega)] at g4
  simp only [Value.cells, o0, q0, o1, q1, o2, q2, o3, q3, o4, q4, List.drop_zero, List.drop_succ_cons, List.take_succ_cons, List.take_zero] at g0 g1 g2 g3 g4
  exact ⟨c0, c1, c2, c3, c4, n', _, _, _, _, _, rfl, g0, g1, g2, g3, g4⟩
end
end Go.Proofs.Ytgdbpckobngmjaa
