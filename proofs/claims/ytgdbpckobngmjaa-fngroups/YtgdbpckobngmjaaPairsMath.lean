/-
  The pairs of two lists of sides, and the reading of a side.
-/
import Derived.Test.YtgdbpckobngmjaaSides
import Derived.Test.YtgdbpckobngmjaaPairMem
namespace Go.Proofs.Ytgdbpckobngmjaa
open Go.RowKit
def PairV.cells (p : PairV) : List Value := [.string p.key, .string p.l, .string p.r, .bool p.hl, .bool p.hr]
def flatP (l : List PairV) : List Value := l.flatMap PairV.cells
theorem flatP_snoc (l : List PairV) (p : PairV) : flatP (l ++ [p]) = flatP l ++ [.string p.key, .string p.l, .string p.r, .bool p.hl, .bool p.hr] := by simp [flatP, PairV.cells]
def pairOf (key : ByteArray) (x y : SideV) : PairV := ⟨key, x.val, y.val, x.has, y.has⟩
def pairsL (key : ByteArray) (a b : List SideV) : List PairV := a.flatMap fun x => b.map (pairOf key x)
/-- The pairs of the first k sides, and of the next one with the first j of the other hand. -/
def pairsK (key : ByteArray) (a b : List SideV) (k j : Nat) : List PairV := pairsL key (a.take k) b ++ (match a[k]? with | some x => (b.take j).map (pairOf key x) | none => [])
theorem pairsK_next {key : ByteArray} {a b : List SideV} {k j : Nat} {x y : SideV} (hx : a[k]? = some x) (hy : b[j]? = some y) : pairsK key a b k (j + 1) = pairsK key a b k j ++ [pairOf key x y] := by
  unfold pairsK
  rw [hx]
  obtain ⟨hj, e⟩ := List.getElem?_eq_some_iff.1 hy
  simp only
  rw [List.take_succ_eq_append_getElem hj, e, List.map_append, List.append_assoc]
  rfl
theorem pairsK_row {key : ByteArray} {a b : List SideV} {k : Nat} {x : SideV} (hx : a[k]? = some x) : pairsK key a b k b.length = pairsK key a b (k + 1) 0 := by
  unfold pairsK pairsL
  rw [hx]
  obtain ⟨hk, e⟩ := List.getElem?_eq_some_iff.1 hx
  rw [List.take_succ_eq_append_getElem hk, e, List.flatMap_append, List.take_length]
  cases a[k + 1]? <;> simp
theorem pairsK_zero (key : ByteArray) (a b : List SideV) : pairsK key a b 0 0 = [] := by
  unfold pairsK pairsL
  cases a[0]? <;> simp
theorem pairsK_all {key : ByteArray} {a b : List SideV} : pairsK key a b a.length 0 = pairsL key a b := by
  unfold pairsK
  rw [List.getElem?_eq_none (Nat.le_refl _), List.take_length, List.append_nil]
theorem flatD_get : ∀ (l : List SideV) (k : Nat) (s : SideV), l[k]? = some s → (flatD l)[k * 2]? = some (.string s.val) ∧ (flatD l)[k * 2 + 1]? = some (.bool s.has)
  | [], _, _, h => by simp at h
  | x :: l, 0, s, h => by
    obtain rfl : x = s := by simpa using h
    exact ⟨rfl, rfl⟩
  | x :: l, k + 1, s, h => by
    have g := flatD_get l k s (by simpa using h)
    have e : flatD (x :: l) = .string x.val :: .bool x.has :: flatD l := rfl
    rw [e, show (k + 1) * 2 = k * 2 + 1 + 1 by omega, show k * 2 + 1 + 1 + 1 = (k * 2 + 1) + 1 + 1 by omega]
    simpa only [List.getElem?_cons_succ] using g
theorem flatD_length (l : List SideV) : (flatD l).length = l.length * 2 := by
  induction l with
  | nil => rfl
  | cons x l ih => have e : flatD (x :: l) = .string x.val :: .bool x.has :: flatD l := rfl; rw [e]; simp only [List.length_cons, ih]; omega
theorem Rd.side {w : World} {B n k : Nat} {a : Option Addr} {l : List SideV} (h : Rd w B 2 a n (flatD l)) (hk : k < n) :
    ∃ b off s, a = some ⟨b, off, none⟩ ∧ b < B ∧ l[k]? = some s ∧ w.cell? ⟨b, off + k * 2, none⟩ = some (.string s.val) ∧ w.cell? ⟨b, off + k * 2 + 1, none⟩ = some (.bool s.has) := by
  obtain ⟨b, off, e, hb, hc⟩ := h.2 (by omega)
  have hl := h.1
  rw [flatD_length] at hl
  have hkl : k < l.length := by omega
  have g := flatD_get l k l[k] (List.getElem?_eq_getElem hkl)
  exact ⟨b, off, l[k], e, hb, List.getElem?_eq_getElem hkl, hc _ _ g.1, by rw [Nat.add_assoc]; exact hc _ _ g.2⟩
theorem Rd.sides_length {w : World} {B n : Nat} {a : Option Addr} {l : List SideV} (h : Rd w B 2 a n (flatD l)) : l.length = n := by
  have hl := h.1
  rw [flatD_length] at hl
  omega
theorem infoPair : (Try.prog.info? 88).map (fun i => (i.zero, i.size, i.bytes)) = some (some (.agg #[.string ⟨#[]⟩, .string ⟨#[]⟩, .string ⟨#[]⟩, .bool false, .bool false]), 5, 56) := by kernel_rfl
def PairsOut (w : World) (l : List PairV) (e : Ending) (w' : World) : Prop := ∃ a c, e = .returned (.slice a l.length c) ∧ Below w.heap.size w w' ∧ w'.ownsRow w.heap.size 88 5 (.slice a l.length c) l.length (flatP l)
theorem cell_pair_new (W : World) (k l r : ByteArray) (x y : Bool) (t : TypeId) : ∀ j u, [Value.string k, .string l, .string r, .bool x, .bool y][j]? = some u → (W.alloc (.cells #[.string k, .string l, .string r, .bool x, .bool y] t)).cell? ((⟨W.heap.size, 0, none⟩ : Addr).add j) = some u := by
  intro j u hu
  rw [Addr.add_mid, Nat.zero_add]
  rcases j with _ | _ | _ | _ | _ | j <;> simp at hu <;> subst hu <;> simp [go_sem]
theorem pairsK_le {key : ByteArray} {a b : List SideV} {k j : Nat} (hk : k ≤ a.length) (hj : j ≤ b.length) (ha : a.length ≤ 1000) (hb : b.length ≤ 1000) : (pairsK key a b k j).length ≤ 1001000 := by
  unfold pairsK pairsL
  have e0 : ∀ l : List SideV, (l.flatMap fun x => b.map (pairOf key x)).length = l.length * b.length := by
    intro l
    induction l with
    | nil => simp
    | cons y l ih => rw [List.flatMap_cons, List.length_append, ih, List.length_map, List.length_cons, Nat.succ_mul, Nat.add_comm]
  have e : ((a.take k).flatMap fun x => b.map (pairOf key x)).length = k * b.length := by
    rw [e0, List.length_take, Nat.min_eq_left hk]
  have h1 : k * b.length ≤ 1000 * 1000 := Nat.mul_le_mul (by omega) hb
  rw [List.length_append, e]
  have h2 : (match a[k]? with | some x => (b.take j).map (pairOf key x) | none => []).length ≤ 1000 := by
    cases a[k]? <;> simp <;> omega
  omega
end Go.Proofs.Ytgdbpckobngmjaa
