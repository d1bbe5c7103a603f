/-
  The kinds of a join: impl.joinKindOf and impl.pairsOfKey by their contracts.
-/
import Derived.Test.YtgdbpckobngmjaaRowOk
import Derived.Test.YtgdbpckobngmjaaOpen
import Derived.Test.YtgdbpckobngmjaaSides
import Derived.Maps.AppendAt
namespace Go.Proofs.Ytgdbpckobngmjaa
open Go.ChangeShapes Go.WideShapes Go.ChangeAt Go.RowKit Go.Joins Go.Deep

/-- A pair, as plain values. -/
structure PairV where
  key : ByteArray
  l : ByteArray
  r : ByteArray
  hl : Bool
  hr : Bool
def PairV.Ok (p : PairV) : Prop := p.key.size ≤ maxLen ∧ p.l.size ≤ maxLen ∧ p.r.size ≤ maxLen
def szP (k l r : ByteArray) (left : Int) : Int := if left < k.size + l.size + r.size then -1 else left - k.size - l.size - r.size
theorem szP_bd (k l r : ByteArray) (left : Int) (h0 : 0 ≤ left) (h1 : left ≤ 1048576) : szP k l r left = -1 ∨ (0 ≤ szP k l r left ∧ szP k l r left ≤ 1048576 ∧ (k.size + l.size + r.size : Int) ≤ left) := by
  unfold szP; split <;> omega

theorem bl4 (w : World) (a b c d : Obj) : Below w.heap.size w ((((w.alloc a).alloc b).alloc c).alloc d) := (bl3 w a b c).alloc (by simp; omega) _
section
variable {H : Type} {enc : TypeId × Value → H} {W : World} {base : Nat}
theorem array5 {α : Type} {a : Array α} (h : a.size = 5) : ∃ x0 x1 x2 x3 x4, a = #[x0, x1, x2, x3, x4] := by
  obtain ⟨l⟩ := a
  match l, h with
  | [x0, x1, x2, x3, x4], _ => exact ⟨x0, x1, x2, x3, x4, rfl⟩
set_option maxRecDepth 100000 in
/-- A struct of five fields of one cell each, opened. -/
theorem open_five {t : TypeId} {f0 f1 f2 f3 f4 : Field} {v : Value} {d : DataW H} {p : List MemPlace} (hs : Try.prog.underlying t = some (.struct #[f0, f1, f2, f3, f4])) (hone : oneCellFields Try.prog #[f0, f1, f2, f3, f4] = true) (hC : Try.prog.cellsOf t = 5)
    (hv : Value.okWide Try.prog W .any base t v) (h : DataW.Trod enc Try.prog W 0 (fun _ => true) true t v d p) :
    ∃ (v0 v1 v2 v3 v4 : Value) (n : Nat) (y0 y1 y2 y3 y4 : DataW H × List MemPlace), v = .agg #[v0, v1, v2, v3, v4] ∧
      DataW.trod enc Try.prog W 0 (fun _ => true) true n f0.type [v0] = some y0 ∧ DataW.trod enc Try.prog W 0 (fun _ => true) true n f1.type [v1] = some y1 ∧ DataW.trod enc Try.prog W 0 (fun _ => true) true n f2.type [v2] = some y2 ∧
      DataW.trod enc Try.prog W 0 (fun _ => true) true n f3.type [v3] = some y3 ∧ DataW.trod enc Try.prog W 0 (fun _ => true) true n f4.type [v4] = some y4 := by
  obtain ⟨cs, rfl, hsz⟩ := okWide_struct hs hv
  obtain ⟨c0, c1, c2, c3, c4, rfl⟩ := array5 (hsz.trans hC)
  obtain ⟨fuel, hf⟩ := h
  obtain ⟨ys, n', hn', hy, hlen, hyl, hf'⟩ := DataW.trod_struct hs hf
  have y5 : ys.length = 5 := hyl
  obtain ⟨o0, q0⟩ := hone_of hone 0 f0 rfl
  obtain ⟨o1, q1⟩ := hone_of hone 1 f1 rfl
  obtain ⟨o2, q2⟩ := hone_of hone 2 f2 rfl
  obtain ⟨o3, q3⟩ := hone_of hone 3 f3 rfl
  obtain ⟨o4, q4⟩ := hone_of hone 4 f4 rfl
  have g0 := hf' 0 f0 rfl
  have g1 := hf' 1 f1 rfl
  have g2 := hf' 2 f2 rfl
  have g3 := hf' 3 f3 rfl
  have g4 := hf' 4 f4 rfl
  rw [List.getElem?_eq_getElem (show 0 < ys.length by omega)] at g0
  rw [List.getElem?_eq_getElem (show 1 < ys.length by omega)] at g1
  rw [List.getElem?_eq_getElem (show 2 < ys.length by omega)] at g2
  rw [List.getElem?_eq_getElem (show 3 < ys.length by omega)] at g3
  rw [List.getElem?_eq_getElem (show 4 < ys.length by omega)] at g4
  simp only [Value.cells, o0, q0, o1, q1, o2, q2, o3, q3, o4, q4, List.drop_zero, List.drop_succ_cons, List.take_succ_cons, List.take_zero] at g0 g1 g2 g3 g4
  exact ⟨c0, c1, c2, c3, c4, n', _, _, _, _, _, rfl, g0, g1, g2, g3, g4⟩
end
end Go.Proofs.Ytgdbpckobngmjaa

namespace Go.Proofs.Ytgdbpckobngmjaa
open Go.RowKit
def PairV.cells (p : PairV) : List Value := [.string p.key, .string p.l, .string p.r, .bool p.hl, .bool p.hr]
def flatP (l : List PairV) : List Value := l.flatMap PairV.cells
theorem flatP_snoc (l : List PairV) (p : PairV) : flatP (l ++ [p]) = flatP l ++ [.string p.key, .string p.l, .string p.r, .bool p.hl, .bool p.hr] := by simp [flatP, PairV.cells]
def pairOf (key : ByteArray) (x y : SideV) : PairV := ⟨key, x.val, y.val, x.has, y.has⟩
def pairsL (key : ByteArray) (a b : List SideV) : List PairV := a.flatMap fun x => b.map (pairOf key x)
/-- The pairs of the first k sides, and of the next one with the first j of the other hand. -/
def pairsK (key : ByteArray) (a b : List SideV) (k j : Nat) : List PairV := pairsL key (a.take k) b ++ (match a[k]? with | some x => (b.take j).map (pairOf key x) | none => [])
theorem pairsK_next {key : ByteArray} {a b : List SideV} {k j : Nat} {x y : SideV} (hx : a[k]? = some x) (hy : b[j]? = some y) : pairsK key a b k (j + 1) = pairsK key a b k j ++ [pairOf key x y] := by
  unfold pairsK
  rw [hx]
  obtain ⟨hj, e⟩ := List.getElem?_eq_some_iff.1 hy
  simp only
  rw [List.take_succ_eq_append_getElem hj, e, List.map_append, List.append_assoc]
  rfl
theorem pairsK_row {key : ByteArray} {a b : List SideV} {k : Nat} {x : SideV} (hx : a[k]? = some x) : pairsK key a b k b.length = pairsK key a b (k + 1) 0 := by
  unfold pairsK pairsL
  rw [hx]
  obtain ⟨hk, e⟩ := List.getElem?_eq_some_iff.1 hx
  rw [List.take_succ_eq_append_getElem hk, e, List.flatMap_append, List.take_length]
  cases a[k + 1]? <;> simp
theorem pairsK_zero (key : ByteArray) (a b : List SideV) : pairsK key a b 0 0 = [] := by
  unfold pairsK pairsL
  cases a[0]? <;> simp
theorem pairsK_all {key : ByteArray} {a b : List SideV} : pairsK key a b a.length 0 = pairsL key a b := by
  unfold pairsK
  rw [List.getElem?_eq_none (Nat.le_refl _), List.take_length, List.append_nil]
theorem flatD_get : ∀ (l : List SideV) (k : Nat) (s : SideV), l[k]? = some s → (flatD l)[k * 2]? = some (.string s.val) ∧ (flatD l)[k * 2 + 1]? = some (.bool s.has)
  | [], _, _, h => by simp at h
  | x :: l, 0, s, h => by
    obtain rfl : x = s := by simpa using h
    exact ⟨rfl, rfl⟩
  | x :: l, k + 1, s, h => by
    have g := flatD_get l k s (by simpa using h)
    have e : flatD (x :: l) = .string x.val :: .bool x.has :: flatD l := rfl
    rw [e, show (k + 1) * 2 = k * 2 + 1 + 1 by omega, show k * 2 + 1 + 1 + 1 = (k * 2 + 1) + 1 + 1 by omega]
    simpa only [List.getElem?_cons_succ] using g
theorem flatD_length (l : List SideV) : (flatD l).length = l.length * 2 := by
  induction l with
  | nil => rfl
  | cons x l ih => have e : flatD (x :: l) = .string x.val :: .bool x.has :: flatD l := rfl; rw [e]; simp only [List.length_cons, ih]; omega
theorem Rd.side {w : World} {B n k : Nat} {a : Option Addr} {l : List SideV} (h : Rd w B 2 a n (flatD l)) (hk : k < n) :
    ∃ b off s, a = some ⟨b, off, none⟩ ∧ b < B ∧ l[k]? = some s ∧ w.cell? ⟨b, off + k * 2, none⟩ = some (.string s.val) ∧ w.cell? ⟨b, off + k * 2 + 1, none⟩ = some (.bool s.has) := by
  obtain ⟨b, off, e, hb, hc⟩ := h.2 (by omega)
  have hl := h.1
  rw [flatD_length] at hl
  have hkl : k < l.length := by omega
  have g := flatD_get l k l[k] (List.getElem?_eq_getElem hkl)
  exact ⟨b, off, l[k], e, hb, List.getElem?_eq_getElem hkl, hc _ _ g.1, by rw [Nat.add_assoc]; exact hc _ _ g.2⟩
theorem Rd.sides_length {w : World} {B n : Nat} {a : Option Addr} {l : List SideV} (h : Rd w B 2 a n (flatD l)) : l.length = n := by
  have hl := h.1
  rw [flatD_length] at hl
  omega
theorem infoPair : (Try.prog.info? 88).map (fun i => (i.zero, i.size, i.bytes)) = some (some (.agg #[.string ⟨#[]⟩, .string ⟨#[]⟩, .string ⟨#[]⟩, .bool false, .bool false]), 5, 56) := by kernel_rfl
def PairsOut (w : World) (l : List PairV) (e : Ending) (w' : World) : Prop := ∃ a c, e = .returned (.slice a l.length c) ∧ Below w.heap.size w w' ∧ w'.ownsRow w.heap.size 88 5 (.slice a l.length c) l.length (flatP l)
theorem cell_pair_new (W : World) (k l r : ByteArray) (x y : Bool) (t : TypeId) : ∀ j u, [Value.string k, .string l, .string r, .bool x, .bool y][j]? = some u → (W.alloc (.cells #[.string k, .string l, .string r, .bool x, .bool y] t)).cell? ((⟨W.heap.size, 0, none⟩ : Addr).add j) = some u := by
  intro j u hu
  rw [Addr.add_mid, Nat.zero_add]
  rcases j with _ | _ | _ | _ | _ | j <;> simp at hu <;> subst hu <;> simp [go_sem]
theorem pairsK_le {key : ByteArray} {a b : List SideV} {k j : Nat} (hk : k ≤ a.length) (hj : j ≤ b.length) (ha : a.length ≤ 1000) (hb : b.length ≤ 1000) : (pairsK key a b k j).length ≤ 1001000 := by
  unfold pairsK pairsL
  have e0 : ∀ l : List SideV, (l.flatMap fun x => b.map (pairOf key x)).length = l.length * b.length := by
    intro l
    induction l with
    | nil => simp
    | cons y l ih => rw [List.flatMap_cons, List.length_append, ih, List.length_map, List.length_cons, Nat.succ_mul, Nat.add_comm]
  have e : ((a.take k).flatMap fun x => b.map (pairOf key x)).length = k * b.length := by
    rw [e0, List.length_take, Nat.min_eq_left hk]
  have h1 : k * b.length ≤ 1000 * 1000 := Nat.mul_le_mul (by omega) hb
  rw [List.length_append, e]
  have h2 : (match a[k]? with | some x => (b.take j).map (pairOf key x) | none => []).length ≤ 1000 := by
    cases a[k]? <;> simp <;> omega
  omega
end Go.Proofs.Ytgdbpckobngmjaa

namespace Go.Proofs.Ytgdbpckobngmjaa
open Go.RowKit
set_option maxRecDepth 100000 in
set_option maxHeartbeats 2000000 in
theorem pairsOfSides_any (key : ByteArray) (a b : Option Addr) (n ca m cb : Nat) (la lb : List SideV) (w : World) (hn : n ≤ 1000) (hm : m ≤ 1000) (hA : Rd w w.heap.size 2 a n (flatD la)) (hB : Rd w w.heap.size 2 b m (flatD lb)) :
    Calls Try.prog 148 #[.string key, .slice a n ca, .slice b m cb] w (PairsOut w (pairsL key la lb)) := by
  have h1 := Lib.hid hA.sides_length
  have h2 := Lib.hid hB.sides_length
  obtain ⟨i0, hi, hz0, hz1, hz2⟩ := info_parts infoPair
  obtain ⟨p, hp⟩ : ∃ p, n * m = p := ⟨_, rfl⟩
  have hp1 : p ≤ 1000 * 1000 := by rw [← hp]; exact Nat.mul_le_mul hn hm
  have hmul : (n : Int) * (m : Int) = (p : Int) := by rw [← hp]; simp
  have HP := Lib.hid hp
  clear hp
  go_enter Try.func148, Try.ntmps148
  go_wp2_with (at_make; refine wpList_make_own _ rfl _ _ 70 rfl w.heap.size 88 i0 (.agg #[.string ⟨#[]⟩, .string ⟨#[]⟩, .string ⟨#[]⟩, .bool false, .bool false]) 5 Try.underlying70 hi hz0 hz1 .i64 .i64 _ p rfl rfl (by omega) (by rw [hz2]; omega) (by unfold maxLen; omega) (Nat.le_refl _) ?_; intro w1 hown hgrow)
  have hb1 := (Below.refl w.heap.size w).grown hgrow (Nat.le_refl _) (by simp)
  clear hgrow hmul
  go_loopw [7, 20] (fun v i wr => ∃ (k q : Nat) (g : Option Addr) (c : Nat), k ≤ n ∧ i = .int .i64 k ∧ v = .slice g q c ∧ Hid ((pairsK key la lb k 0).length = q) ∧ wr.ownsRow w.heap.size 88 5 (.slice g q c) q (flatP (pairsK key la lb k 0)) ∧ Below w.heap.size w wr) (fun _ i _ => n - (intOf i).toNat)
  case atStart => exact ⟨0, 0, _, _, Nat.zero_le _, rfl, rfl, Lib.hid (by rw [pairsK_zero]; rfl), by rw [pairsK_zero]; exact hown, hb1⟩
  case round =>
    obtain ⟨k, q, g, c, hk, rfl, rfl, HQ, hO, hb⟩ := hrel
    clear hown hb1
    by_cases hlt : k < n
    · obtain ⟨b1, o1, x, rfl, hB1, hx, c0, c1⟩ := (hA.below hb (Nat.le_refl _)).side hlt
      have Hx := Lib.hid hx
      clear hx
      obtain ⟨xv, xh⟩ := x
      have hb2 := bl1 wr (.cells #[.string xv, .bool xh] 190)
      have hX0 : (wr.alloc (.cells #[.string xv, .bool xh] 190)).cell? ⟨wr.heap.size, 0, none⟩ = some (.string xv) := by simp [go_sem]
      have hX1 : (wr.alloc (.cells #[.string xv, .bool xh] 190)).cell? ⟨wr.heap.size, 1, none⟩ = some (.bool xh) := by simp [go_sem]
      have hXl : wr.heap.size < (wr.alloc (.cells #[.string xv, .bool xh] 190)).heap.size := by simp
      have hO2 := own_below hO hb2
      have hB2 := hb.trans (hb2.mono hb.size)
      have hXw : w.heap.size ≤ wr.heap.size := hb.size
      have hNX : ∀ q', (Value.slice g q c).ownBlock = some q' → q' ≠ wr.heap.size := fun q' e => by have := (own_ge hO q' e).2; omega
      clear hb2 hO hb
      go_wp2_with fail
      generalize wr.alloc (.cells #[.string xv, .bool xh] 190) = w2 at *
      generalize wr.heap.size = X at *
      clear c0 c1
      go_loopw [7, 26] (fun v i wi => ∃ (j q : Nat) (g : Option Addr) (c : Nat), j ≤ m ∧ i = .int .i64 j ∧ v = .slice g q c ∧ Hid ((pairsK key la lb k j).length = q) ∧ wi.ownsRow w.heap.size 88 5 (.slice g q c) q (flatP (pairsK key la lb k j)) ∧ Below w.heap.size w wi ∧ wi.cell? ⟨X, 0, none⟩ = some (.string xv) ∧ wi.cell? ⟨X, 1, none⟩ = some (.bool xh) ∧ X < wi.heap.size ∧ Hid (∀ q', (Value.slice g q c).ownBlock = some q' → q' ≠ X)) (fun _ i _ => m - (intOf i).toNat)
      case atStart => exact ⟨0, q, g, c, Nat.zero_le _, rfl, rfl, HQ, hO2, hB2, hX0, hX1, hXl, Lib.hid hNX⟩
      case round =>
        clear hNX hX0 hX1 hXl hO2 hB2 HQ
        obtain ⟨j, q, g, c, hj, rfl, rfl, HQ, hO, hb, hX0, hX1, hXl, HN⟩ := hrel
        by_cases hlj : j < m
        · obtain ⟨b2, o2, y, rfl, hB2, hy, d0, d1⟩ := (hB.below hb (Nat.le_refl _)).side hlj
          have HE := Lib.hid (pairsK_next (key := key) Hx.out hy)
          clear hy
          obtain ⟨yv, yh⟩ := y
          have hq : q ≤ 1001000 := by
            rw [← HQ.out]
            exact pairsK_le (by rw [h1.out]; exact hk) (by rw [h2.out]; exact hj) (by rw [h1.out]; exact hn) (by rw [h2.out]; exact hm)
          have hb2 := bl1 wr (.cells #[.string yv, .bool yh] 190)
          have hO2 := own_below hO hb2
          have hBB := hb.trans (hb2.mono hb.size)
          clear hb2 hO
          have hZ0 : (wr.alloc (.cells #[.string yv, .bool yh] 190)).cell? ⟨X, 0, none⟩ = some (.string xv) := by rw [World.cell?_alloc_past _ _ _ hXl]; exact hX0
          have hZ1 : (wr.alloc (.cells #[.string yv, .bool yh] 190)).cell? ⟨X, 1, none⟩ = some (.bool xh) := by rw [World.cell?_alloc_past _ _ _ hXl]; exact hX1
          have HC := Lib.hid (cell_pair_new (wr.alloc (.cells #[.string yv, .bool yh] 190)) key xv yv xh yh 88)
          rw [World.size_alloc] at HC
          go_wp2_with (at_builtin; refine wpList_append_own_at _ rfl _ _ 70 rfl w.heap.size 88 i0 (.agg #[.string ⟨#[]⟩, .string ⟨#[]⟩, .string ⟨#[]⟩, .bool false, .bool false]) 5 56 Try.underlying70 hi hz0 hz1 hz2 rfl (by decide) _ _ _ rfl (hO2.alloc _) ⟨wr.heap.size + 1, 0, none⟩ 1 1 [.string key, .string xv, .string yv, .bool xh, .bool yh] rfl rfl HC.out ?g2 ?g3 ?g4 ?g5 ?_)
          case g2 => simp [Value.oneCell']
          case g3 => unfold maxLen; omega
          case g4 => omega
          case g5 => have := hb.size; simp; omega
          intro v' w4 hO4 hg4 _ hown4
          obtain ⟨a', cap', rfl⟩ := own_slice' hO4
          have hb4 := (hBB.alloc hBB.size (.cells #[.string key, .string xv, .string yv, .bool xh, .bool yh] 88)).grown hg4 (by have := hBB.size; simp at this ⊢; omega) (fun q e => (own_ge hO2 q e).1)
          have hne : some X ≠ (Value.slice g q c).ownBlock := fun e => HN.out X e.symm rfl
          have hY0 : w4.cell? ⟨X, 0, none⟩ = some (.string xv) := hg4.cell (a := ⟨X, 0, none⟩) (by rw [World.cell?_alloc_past _ _ _ (by simp; omega)]; exact hZ0) hne
          have hY1 : w4.cell? ⟨X, 1, none⟩ = some (.bool xh) := hg4.cell (a := ⟨X, 1, none⟩) (by rw [World.cell?_alloc_past _ _ _ (by simp; omega)]; exact hZ1) hne
          have hYl : X < w4.heap.size := Nat.lt_of_lt_of_le (by simp; omega) hg4.size
          have HN4 : Hid (∀ q', (Value.slice a' (q + 1) cap').ownBlock = some q' → q' ≠ X) := Lib.hid (by
            intro q' e
            rcases hown4 with h | h
            · exact HN.out q' (h ▸ e)
            · rw [h] at e
              have : wr.heap.size + 1 + 1 = q' := by simpa using e
              omega)
          have hO5 : w4.ownsRow w.heap.size 88 5 (.slice a' (q + 1) cap') (q + 1) (flatP (pairsK key la lb k (j + 1))) := by
            rw [HE.out, flatP_snoc]
            exact hO4
          have HQ2 : Hid ((pairsK key la lb k (j + 1)).length = q + 1) := Lib.hid (by rw [HE.out, List.length_append, HQ.out]; rfl)
          clear hg4 hO2 hO4 hne hown4 hZ0 hZ1 hX0 hX1 d0 d1 HC HE hBB hb
          go_wp2_with fail
          go_roundw
          case rel => exact ⟨j + 1, q + 1, a', cap', by omega, by go_num, rfl, HQ2, hO5, hb4, hY0, hY1, hYl, HN4⟩
          case measure => simp [intOf]; omega
        · obtain rfl : j = m := by omega
          have e := pairsK_row (key := key) (b := lb) Hx.out
          rw [h2.out] at e
          have HQ2 := Lib.hid HQ.out
          rw [e] at HQ2 hO
          clear e
          go_wp2_with fail
          go_roundw
          case rel => exact ⟨k + 1, q, g, c, by omega, by go_num, rfl, HQ2, hO, hb⟩
          case measure => simp [intOf]; omega
    · obtain rfl : k = n := by omega
      have e : pairsK key la lb k 0 = pairsL key la lb := by rw [← h1.out]; exact pairsK_all
      have HQ2 := Lib.hid HQ.out
      rw [e] at HQ2 hO
      clear e
      go_wp2_with fail
      go_ret
      refine ⟨g, c, ?_, hb, ?_⟩
      · rw [HQ2.out]; rfl
      · rw [HQ2.out]; exact hO
end Go.Proofs.Ytgdbpckobngmjaa

namespace Go.Proofs.Ytgdbpckobngmjaa
open Go.RowKit
inductive JK where
  | both (a b : Bool)
  | keep (b : Bool)
def JK.val : JK → Value
  | .both a b => .iface 168 (.agg #[.bool a, .bool b])
  | .keep b => .iface 170 (.agg #[.bool b])
def kindOf (n : Int) : Option JK :=
  if n = 1 then some (.both false false) else if n = 2 then some (.both true false) else if n = 3 then some (.both false true) else if n = 4 then some (.both true true) else if n = 5 then some (.keep true) else if n = 6 then some (.keep false) else none
def kindV : Option JK → Value
  | some k => k.val
  | none => .nilIface
set_option maxRecDepth 100000 in
set_option maxHeartbeats 1000000 in
theorem joinKindOf_any (n : Int) (w : World) :
    Calls Try.prog 111 #[.int .i64 n] w fun e w' => e = .returned (.tuple #[kindV (kindOf n), .bool (kindOf n).isSome]) ∧ w = w' := by
  by_cases h1 : n = 1
  · subst h1
    go_enter Try.func111, Try.ntmps111
    go_wp2_with fail
    go_ret2
    exact ⟨rfl, rfl⟩
  by_cases h2 : n = 2
  · subst h2
    go_enter Try.func111, Try.ntmps111
    go_wp2_with fail
    go_ret2
    exact ⟨rfl, rfl⟩
  by_cases h3 : n = 3
  · subst h3
    go_enter Try.func111, Try.ntmps111
    go_wp2_with fail
    go_ret2
    exact ⟨rfl, rfl⟩
  by_cases h4 : n = 4
  · subst h4
    go_enter Try.func111, Try.ntmps111
    go_wp2_with fail
    go_ret2
    exact ⟨rfl, rfl⟩
  by_cases h5 : n = 5
  · subst h5
    go_enter Try.func111, Try.ntmps111
    go_wp2_with fail
    go_ret2
    exact ⟨rfl, rfl⟩
  by_cases h6 : n = 6
  · subst h6
    go_enter Try.func111, Try.ntmps111
    go_wp2_with fail
    go_ret2
    exact ⟨rfl, rfl⟩
  have E := Lib.hid (show kindOf n = none by simp [kindOf, h1, h2, h3, h4, h5, h6])
  have g1 : (n == 1) = false := by simpa using h1
  have g2 : (n == 2) = false := by simpa using h2
  have g3 : (n == 3) = false := by simpa using h3
  have g4 : (n == 4) = false := by simpa using h4
  have g5 : (n == 5) = false := by simpa using h5
  have g6 : (n == 6) = false := by simpa using h6
  go_enter Try.func111, Try.ntmps111
  go_wp2_with fail
  go_ret2
  rw [E.out]
  exact ⟨rfl, rfl⟩
def pairsOfK (k : JK) (key : ByteArray) (a b : List RowV) : List PairV :=
  match k with
  | .both _ _ => pairsL key (sidesL a) (sidesL b)
  | .keep _ => pairsL key (sidesL a) (sidesL [])
theorem as_both (v : Value) (w : World) : (Instr.typeAssert (.iface 168 v) 143 168 true).run Try.prog w = .ok (.tuple #[v, .bool true]) w := by kernel_rfl
theorem as_keep (v : Value) (w : World) : (Instr.typeAssert (.iface 170 v) 143 170 true).run Try.prog w = .ok (.tuple #[v, .bool true]) w := by kernel_rfl
theorem as_not (v : Value) (w : World) : (Instr.typeAssert (.iface 170 v) 143 168 true).run Try.prog w = .ok (.tuple #[.agg #[.bool false, .bool false], .bool false]) w := by kernel_rfl
theorem sidesL_le {rs : List RowV} (h : rs.length ≤ 1000) : (sidesL rs).length ≤ 1000 := by
  unfold sidesL
  split
  · simp
  · simpa using h
set_option maxRecDepth 100000 in
set_option maxHeartbeats 1000000 in
theorem pairsOfKey_any (k : JK) (key : ByteArray) (a b : Option Addr) (n ca m cb : Nat) (ra rb : List RowV) (w : World) (hn : n ≤ 1000) (hm : m ≤ 1000) (hA : Rd w w.heap.size 3 a n (flat ra)) (hB : Rd w w.heap.size 3 b m (flat rb)) :
    Calls Try.prog 139 #[k.val, .string key, .slice a n ca, .slice b m cb] w (PairsOut w (pairsOfK k key ra rb)) := by
  have h1 := Lib.hid hA.rows_length
  have h2 := Lib.hid hB.rows_length
  cases k with
  | both x y =>
    show Calls Try.prog 139 #[.iface 168 (.agg #[.bool x, .bool y]), .string key, .slice a n ca, .slice b m cb] w (PairsOut w (pairsL key (sidesL ra) (sidesL rb)))
    have ha := as_both (.agg #[.bool x, .bool y])
    go_enter Try.func139, Try.ntmps139
    go_wp2_with fail
    refine (sidesOf_any a n ca ra w (by omega) hA).mono ?_
    rintro e w1 ⟨a1, c1, rfl, hb1, hO1⟩
    have hB1 := (hB.below hb1 (Nat.le_refl _)).more hb1.size
    go_wp2_with fail
    refine (sidesOf_any b m cb rb w1 (by omega) hB1).mono ?_
    rintro e w2 ⟨a2, c2, rfl, hb2, hO2⟩
    have hO3 := own_below hO1 hb2
    have hb3 := hb1.trans (hb2.mono hb1.size)
    go_wp2_with fail
    refine (pairsOfSides_any key a1 a2 _ c1 _ c2 (sidesL ra) (sidesL rb) w2 (sidesL_le (by rw [h1.out]; exact hn)) (sidesL_le (by rw [h2.out]; exact hm)) (Rd.of_own hO3) (Rd.of_own hO2)).mono ?_
    rintro e w3 ⟨a3, c3, rfl, hb4, hO4⟩
    go_wp2_with fail
    go_ret
    exact ⟨a3, c3, rfl, hb3.trans (hb4.mono hb3.size), own_base' hO4 hb3.size⟩
  | keep x =>
    show Calls Try.prog 139 #[.iface 170 (.agg #[.bool x]), .string key, .slice a n ca, .slice b m cb] w (PairsOut w (pairsL key (sidesL ra) (sidesL [])))
    have ha := as_keep (.agg #[.bool x])
    have hb := as_not (.agg #[.bool x])
    go_enter Try.func139, Try.ntmps139
    go_wp2_with fail
    refine (sidesOf_any a n ca ra w (by omega) hA).mono ?_
    rintro e w1 ⟨a1, c1, rfl, hb1, hO1⟩
    go_wp2_with fail
    refine (sidesOf_any none 0 0 [] w1 (by omega) ⟨rfl, fun h => absurd h (by omega)⟩).mono ?_
    rintro e w2 ⟨a2, c2, rfl, hb2, hO2⟩
    have hO3 := own_below hO1 hb2
    have hb3 := hb1.trans (hb2.mono hb1.size)
    go_wp2_with fail
    refine (pairsOfSides_any key a1 a2 _ c1 _ c2 (sidesL ra) (sidesL []) w2 (sidesL_le (by rw [h1.out]; exact hn)) (sidesL_le (by simp)) (Rd.of_own hO3) (Rd.of_own hO2)).mono ?_
    rintro e w3 ⟨a3, c3, rfl, hb4, hO4⟩
    go_wp2_with fail
    go_ret
    exact ⟨a3, c3, rfl, hb3.trans (hb4.mono hb3.size), own_base' hO4 hb3.size⟩
end Go.Proofs.Ytgdbpckobngmjaa
