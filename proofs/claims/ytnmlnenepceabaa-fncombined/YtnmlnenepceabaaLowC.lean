/-
  spec.TotalsOk by its contract. Conditions: those of the statement.
-/
import Derived.Test.YtnmlnenepceabaaPlain
import Derived.Lib.QuietBelow
import Derived.Test.YtnmlnenepceabaaRowOk
import Derived.Deep.MidRow
import Derived.Lib.LazyBuf
import Derived.StillTailTactics
import Derived.Test.YtnmlnenepceabaaOpen
import Derived.Laws.ResultCell
import Derived.Deep.RegionHeld3
import Derived.Test.YtnmlnenepceabaaTotMem
namespace Go.Proofs.Ytnmlnenepceabaa
open Go.RowKit

structure WQ (P : Program) (ops : Array Oper) (C : World → Prop) (Q : Act → Prop) (l : List Oper) (a : Act) : Prop where
  out : wpQuiet P ops C Q l a
section
variable {P : Program} {ops : Array Oper} {C : World → Prop} {Q : Act → Prop} {a : Act} {o : Oper} {rest : List Oper}
theorem WQ.nil (h : Q a) : WQ P ops C Q [] a := ⟨wpQuiet_nil h⟩
theorem WQ.step (h : ∀ K : Act → Prop, (∀ a, WQ P ops C Q rest a → K a) → if Region.wanted o (yielded ops a.tmps) then o.quiet P a C K else K (a.put o.dst undef)) : WQ P ops C Q (o :: rest) a :=
  ⟨wpQuiet_step fun K hK => h K fun a h => hK a h.out⟩
end
theorem wp_region_wq {P : Program} {id : Nat} {Q : Exit → Act → World → Prop} {a : Act} {w : World} {l : List Oper} (hm : P.follows .mixedOrders = true) (hB : Region.lexB .any l.toArray = true)
    (h : WQ P l.toArray (fun w' => ∃ p : Regrown, w' = Go.Sort.grow (redrawn w p.d) p.os) (fun a' => ∀ w', (∃ p : Regrown, w' = Go.Sort.grow (redrawn w p.d) p.os) → Q .normal a' w') l a) : (Code.region id l.toArray true).wp P Q a w :=
  wp_region_quiet_below hm hB h.out
end Go.Proofs.Ytnmlnenepceabaa

namespace Go.Proofs.Ytnmlnenepceabaa
open Go.RowKit

/-- A filter, as plain values. -/
structure FilV where
  n : Int
  bits : ByteArray
def FilV.Ok (f : FilV) : Prop := (Lit.int .i64 f.n).wf = true ∧ f.bits.size ≤ maxLen
def FilV.v (f : FilV) : Value := .agg #[.int .i64 f.n, .string f.bits]
def sizeB (n : Int) : Bool := decide (8 ≤ n ∧ n ≤ 256 ∧ n % 8 = 0)
def filB (n : Int) (b : ByteArray) : Bool := decide (8 ≤ n ∧ n ≤ 256 ∧ n % 8 = 0 ∧ (b.size : Int) = n / 8)
def szF (b : ByteArray) (left : Int) : Int := if left < b.size then -1 else left - b.size
theorem szF_bd (b : ByteArray) (left : Int) (h0 : 0 ≤ left) (h1 : left ≤ 1048576) : szF b left = -1 ∨ (0 ≤ szF b left ∧ szF b left ≤ 1048576) := by
  unfold szF; split <;> omega

end Go.Proofs.Ytnmlnenepceabaa

namespace Go.Proofs.Ytnmlnenepceabaa
open Go.RowKit
section
variable {P : Program} {ops : Array Oper} {rest : List Oper} {op : Oper} {a : Act} {w : World} {Q : Exit → Act → World → Prop}
theorem wpList_alloc_row (hgd : op.guard = none) (t : TypeId) (ho : op.op = .alloc t) (C : Array Value) (hz : ∀ w, (zeroValue t).run P w = .ok (.agg C) w)
    (h : wpList P ops Q rest (a.put op.dst (.pointer (some ⟨w.heap.size, 0, none⟩))) (w.alloc (.cells C t))) : wpList P ops Q (op :: rest) a w :=
  wpList_plain hgd fun _ hK => by
    unfold Oper.wp execOp
    simp only [ho]
    simp [hz, go_sem, Value.cells]
    exact hK _ _ h
theorem wpList_box_row (hgd : op.guard = none) (t : TypeId) (x : Operand) (ho : op.op = .box t x) (C : Array Value) (hx : a.eval x = .agg C)
    (h : wpList P ops Q rest (a.put op.dst (.pointer (some ⟨w.heap.size, 0, none⟩))) (w.alloc (.cells C t))) : wpList P ops Q (op :: rest) a w :=
  wpList_plain hgd fun _ hK => by
    unfold Oper.wp execOp
    simp only [ho, hx]
    simp [go_sem, Value.cells]
    exact hK _ _ h
theorem wpList_build_row (hgd : op.guard = none) (t : TypeId) (x : Operand) (ho : op.op = .build t #[(0, x)])
    (v : Value) (hx : a.eval x = v) (C : Array Value) (hz : (Instr.build t #[(0, v)]).run P w = .ok (.agg C) w)
    (h : wpList P ops Q rest (a.put op.dst (.agg C)) w) : wpList P ops Q (op :: rest) a w :=
  wpList_plain hgd fun _ hK => by
    unfold Oper.wp execOp
    simp only [ho, List.map_toArray, List.map_cons, List.map_nil, hx, hz, Sem.run_bind, Sem.run_pure, Result.andThen_ok]
    exact hK _ _ h
end
def u8v (c : UInt8) : Value := .int .u8 (c.toNat : Int)
/-- The cells of a set of bits: its size, and its bytes. -/
def bsL (n : Int) (l : List UInt8) : List Value := .int .i64 n :: l.map u8v
theorem bsL_length (n : Int) (l : List UInt8) : (bsL n l).length = l.length + 1 := by simp [bsL]
def zero32 : List UInt8 := List.replicate 32 0
/-- Where a walk is to stand still. -/
def Stop (p : Prop) : Prop := p
theorem stop {p : Prop} (h : Stop p) : p := h
theorem unstop {p : Prop} (h : p) : Stop p := h
theorem rangeAt_splice {w : World} {b o : Nat} {cs vs : List Value} (h : w.rangeAt b 0 cs) (ht : w.there b 0 cs.length) (hl : o + vs.length ≤ cs.length) :
    (w.setCells b o vs).rangeAt b 0 (cs.take o ++ (vs ++ cs.drop (o + vs.length))) := by
  intro j v hv
  rw [Nat.zero_add]
  rcases Nat.lt_or_ge j o with hj | hj
  · rw [List.getElem?_append_left (by simp; omega), List.getElem?_take_of_lt hj] at hv
    rw [World.cell?_setCells_out b vs o w _ (fun _ _ => Or.inl hj)]
    simpa using h j v hv
  rw [List.getElem?_append_right (by simp; omega)] at hv
  have e : (cs.take o).length = o := by simp; omega
  rw [e] at hv
  rcases Nat.lt_or_ge j (o + vs.length) with hj2 | hj2
  · rw [List.getElem?_append_left (by omega)] at hv
    have := World.rangeAt_setCells_same w b o vs (fun i hi => by have := ht (o + i) (by omega); simpa using this) (j - o) v hv
    rwa [show o + (j - o) = j by omega] at this
  · rw [List.getElem?_append_right (by omega), List.getElem?_drop] at hv
    rw [World.cell?_setCells_out b vs o w _ (fun _ _ => Or.inr hj2)]
    have := h _ v hv
    rwa [show 0 + (o + vs.length + (j - o - vs.length)) = j by omega] at this
/-- A set of bits in block b. -/
def BS (w : World) (b : Nat) (n : Int) (l : List UInt8) : Prop := w.rangeAt b 0 (bsL n l) ∧ w.there b 0 33 ∧ l.length = 32 ∧ b < w.heap.size
theorem BS.below {w w' : World} {B b : Nat} {n : Int} {l : List UInt8} (h : BS w b n l) (hb : Below B w w') (hB : b < B) : BS w' b n l :=
  ⟨fun j v hv => (hb.cell (p := ⟨b, 0 + j, none⟩) hB).trans (h.1 j v hv), fun j hj => ⟨by rw [hb.cell (p := ⟨b, 0 + j, none⟩) hB]; exact (h.2.1 j hj).1, by rw [hb.frozen (p := ⟨b, 0 + j, none⟩) hB]; exact (h.2.1 j hj).2⟩, h.2.2.1, Nat.lt_of_lt_of_le h.2.2.2 hb.size⟩
theorem BS.new (w : World) (n : Int) (l : List UInt8) (t : TypeId) (hl : l.length = 32) : BS (w.alloc (.cells (bsL n l).toArray t)) w.heap.size n l := by
  have c : ∀ j, (w.alloc (.cells (bsL n l).toArray t)).cell? ⟨w.heap.size, j, none⟩ = (bsL n l)[j]? := by
    intro j
    simp [go_sem]
  have e := bsL_length n l
  refine ⟨fun j v hv => by rw [Nat.zero_add, c]; exact hv, fun j hj => ⟨by rw [Nat.zero_add, c, List.getElem?_eq_getElem (by omega)]; rfl, by simp [go_sem, World.frozen?_alloc_new]⟩, hl, by simp⟩
theorem size_setCells (b : Nat) : ∀ (vs : List Value) (o : Nat) (w : World), (w.setCells b o vs).heap.size = w.heap.size
  | [], _, _ => rfl
  | v :: r, o, w => by
    show ((w.setCell ⟨b, o, none⟩ v).setCells b (o + 1) r).heap.size = _
    rw [size_setCells b r]; simp [World.setCell]
theorem BS.put {w : World} {b : Nat} {n n' : Int} {l l' : List UInt8} (h : BS w b n l) (o : Nat) (vs : List Value) (hl : o + vs.length ≤ 33) (h' : l'.length = 32) (he : (bsL n l).take o ++ (vs ++ (bsL n l).drop (o + vs.length)) = bsL n' l') : BS (w.setCells b o vs) b n' l' := by
  have e := bsL_length n l
  have e2 := h.2.2.1
  refine ⟨?_, World.there_setCells h.2.1 b o vs, h', by rw [size_setCells]; exact h.2.2.2⟩
  rw [← he]
  exact rangeAt_splice h.1 (by rw [e, e2]; exact h.2.1) (by omega)
theorem BS.put_all {w : World} {b : Nat} {n n' : Int} {l l' : List UInt8} (h : BS w b n l) (h' : l'.length = 32) : BS (w.setCells b 0 (bsL n' l').toArray.toList) b n' l' := by
  have e := bsL_length n l
  have e' := bsL_length n' l'
  have e2 := h.2.2.1
  refine h.put 0 _ (by simp; omega) h' ?_
  simp
  omega
theorem BS.set {w : World} {b : Nat} {n : Int} {l : List UInt8} (h : BS w b n l) (i : Nat) (c : UInt8) (hi : i < 32) : BS (w.setCell ⟨b, 1 + i, none⟩ (u8v c)) b n (l.set i c) := by
  have e2 := h.2.2.1
  refine h.put (1 + i) [u8v c] (by simp; omega) (by simpa using e2) ?_
  rw [Nat.add_comm 1 i]
  simp only [bsL, List.take_succ_cons, List.cons_append, List.drop_succ_cons, List.length_cons, List.length_nil, Nat.zero_add, ← List.map_take, ← List.map_drop, List.map_set]
  congr 1
  rw [List.set_eq_take_append_cons_drop, if_pos (by simpa using (show i < l.length by omega))]
  simp
/-- The bytes of a string, and zeros behind them. -/
def padL (t : ByteArray) : List UInt8 := t.data.toList ++ List.replicate (32 - t.size) 0
theorem padL_length (t : ByteArray) (h : t.size ≤ 32) : (padL t).length = 32 := by
  have : t.data.toList.length = t.size := by simp
  simp [padL]; omega
theorem BS.copy {w : World} {b : Nat} {n : Int} (h : BS w b n zero32) (t : ByteArray) (ht : t.size ≤ 32) : BS (w.setCells b 1 (t.data.toList.map fun x => Value.int .u8 (x.toNat : Int))) b n (padL t) := by
  have e : t.data.toList.length = t.size := by simp
  refine h.put 1 _ (by simp; omega) (padL_length t ht) ?_
  simp only [bsL, List.take_succ_cons, List.take_zero, List.length_map, e, Nat.add_comm 1 t.size, List.drop_succ_cons, zero32, List.map_replicate, List.drop_replicate, padL, List.map_append]
  rfl
end Go.Proofs.Ytnmlnenepceabaa

namespace Go.Proofs.Ytnmlnenepceabaa
open Go.RowKit
theorem allOne (n : Int) (l : List UInt8) : (bsL n l).toArray.all (·.oneCell') = true := by
  refine all_oneCell_toArray fun v hv => ?_
  rcases List.mem_cons.1 hv with rfl | hv
  · rfl
  · obtain ⟨c, _, rfl⟩ := List.mem_map.1 hv
    rfl
theorem wpList_copy_string {P : Program} {ops : Array Oper} {rest : List Oper} {o : Oper} {a : Act} {w : World} {Q : Exit → Act → World → Prop}
    (hg : o.guard = none) (d x : Operand) (dT sT : TypeId) (hop : o.op = Op.call { callee := Callee.builtin Builtin.copy, args := #[d, x], argTypes := #[dT, sT] })
    (elem : TypeId) (hu : P.underlying dT = some (.slice elem)) (hz : ∀ w, (Go.sizeOf elem).run P w = .ok 1 w)
    (b off dLen dCap : Nat) (hd : a.eval d = .slice (some ⟨b, off, none⟩) dLen dCap) (t : ByteArray) (hx : a.eval x = .string t) (hle : t.size ≤ dLen)
    (hc : ∀ j, j < t.size → (w.cell? ⟨b, off + j, none⟩).isSome = true) (hf : ∀ j, j < t.size → w.frozen? ⟨b, off + j, none⟩ = false)
    (h : wpList P ops Q rest (a.put o.dst (goInt t.size)) (w.setCells b off (t.data.toList.map fun x => Value.int .u8 (x.toNat : Int)))) : wpList P ops Q (o :: rest) a w :=
  wpList_plain hg fun K hK => by
    have := step_copy_string (ops := ops) (Q := Q) (E := False) hg d x dT sT hop elem hu hz b off dLen dCap hd t hx hle hc hf (hK _ _ h)
    rwa [if_pos (by simp [Region.wanted, hg])] at this
end Go.Proofs.Ytnmlnenepceabaa

namespace Go.Proofs.Ytnmlnenepceabaa
open Go.RowKit
def bytesOf (n : Int) (l : List UInt8) : ByteArray := ⟨(l.take (n / 8).toNat).toArray⟩
theorem conv_bits {w : World} {b : Nat} {n : Int} {l : List UInt8} (h : BS w b n l) (m : Nat) (hm : m ≤ 32) :
    (convert 34 9 (.slice (some ⟨b, 1, none⟩) m 32)).run Try.prog w = .ok (.string ⟨(l.take m).toArray⟩) w := by
  have hl := h.2.2.1
  have e : (l.take m).length = m := by simp; omega
  have := run_convert_bytes_back (P := Try.prog) w 34 9 5 ⟨b, 1, none⟩ 32 (l.take m) Try.underlying34 Try.underlying5 Try.underlying9 (fun j hj => by
    have := h.1 (j + 1) (u8v (l.take m)[j]) (by
      simp only [bsL, List.getElem?_cons_succ, List.getElem?_map, List.getElem_take]
      rw [List.getElem?_eq_getElem (by simp at hj; omega)]; rfl)
    rw [Addr.add_mid]
    rwa [show 0 + (j + 1) = 1 + j by omega] at this)
  rwa [e] at this
end Go.Proofs.Ytnmlnenepceabaa

namespace Go.Proofs.Ytnmlnenepceabaa
open Go.RowKit
def orBytes (k : Nat) (l m : List UInt8) : List UInt8 := List.zipWith (· ||| ·) (l.take k) (m.take k) ++ l.drop k
theorem or_step (l m : List UInt8) (k : Nat) (c d : UInt8) (hc : l[k]? = some c) (hd : m[k]? = some d) : (orBytes k l m).set k (c ||| d) = orBytes (k + 1) l m := by
  obtain ⟨h1, rfl⟩ := List.getElem?_eq_some_iff.1 hc
  obtain ⟨h2, rfl⟩ := List.getElem?_eq_some_iff.1 hd
  have e : (List.zipWith (· ||| ·) (l.take k) (m.take k)).length = k := by simp; omega
  unfold orBytes
  rw [List.set_append_right _ _ (by omega), e, Nat.sub_self, List.drop_eq_getElem_cons h1, List.set_cons_zero, List.take_succ_eq_append_getElem h1, List.take_succ_eq_append_getElem h2, List.zipWith_append (by simp; omega)]
  simp
end Go.Proofs.Ytnmlnenepceabaa

namespace Go.Proofs.Ytnmlnenepceabaa
open Go.ChangeShapes Go.WideShapes Go.ChangeAt Go.RowKit Go.Joins Go.Deep
section
variable {H : Type} {enc : TypeId × Value → H} {W : World} {base : Nat}
end
end Go.Proofs.Ytnmlnenepceabaa

namespace Go.Proofs.Ytnmlnenepceabaa
open Go.RowKit

/-- The two cells of a filter at the head of block B. -/
def At2 (w : World) (B : Nat) (x y : Value) : Prop := w.cell? ⟨B, 0, none⟩ = some x ∧ w.cell? ⟨B, 1, none⟩ = some y
theorem At2.keep {w w' : World} {B : Nat} {x y : Value} (h : At2 w B x y) (hb : Below w.heap.size w w') (hB : B < w.heap.size) : At2 w' B x y :=
  ⟨(hb.cell (p := ⟨B, 0, none⟩) hB).trans h.1, (hb.cell (p := ⟨B, 1, none⟩) hB).trans h.2⟩
theorem At2.new (w : World) (x y : Value) (t : TypeId) : At2 (w.alloc (.cells #[x, y] t)) w.heap.size x y := by
  simp [At2, go_sem]

end Go.Proofs.Ytnmlnenepceabaa

namespace Go.Proofs.Ytnmlnenepceabaa
open Go.RowKit
/-- A variable of type impl.Filter in block b that may be written. -/
def FV (w : World) (b : Nat) : Prop := w.there b 0 2 ∧ b < w.heap.size
theorem FV.below {w w' : World} {B b : Nat} (h : FV w b) (hb : Below B w w') (hB : b < B) : FV w' b :=
  ⟨fun j hj => ⟨by rw [hb.cell (p := ⟨b, 0 + j, none⟩) hB]; exact (h.1 j hj).1, by rw [hb.frozen (p := ⟨b, 0 + j, none⟩) hB]; exact (h.1 j hj).2⟩, Nat.lt_of_lt_of_le h.2 hb.size⟩
theorem FV.new (w : World) (n : Int) (x : ByteArray) (t : TypeId) : FV (w.alloc (.cells #[.int .i64 n, .string x] t)) w.heap.size := by
  refine ⟨fun j hj => ?_, by simp⟩
  rcases (show j = 0 ∨ j = 1 by omega) with rfl | rfl <;> simp [go_sem]
def bothB (n : Int) (x : ByteArray) (n2 : Int) (x2 : ByteArray) : Bool := filB n x && filB n2 x2 && n == n2
def noFil : Value := .agg #[.int .i64 0, .string ⟨#[]⟩]
def bothV (n : Int) (x : ByteArray) (n2 : Int) (x2 : ByteArray) : Value := if bothB n x n2 x2 then .tuple #[.agg #[.int .i64 n, .string (bytesOf n (orBytes 32 (padL x) (padL x2)))], .bool true] else .tuple #[noFil, .bool false]
theorem ret_val {a b : Value} (h : a = b) : Ending.returned a = .returned b := by rw [h]
theorem filB_facts {n : Int} {x : ByteArray} (h : filB n x = true) : 8 ≤ n ∧ n ≤ 256 ∧ x.size ≤ 32 := by
  have := of_decide_eq_true h
  omega
end Go.Proofs.Ytnmlnenepceabaa

namespace Go.Proofs.Ytnmlnenepceabaa
open Go.RowKit
section
variable {v W W' : World} {C : World → Prop}
theorem keepStart (hC : ∀ W, Below v.heap.size v W → C W) : C v.drew ∧ Below v.heap.size v v.drew := ⟨hC _ (Below.refl _ _).drew, (Below.refl _ _).drew⟩
theorem keepCall (hC : ∀ W, Below v.heap.size v W → C W) (H : Below W.heap.size W W') (G : C W ∧ Below v.heap.size v W) : C W' ∧ Below v.heap.size v W' := ⟨hC _ (G.2.trans (H.mono G.2.size)), G.2.trans (H.mono G.2.size)⟩
theorem keepBelow (_hC : ∀ W, Below v.heap.size v W → C W) (G : C W ∧ Below v.heap.size v W) : Below v.heap.size v W := G.2
theorem keepSize (_hC : ∀ W, Below v.heap.size v W → C W) (H : Below W.heap.size W W') (G : C W ∧ Below v.heap.size v W) : v.heap.size ≤ W'.heap.size := Nat.le_trans G.2.size H.size
theorem keepAlloc {o : Obj} (hC : ∀ W, Below v.heap.size v W → C W) (G : C W ∧ Below v.heap.size v W) : C (W.alloc o) ∧ Below v.heap.size v (W.alloc o) := ⟨hC _ (G.2.alloc G.2.size _), G.2.alloc G.2.size _⟩
theorem keepSwap {o o' : Obj} (hC : ∀ W, Below v.heap.size v W → C W) (hw : v.heap.size ≤ W.heap.size) (G : C (W.alloc o) ∧ Below v.heap.size v (W.alloc o)) : C (W.alloc o') ∧ Below v.heap.size v (W.alloc o') := by
  have h1 : Below W.heap.size (W.alloc o) (W.alloc o') := ⟨rfl, rfl, rfl, by simp, fun k hk => by rw [Below.heap_alloc _ _ _ hk, Below.heap_alloc _ _ _ hk]⟩
  have h2 := G.2.trans (h1.mono hw)
  exact ⟨hC _ h2, h2⟩
/-- A new variable of type impl.Filter in block p, behind all that was there. -/
def FN (v W : World) (p : Nat) : Prop := W.cell? ⟨p, 0, none⟩ = some (.int .i64 0) ∧ W.cell? ⟨p, 1, none⟩ = some (.string ⟨#[]⟩) ∧ W.frozen? ⟨p, 0, none⟩ = false ∧ W.frozen? ⟨p, 1, none⟩ = false ∧ p < W.heap.size ∧ v.heap.size ≤ p
theorem FN.below {p : Nat} (h : FN v W p) (hb : Below W.heap.size W W') : FN v W' p := by
  obtain ⟨h0, h1, h2, h3, h4, h5⟩ := h
  exact ⟨(hb.cell (p := ⟨p, 0, none⟩) h4).trans h0, (hb.cell (p := ⟨p, 1, none⟩) h4).trans h1, (hb.frozen (p := ⟨p, 0, none⟩) h4).trans h2, (hb.frozen (p := ⟨p, 1, none⟩) h4).trans h3, Nat.lt_of_lt_of_le h4 hb.size, h5⟩
theorem keepStore {p : Nat} {x y : Value} (hC : ∀ W, Below v.heap.size v W → C W) (A : FN v W p) (G : C W ∧ Below v.heap.size v W) : C ((W.setCell ⟨p, 0, none⟩ x).setCell ⟨p, 1, none⟩ y) ∧ Below v.heap.size v ((W.setCell ⟨p, 0, none⟩ x).setCell ⟨p, 1, none⟩ y) := by
  have hw := A.2.2.2.2.2
  have h2 := (G.2.setCell (p := ⟨p, 0, none⟩) hw x).setCell (p := ⟨p, 1, none⟩) hw y
  exact ⟨hC _ h2, h2⟩
/-- What is known of such a variable behind its store. -/
def Got (v W : World) (p : Nat) (x y : Value) : Prop := At2 W p x y ∧ p < W.heap.size ∧ v.heap.size ≤ p
theorem Got.store {p : Nat} {x y : Value} (A : FN v W p) : Got v ((W.setCell ⟨p, 0, none⟩ x).setCell ⟨p, 1, none⟩ y) p x y := by
  obtain ⟨h0, h1, h2, h3, h4, h5⟩ := A
  have hr := World.rangeAt_setCells_same W p 0 [x, y] (fun j hj => by
    rcases (show j = 0 ∨ j = 1 by simp at hj; omega) with rfl | rfl
    · exact ⟨by simp [h0], by simpa using h2⟩
    · exact ⟨by simp [h1], by simpa using h3⟩)
  refine ⟨⟨by have := hr 0 x rfl; exact this, by have := hr 1 y rfl; exact this⟩, ?_, h5⟩
  have := size_setCells p [x, y] 0 W
  exact this ▸ h4
theorem Got.below {p : Nat} {x y : Value} (h : Got v W p x y) (hb : Below W.heap.size W W') : Got v W' p x y := ⟨h.1.keep hb h.2.1, Nat.lt_of_lt_of_le h.2.1 hb.size, h.2.2⟩
/-- A region, by what stands behind it. -/
theorem region_via {P : Program} {id : Nat} {ops : Array Oper} {b : Bool} {Q : Exit → Act → World → Prop} {a : Act} (T : Act → World → Prop) (h : (Code.region id ops b).wp P (fun e a w => e = .normal ∧ T a w) a W)
    (hr : ∀ a w, T a w → Q .normal a w) : (Code.region id ops b).wp P Q a W := Code.wp_mono (fun _ a w ⟨he, h⟩ => he ▸ hr a w h) h
end
end Go.Proofs.Ytnmlnenepceabaa

namespace Go.Proofs.Ytnmlnenepceabaa
open Go.RowKit

def totOkB (k : ByteArray) (n : Int) : Bool := decide (k.size ≤ 12 ∧ 0 ≤ n ∧ n ≤ 999999999999)
/-- The total at place j is valid, and its key is greater than the one ahead of it. -/
def okAt (ts : List TotV) (j : Nat) : Bool := match ts[j]? with
  | none => false
  | some t => totOkB t.key t.n && (decide (j = 0) || match ts[j - 1]? with
    | none => false
    | some s => Op.bytesLess s.key.toList t.key.toList)
def totsOk (ts : List TotV) : Bool := decide (ts.length ≤ 120) && (List.range ts.length).all (okAt ts)
def OkT (ts : List TotV) (k : Nat) : Prop := ∀ j, j < k → okAt ts j = true
theorem OkT.succ {ts : List TotV} {k : Nat} (h : OkT ts k) (hk : okAt ts k = true) : OkT ts (k + 1) := fun j hj => by
  rcases Nat.lt_or_ge j k with h1 | h1
  · exact h j h1
  · obtain rfl : j = k := by omega
    exact hk
theorem totsOk_no {ts : List TotV} {k : Nat} (hk : k < ts.length) (h : okAt ts k = false) : totsOk ts = false := by
  unfold totsOk
  have : (List.range ts.length).all (okAt ts) = false := by
    rw [Bool.eq_false_iff]
    intro ha
    have := List.all_eq_true.1 ha k (List.mem_range.2 hk)
    rw [h] at this; cases this
  rw [this, Bool.and_false]
theorem totsOk_all {ts : List TotV} {k : Nat} (h : OkT ts k) (hk : ts.length ≤ k) : totsOk ts = decide (ts.length ≤ 120) := by
  unfold totsOk
  rw [List.all_eq_true.2 (fun j hj => h j (by have := List.mem_range.1 hj; omega)), Bool.and_true]
theorem okAt_bad {ts : List TotV} {k : Nat} {t : TotV} (hr : ts[k]? = some t) (h : totOkB t.key t.n = false) : okAt ts k = false := by
  simp [okAt, hr, h]
theorem okAt_first {ts : List TotV} {t : TotV} (hr : ts[0]? = some t) (h : totOkB t.key t.n = true) : okAt ts 0 = true := by
  simp [okAt, hr, h]
theorem okAt_next {ts : List TotV} {k : Nat} {s t : TotV} (hk : 0 < k) (hs : ts[k - 1]? = some s) (hr : ts[k]? = some t) (h : totOkB t.key t.n = true) : okAt ts k = Op.bytesLess s.key.toList t.key.toList := by
  have : k ≠ 0 := by omega
  simp [okAt, hr, hs, h, this]
theorem totOkB_parts {k : ByteArray} {n : Int} (h : totOkB k n = true) : k.size ≤ 12 ∧ 0 ≤ n ∧ n ≤ 999999999999 := of_decide_eq_true h

theorem drewN_below0 (w : World) : ∀ n {B : Nat}, B ≤ w.heap.size → Below B w (w.drewN n)
  | 0, _, _ => Below.refl _ _
  | n + 1, _, h => (drewN_below0 w n h).drew
set_option maxRecDepth 100000 in
theorem l1In_tot (n : Int) (b : Bool) (w : World) (h : decide (0 ≤ n ∧ n ≤ 999999999999) = b) :
    Calls Try.prog 77 #[.int .i64 n, .int .i64 0, .int .i64 999999999999] w fun e w' => e = .returned (.bool b) ∧ w = w' := by
  subst h
  by_cases h1 : 0 ≤ n
  · have d1 : decide (0 ≤ n) = true := by simpa using h1
    by_cases h2 : n ≤ 999999999999
    · have d2 : decide (n ≤ 999999999999) = true := by simpa using h2
      have E := Lib.hid (show decide (0 ≤ n ∧ n ≤ 999999999999) = true from decide_eq_true ⟨h1, h2⟩)
      go_enter Try.func77, Try.ntmps77
      go_wp2
      go_ret
      first | exact ⟨rfl, rfl⟩ | exact ⟨ret_bool E.out.symm, rfl⟩
    · have d2 : decide (n ≤ 999999999999) = false := by simpa using h2
      have E := Lib.hid (show decide (0 ≤ n ∧ n ≤ 999999999999) = false from decide_eq_false (fun h => h2 h.2))
      go_enter Try.func77, Try.ntmps77
      go_wp2
      go_ret
      first | exact ⟨rfl, rfl⟩ | exact ⟨ret_bool E.out.symm, rfl⟩
  · have d1 : decide (0 ≤ n) = false := by simpa using h1
    have E := Lib.hid (show decide (0 ≤ n ∧ n ≤ 999999999999) = false from decide_eq_false (fun h => h1 h.1))
    go_enter Try.func77, Try.ntmps77
    go_wp2
    go_ret
    first | exact ⟨rfl, rfl⟩ | exact ⟨ret_bool E.out.symm, rfl⟩
set_option maxRecDepth 100000 in
theorem totalOk_b (k : ByteArray) (n : Int) (b : Bool) (w : World) (hk : k.size ≤ maxLen) (h : totOkB k n = b) :
    Calls Try.prog 76 #[.agg #[.string k, .int .i64 n]] w fun e w' => e = .returned (.bool b) ∧ Below w.heap.size w w' := by
  subst h
  unfold maxLen at hk
  by_cases h0 : k.size ≤ 12
  case neg =>
    have d0 : decide ((k.size : Int) ≤ 12) = false := by simp; omega
    have E := Lib.hid (show totOkB k n = false from decide_eq_false (fun h => h0 h.1))
    go_enter Try.func76, Try.ntmps76
    go_wp2_with (go_at_call 82; go_in)
    go_ret
    exact ⟨ret_bool E.out.symm, bl1 _ _⟩
  have d0 : decide ((k.size : Int) ≤ 12) = true := by simp; omega
  by_cases h1 : 0 ≤ n
  case neg =>
    have d1 : decide (0 ≤ n) = false := by simpa using h1
    have E := Lib.hid (show totOkB k n = false from decide_eq_false (fun h => h1 h.2.1))
    go_enter Try.func76, Try.ntmps76
    go_wp2_with (go_at_call 82; go_in)
    go_ret
    exact ⟨ret_bool E.out.symm, bl1 _ _⟩
  have d1 : decide (0 ≤ n) = true := by simpa using h1
  by_cases h2 : n ≤ 999999999999
  case neg =>
    have d2 : decide (n ≤ 999999999999) = false := by simpa using h2
    have E := Lib.hid (show totOkB k n = false from decide_eq_false (fun h => h2 h.2.2))
    go_enter Try.func76, Try.ntmps76
    go_wp2_with (go_at_call 82; go_in)
    go_ret
    exact ⟨ret_bool E.out.symm, bl1 _ _⟩
  have d2 : decide (n ≤ 999999999999) = true := by simpa using h2
  have E := Lib.hid (show totOkB k n = true from decide_eq_true ⟨h0, h1, h2⟩)
  go_enter Try.func76, Try.ntmps76
  go_wp2_with (go_at_call 82; go_in)
  go_ret
  exact ⟨ret_bool E.out.symm, bl1 _ _⟩
end Go.Proofs.Ytnmlnenepceabaa

namespace Go.Proofs.Ytnmlnenepceabaa
open Go.RowKit

/-- The two cells of a total in a new block, in every world behind. -/
theorem tot_cells (w : World) (k : ByteArray) (n : Int) (t : TypeId) (d : Nat) (os : Array Obj) : (Go.Sort.grow (redrawn (w.alloc (.cells #[.string k, .int .i64 n] t)) d) os).cell? ⟨w.heap.size, 0, none⟩ = some (.string k) ∧ (Go.Sort.grow (redrawn (w.alloc (.cells #[.string k, .int .i64 n] t)) d) os).cell? ⟨w.heap.size, 1, none⟩ = some (.int .i64 n) :=
  ⟨cell_regrown (by simp [go_sem]) d os, cell_regrown (by simp [go_sem]) d os⟩
set_option maxRecDepth 100000 in
set_option maxHeartbeats 2000000 in
theorem implTotalsOk_any (a : Option Addr) (len cap : Nat) (ts : List TotV) (w : World) (hm : len ≤ 1048576) (hok : ∀ t ∈ ts, t.Ok) (hR : Rd w w.heap.size 2 a len (flatT ts)) :
    Calls Try.prog 31 #[.slice a len cap] w fun e w' => e = .returned (.bool (totsOk ts)) ∧ Below w.heap.size w w' := by
  have hl := Lib.hid hR.tots_length
  by_cases hlong : 120 < len
  · have E := Lib.hid (show totsOk ts = false by unfold totsOk; rw [hl.out, decide_eq_false (show ¬ len ≤ 120 by omega), Bool.false_and])
    have d0 : decide ((120 : Int) < (len : Int)) = true := by simp; omega
    go_enter Try.func31, Try.ntmps31
    go_wp2_with fail
    go_ret
    exact ⟨ret_bool E.out.symm, Below.refl _ _⟩
  have d0 : decide ((120 : Int) < (len : Int)) = false := by simp; omega
  go_enter Try.func31, Try.ntmps31
  go_wp2
  go_loopw [10] (fun i wr => ∃ k : Nat, k ≤ len ∧ i = .int .i64 k ∧ Below w.heap.size w wr ∧ Hid (OkT ts k)) (fun i _ => len - (intOf i).toNat)
  case atStart => exact ⟨0, Nat.zero_le _, rfl, Below.refl _ _, Lib.hid (fun j h => absurd h (by omega))⟩
  case round =>
    obtain ⟨k, hk, rfl, hb, ho⟩ := hrel
    by_cases hlt : k < len
    · obtain ⟨b, off, r, rfl, hB, hr, c0, c1⟩ := (hR.below hb (Nat.le_refl _)).tot hlt
      have Hr := Lib.hid hr
      have hro := TotV.Ok.of hok hr
      clear hr
      obtain ⟨key, n⟩ := r
      obtain ⟨hkk, _⟩ := hro
      have hB2 : b < wr.heap.size := Nat.lt_of_lt_of_le hB hb.size
      simp only at c0 c1 hkk
      have hba := bl1 wr (.cells #[.string key, .int .i64 n] 45)
      have b1 := hb.trans (hba.mono hb.size)
      have G := fun d os => tot_cells wr key n 45 d os
      have g0 := fun d os => (G d os).1
      have g1 := fun d os => (G d os).2
      clear G
      cases hq : totOkB key n
      case false =>
        have E := Lib.hid (totsOk_no (k := k) (by rw [hl.out]; exact hlt) (okAt_bad Hr.out hq))
        have CT := fun w => totalOk_b key n false w hkk hq
        clear hq
        go_wp2_with fail
        generalize hwg : wr.alloc (.cells #[.string key, .int .i64 n] 45) = w1 at *
        clear hwg
        have cT := fun d os => Calls.regrown_of (w := w1) (d := d) (os := os) (CT _)
        clear CT
        refine wp_region_wq (by kernel_rfl) (by kernel_rfl) ?_
        repeat (refine WQ.step (fun K hK => ?_); go_simp; first | (refine hK _ ?_; clear hK K) | (apply Exists.intro; refine ⟨fun _ => ?_, hK _ ?_⟩; (exact cT _ _); clear hK K))
        refine WQ.nil ?_
        intro _ hw'
        obtain ⟨⟨dq, osq⟩, hw''⟩ := hw'
        subst hw''
        have b9 := b1.trans ((below_regrown w1 dq osq).mono b1.size)
        generalize Go.Sort.grow (redrawn w1 dq) osq = w2 at *
        go_wp2_with fail
        go_ret
        exact ⟨ret_bool E.out.symm, b9⟩
      have HT := Lib.hid hq
      have CT := fun w => totalOk_b key n true w hkk hq
      clear hq
      rcases Nat.eq_zero_or_pos k with rfl | hk0
      · have O : Hid (OkT ts 1) := Lib.hid (ho.out.succ (okAt_first Hr.out HT.out))
        simp only [Nat.zero_mul, Nat.add_zero] at c0 c1
        go_wp2_with fail
        generalize hwg : wr.alloc (.cells #[.string key, .int .i64 n] 45) = w1 at *
        clear hwg
        have cT := fun d os => Calls.regrown_of (w := w1) (d := d) (os := os) (CT _)
        clear CT
        refine wp_region_wq (by kernel_rfl) (by kernel_rfl) ?_
        repeat (refine WQ.step (fun K hK => ?_); go_simp; first | (refine hK _ ?_; clear hK K) | (apply Exists.intro; refine ⟨fun _ => ?_, hK _ ?_⟩; (exact cT _ _); clear hK K))
        refine WQ.nil ?_
        intro _ hw'
        obtain ⟨⟨dq, osq⟩, hw''⟩ := hw'
        subst hw''
        have b9 := b1.trans ((below_regrown w1 dq osq).mono b1.size)
        generalize Go.Sort.grow (redrawn w1 dq) osq = w2 at *
        go_wp2_with fail
        go_roundw
        case rel => exact ⟨1, by omega, rfl, b9, O⟩
        case measure => simp [intOf]; omega
      obtain ⟨q, hq2, hq1⟩ : ∃ q : Nat, (q < k ∧ k < q + 2) ∧ IntKind.i64.wrap ((k : Int) - 1) = (q : Int) := ⟨k - 1, by omega, by rw [IntWalk.i64_in _ (by omega)]; omega⟩
      obtain ⟨b', off', r1, e', _, hr1, p0, _⟩ := (hR.below hb (Nat.le_refl _)).tot (show q < len by omega)
      obtain ⟨rfl, rfl⟩ : b = b' ∧ off = off' := by injection e' with e1; injection e1 with e2 e3; exact ⟨e2, e3⟩
      have Hr1 := Lib.hid hr1
      clear hr1 e'
      obtain ⟨key1, n1⟩ := r1
      simp only at p0
      have hkq := Lib.hid (show k - 1 = q by omega)
      have Hk := Lib.hid (okAt_next (k := k) hk0 (by rw [hkq.out]; exact Hr1.out) Hr.out HT.out)
      have g2 := fun d os => cell_regrown ((hba.cell (p := ⟨b, off + q * 2, none⟩) hB2).trans p0) d os
      have q1 : (q : Int) < (len : Int) := by omega
      have q2 : (0 : Int) ≤ (q : Int) := by omega
      have k1 : (0 : Int) < (k : Int) := by omega
      cases hd : Op.bytesLess key1.toList key.toList
      case false =>
        have E := Lib.hid (totsOk_no (k := k) (by rw [hl.out]; exact hlt) (Hk.out.trans hd))
        go_wp2_with fail
        generalize hwg : wr.alloc (.cells #[.string key, .int .i64 n] 45) = w1 at *
        clear hwg
        have cT := fun d os => Calls.regrown_of (w := w1) (d := d) (os := os) (CT _)
        clear CT
        refine wp_region_wq (by kernel_rfl) (by kernel_rfl) ?_
        repeat (refine WQ.step (fun K hK => ?_); go_simp; first | (refine hK _ ?_; clear hK K) | (apply Exists.intro; refine ⟨fun _ => ?_, hK _ ?_⟩; (exact cT _ _); clear hK K))
        refine WQ.nil ?_
        intro _ hw'
        obtain ⟨⟨dq, osq⟩, hw''⟩ := hw'
        subst hw''
        have b9 := b1.trans ((below_regrown w1 dq osq).mono b1.size)
        generalize Go.Sort.grow (redrawn w1 dq) osq = w2 at *
        go_wp2_with fail
        go_ret
        exact ⟨ret_bool E.out.symm, b9⟩
      have O : Hid (OkT ts (k + 1)) := Lib.hid (ho.out.succ (Hk.out.trans hd))
      go_wp2_with fail
      generalize hwg : wr.alloc (.cells #[.string key, .int .i64 n] 45) = w1 at *
      clear hwg
      have cT := fun d os => Calls.regrown_of (w := w1) (d := d) (os := os) (CT _)
      clear CT
      refine wp_region_wq (by kernel_rfl) (by kernel_rfl) ?_
      repeat (refine WQ.step (fun K hK => ?_); go_simp; first | (refine hK _ ?_; clear hK K) | (apply Exists.intro; refine ⟨fun _ => ?_, hK _ ?_⟩; (exact cT _ _); clear hK K))
      refine WQ.nil ?_
      intro _ hw'
      obtain ⟨⟨dq, osq⟩, hw''⟩ := hw'
      subst hw''
      have b9 := b1.trans ((below_regrown w1 dq osq).mono b1.size)
      generalize Go.Sort.grow (redrawn w1 dq) osq = w2 at *
      go_wp2_with fail
      go_roundw
      case rel => exact ⟨k + 1, by omega, by go_num, b9, O⟩
      case measure => simp [intOf]; omega
    · have E := Lib.hid (show totsOk ts = true by rw [totsOk_all ho.out (by rw [hl.out]; omega), hl.out]; simp; omega)
      go_wp2_with fail
      go_ret
      exact ⟨ret_bool E.out.symm, hb⟩
end Go.Proofs.Ytnmlnenepceabaa

namespace Go.Proofs.Ytnmlnenepceabaa
open Go.RowKit

set_option maxRecDepth 100000 in
set_option maxHeartbeats 4000000 in
theorem specTotalsOk_any (a : Option Addr) (len cap : Nat) (ts : List TotV) (w : World) (hm : len ≤ 1048576) (hok : ∀ t ∈ ts, t.Ok) (hR : Rd w w.heap.size 2 a len (flatT ts)) :
    Calls Try.prog 32 #[.slice a len cap] w fun e w' => e = .returned (.bool (totsOk ts)) ∧ Below w.heap.size w w' := by
  have hl := Lib.hid hR.tots_length
  go_enter Try.func32, Try.ntmps32
  go_wp2
  go_loopw [3] (fun i wr => ∃ k : Nat, k ≤ len ∧ i = .int .i64 k ∧ Below w.heap.size w wr ∧ Hid (OkT ts k)) (fun i _ => len - (intOf i).toNat)
  case atStart => exact ⟨0, Nat.zero_le _, rfl, Below.refl _ _, Lib.hid (fun j h => absurd h (by omega))⟩
  case round =>
    obtain ⟨k, hk, rfl, hb, ho⟩ := hrel
    by_cases hlt : k < len
    · obtain ⟨b, off, r, rfl, hB, hr, c0, c1⟩ := (hR.below hb (Nat.le_refl _)).tot hlt
      have Hr := Lib.hid hr
      have hro := TotV.Ok.of hok hr
      clear hr
      obtain ⟨key, n⟩ := r
      obtain ⟨hkk, _⟩ := hro
      have hB2 : b < wr.heap.size := Nat.lt_of_lt_of_le hB hb.size
      simp only at c0 c1 hkk
      unfold maxLen at hkk
      by_cases h12 : key.size ≤ 12
      case neg =>
        have E := Lib.hid (totsOk_no (k := k) (by rw [hl.out]; exact hlt) (okAt_bad Hr.out (by simp [totOkB]; omega)))
        have d0 : decide ((12 : Int) < (key.size : Int)) = true := by simp; omega
        go_wp2_with fail
        go_quiet (fail)
        have b9 := hb.trans (drewN_below0 wr nq hb.size)
        generalize wr.drewN nq = w1 at *
        go_wp2_with fail
        go_ret
        exact ⟨ret_bool E.out.symm, b9⟩
      have d0 : decide ((12 : Int) < (key.size : Int)) = false := by simp; omega
      cases hq : decide (0 ≤ n ∧ n ≤ 999999999999)
      case false =>
        have E := Lib.hid (totsOk_no (k := k) (by rw [hl.out]; exact hlt) (okAt_bad Hr.out (by simp only [totOkB, h12, true_and]; exact hq)))
        have CI := fun w => l1In_tot n false w hq
        clear hq
        go_wp2_with fail
        go_quiet (first | (go_at_call 77; refine (CI _).mono ?_; rintro e w1 ⟨rfl, rfl⟩; exact ⟨rfl, _, rfl⟩))
        have b9 := hb.trans (drewN_below0 wr nq hb.size)
        generalize wr.drewN nq = w1 at *
        go_wp2_with fail
        go_ret
        exact ⟨ret_bool E.out.symm, b9⟩
      have hto : totOkB key n = true := by simp only [totOkB, h12, true_and]; exact hq
      have HT := Lib.hid hto
      have CI := fun w => l1In_tot n true w hq
      clear hq hto
      rcases Nat.eq_zero_or_pos k with rfl | hk0
      · have O : Hid (OkT ts 1) := Lib.hid (ho.out.succ (okAt_first Hr.out HT.out))
        simp only [Nat.zero_mul, Nat.add_zero] at c0 c1
        go_wp2_with fail
        go_quiet (first | (go_at_call 77; refine (CI _).mono ?_; rintro e w1 ⟨rfl, rfl⟩; exact ⟨rfl, _, rfl⟩))
        have b9 := hb.trans (drewN_below0 wr nq hb.size)
        generalize wr.drewN nq = w1 at *
        go_wp2_with fail
        go_roundw
        case rel => exact ⟨1, by omega, rfl, b9, O⟩
        case measure => simp [intOf]; omega
      obtain ⟨q, hq2, hq1⟩ : ∃ q : Nat, (q < k ∧ k < q + 2) ∧ IntKind.i64.wrap ((k : Int) - 1) = (q : Int) := ⟨k - 1, by omega, by rw [IntWalk.i64_in _ (by omega)]; omega⟩
      obtain ⟨b', off', r1, e', _, hr1, p0, _⟩ := (hR.below hb (Nat.le_refl _)).tot (show q < len by omega)
      obtain ⟨rfl, rfl⟩ : b = b' ∧ off = off' := by injection e' with e1; injection e1 with e2 e3; exact ⟨e2, e3⟩
      have Hr1 := Lib.hid hr1
      clear hr1 e'
      obtain ⟨key1, n1⟩ := r1
      simp only at p0
      have hkq := Lib.hid (show k - 1 = q by omega)
      have Hk := Lib.hid (okAt_next (k := k) hk0 (by rw [hkq.out]; exact Hr1.out) Hr.out HT.out)
      cases hd : Op.bytesLess key1.toList key.toList
      case false =>
        have E := Lib.hid (totsOk_no (k := k) (by rw [hl.out]; exact hlt) (Hk.out.trans hd))
        go_wp2_with fail
        go_quiet (first | (go_at_call 77; refine (CI _).mono ?_; rintro e w1 ⟨rfl, rfl⟩; exact ⟨rfl, _, rfl⟩))
        have b9 := hb.trans (drewN_below0 wr nq hb.size)
        generalize wr.drewN nq = w1 at *
        go_wp2_with fail
        go_ret
        exact ⟨ret_bool E.out.symm, b9⟩
      have O : Hid (OkT ts (k + 1)) := Lib.hid (ho.out.succ (Hk.out.trans hd))
      go_wp2_with fail
      go_quiet (first | (go_at_call 77; refine (CI _).mono ?_; rintro e w1 ⟨rfl, rfl⟩; exact ⟨rfl, _, rfl⟩))
      have b9 := hb.trans (drewN_below0 wr nq hb.size)
      generalize wr.drewN nq = w1 at *
      go_wp2_with fail
      go_roundw
      case rel => exact ⟨k + 1, by omega, by go_num, b9, O⟩
      case measure => simp [intOf]; omega
    · have E := Lib.hid (show totsOk ts = decide (len ≤ 120) by rw [totsOk_all ho.out (by rw [hl.out]; omega), hl.out])
      go_wp2_with fail
      go_ret
      exact ⟨ret_bool (by rw [E.out, decide_eq_decide]; omega), hb⟩
end Go.Proofs.Ytnmlnenepceabaa
