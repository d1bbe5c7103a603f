/-
  Steps of the walk over a struct or an array that is held as a whole: a new variable, a variable made of a value, a struct that is built of one field. No conditions but those of each statement.
-/
import Derived.Test.YtpnbbedfbglekaaFilterOk
import Derived.Deep.MidRow
import Derived.Lib.LazyBuf
namespace Go.Proofs.Ytpnbbedfbglekaa
open Go.RowKit
section
variable {P : Program} {ops : Array Oper} {rest : List Oper} {op : Oper} {a : Act} {w : World} {Q : Exit → Act → World → Prop}
theorem wpList_alloc_row (hgd : op.guard = none) (t : TypeId) (ho : op.op = .alloc t) (C : Array Value) (hz : ∀ w, (zeroValue t).run P w = .ok (.agg C) w)
    (h : wpList P ops Q rest (a.put op.dst (.pointer (some ⟨w.heap.size, 0, none⟩))) (w.alloc (.cells C t))) : wpList P ops Q (op :: rest) a w :=
  wpList_plain hgd fun _ hK => by
    unfold Oper.wp execOp
    simp only [ho]
    simp [hz, go_sem, Value.cells]
    exact hK _ _ h
theorem wpList_box_row (hgd : op.guard = none) (t : TypeId) (x : Operand) (ho : op.op = .box t x) (C : Array Value) (hx : a.eval x = .agg C)
    (h : wpList P ops Q rest (a.put op.dst (.pointer (some ⟨w.heap.size, 0, none⟩))) (w.alloc (.cells C t))) : wpList P ops Q (op :: rest) a w :=
  wpList_plain hgd fun _ hK => by
    unfold Oper.wp execOp
    simp only [ho, hx]
    simp [go_sem, Value.cells]
    exact hK _ _ h
theorem wpList_build_row (hgd : op.guard = none) (t : TypeId) (x : Operand) (ho : op.op = .build t #[(0, x)])
    (v : Value) (hx : a.eval x = v) (C : Array Value) (hz : (Instr.build t #[(0, v)]).run P w = .ok (.agg C) w)
    (h : wpList P ops Q rest (a.put op.dst (.agg C)) w) : wpList P ops Q (op :: rest) a w :=
  wpList_plain hgd fun _ hK => by
    unfold Oper.wp execOp
    simp only [ho, List.map_toArray, List.map_cons, List.map_nil, hx, hz, Sem.run_bind, Sem.run_pure, Result.andThen_ok]
    exact hK _ _ h
end
def u8v (c : UInt8) : Value := .int .u8 (c.toNat : Int)
/-- The cells of a set of bits: its size, and its bytes. -/
def bsL (n : Int) (l : List UInt8) : List Value := .int .i64 n :: l.map u8v
theorem bsL_length (n : Int) (l : List UInt8) : (bsL n l).length = l.length + 1 := by simp [bsL]
def zero32 : List UInt8 := List.replicate 32 0
set_option maxRecDepth 100000 in
theorem zero74 (w : World) : (zeroValue 127).run Try.prog w = .ok (.agg (bsL 0 zero32).toArray) w := by
  rw [Try.zeroValue127]; rfl
theorem info74 : (Try.prog.info? 127).map (·.size) = some 33 := by kernel_rfl
theorem info72 : (Try.prog.info? 125).map (·.size) = some 32 := by kernel_rfl
set_option maxRecDepth 100000 in
theorem build74 (n : Int) (w : World) : (Instr.build 127 #[(0, .int .i64 n)]).run Try.prog w = .ok (.agg (bsL n zero32).toArray) w := by
  simp [Instr.build, go_sem, Value.cells]
  rfl
/-- Where a walk is to stand still. -/
def Stop (p : Prop) : Prop := p
theorem stop {p : Prop} (h : Stop p) : p := h
theorem unstop {p : Prop} (h : p) : Stop p := h
theorem rangeAt_splice {w : World} {b o : Nat} {cs vs : List Value} (h : w.rangeAt b 0 cs) (ht : w.there b 0 cs.length) (hl : o + vs.length ≤ cs.length) :
    (w.setCells b o vs).rangeAt b 0 (cs.take o ++ (vs ++ cs.drop (o + vs.length))) := by
  intro j v hv
  rw [Nat.zero_add]
  rcases Nat.lt_or_ge j o with hj | hj
  · rw [List.getElem?_append_left (by simp; omega), List.getElem?_take_of_lt hj] at hv
    rw [World.cell?_setCells_out b vs o w _ (fun _ _ => Or.inl hj)]
    simpa using h j v hv
  rw [List.getElem?_append_right (by simp; omega)] at hv
  have e : (cs.take o).length = o := by simp; omega
  rw [e] at hv
  rcases Nat.lt_or_ge j (o + vs.length) with hj2 | hj2
  · rw [List.getElem?_append_left (by omega)] at hv
    have := World.rangeAt_setCells_same w b o vs (fun i hi => by have := ht (o + i) (by omega); simpa using this) (j - o) v hv
    rwa [show o + (j - o) = j by omega] at this
  · rw [List.getElem?_append_right (by omega), List.getElem?_drop] at hv
    rw [World.cell?_setCells_out b vs o w _ (fun _ _ => Or.inr hj2)]
    have := h _ v hv
    rwa [show 0 + (o + vs.length + (j - o - vs.length)) = j by omega] at this
/-- A set of bits in block b. -/
def BS (w : World) (b : Nat) (n : Int) (l : List UInt8) : Prop := w.rangeAt b 0 (bsL n l) ∧ w.there b 0 33 ∧ l.length = 32 ∧ b < w.heap.size
theorem BS.below {w w' : World} {B b : Nat} {n : Int} {l : List UInt8} (h : BS w b n l) (hb : Below B w w') (hB : b < B) : BS w' b n l :=
  ⟨fun j v hv => (hb.cell (p := ⟨b, 0 + j, none⟩) hB).trans (h.1 j v hv), fun j hj => ⟨by rw [hb.cell (p := ⟨b, 0 + j, none⟩) hB]; exact (h.2.1 j hj).1, by rw [hb.frozen (p := ⟨b, 0 + j, none⟩) hB]; exact (h.2.1 j hj).2⟩, h.2.2.1, Nat.lt_of_lt_of_le h.2.2.2 hb.size⟩
theorem BS.new (w : World) (n : Int) (l : List UInt8) (t : TypeId) (hl : l.length = 32) : BS (w.alloc (.cells (bsL n l).toArray t)) w.heap.size n l := by
  have c : ∀ j, (w.alloc (.cells (bsL n l).toArray t)).cell? ⟨w.heap.size, j, none⟩ = (bsL n l)[j]? := by
    intro j
    simp [go_sem]
  have e := bsL_length n l
  refine ⟨fun j v hv => by rw [Nat.zero_add, c]; exact hv, fun j hj => ⟨by rw [Nat.zero_add, c, List.getElem?_eq_getElem (by omega)]; rfl, by simp [go_sem, World.frozen?_alloc_new]⟩, hl, by simp⟩
theorem size_setCells (b : Nat) : ∀ (vs : List Value) (o : Nat) (w : World), (w.setCells b o vs).heap.size = w.heap.size
  | [], _, _ => rfl
  | v :: r, o, w => by
    show ((w.setCell ⟨b, o, none⟩ v).setCells b (o + 1) r).heap.size = _
    rw [size_setCells b r]; simp [World.setCell]
theorem BS.put {w : World} {b : Nat} {n n' : Int} {l l' : List UInt8} (h : BS w b n l) (o : Nat) (vs : List Value) (hl : o + vs.length ≤ 33) (h' : l'.length = 32) (he : (bsL n l).take o ++ (vs ++ (bsL n l).drop (o + vs.length)) = bsL n' l') : BS (w.setCells b o vs) b n' l' := by
  have e := bsL_length n l
  have e2 := h.2.2.1
  refine ⟨?_, World.there_setCells h.2.1 b o vs, h', by rw [size_setCells]; exact h.2.2.2⟩
  rw [← he]
  exact rangeAt_splice h.1 (by rw [e, e2]; exact h.2.1) (by omega)
theorem BS.put_all {w : World} {b : Nat} {n n' : Int} {l l' : List UInt8} (h : BS w b n l) (h' : l'.length = 32) : BS (w.setCells b 0 (bsL n' l').toArray.toList) b n' l' := by
  have e := bsL_length n l
  have e' := bsL_length n' l'
  have e2 := h.2.2.1
  refine h.put 0 _ (by simp; omega) h' ?_
  simp
  omega
theorem BS.set {w : World} {b : Nat} {n : Int} {l : List UInt8} (h : BS w b n l) (i : Nat) (c : UInt8) (hi : i < 32) : BS (w.setCell ⟨b, 1 + i, none⟩ (u8v c)) b n (l.set i c) := by
  have e2 := h.2.2.1
  refine h.put (1 + i) [u8v c] (by simp; omega) (by simpa using e2) ?_
  rw [Nat.add_comm 1 i]
  simp only [bsL, List.take_succ_cons, List.cons_append, List.drop_succ_cons, List.length_cons, List.length_nil, Nat.zero_add, ← List.map_take, ← List.map_drop, List.map_set]
  congr 1
  rw [List.set_eq_take_append_cons_drop, if_pos (by simpa using (show i < l.length by omega))]
  simp
/-- The bytes of a string, and zeros behind them. -/
def padL (t : ByteArray) : List UInt8 := t.data.toList ++ List.replicate (32 - t.size) 0
theorem padL_length (t : ByteArray) (h : t.size ≤ 32) : (padL t).length = 32 := by
  have : t.data.toList.length = t.size := by simp
  simp [padL]; omega
theorem BS.copy {w : World} {b : Nat} {n : Int} (h : BS w b n zero32) (t : ByteArray) (ht : t.size ≤ 32) : BS (w.setCells b 1 (t.data.toList.map fun x => Value.int .u8 (x.toNat : Int))) b n (padL t) := by
  have e : t.data.toList.length = t.size := by simp
  refine h.put 1 _ (by simp; omega) (padL_length t ht) ?_
  simp only [bsL, List.take_succ_cons, List.take_zero, List.length_map, e, Nat.add_comm 1 t.size, List.drop_succ_cons, zero32, List.map_replicate, List.drop_replicate, padL, List.map_append]
  rfl
end Go.Proofs.Ytpnbbedfbglekaa
