/-
  Rows.FnPassedTwiceSaid: laws.FnPassedTwice returns true for every input, and each argument reads afterwards as it read before. No conditions.
-/
import Derived.Test.YtbcdpgjjfllgjaaRowOk
import Derived.Deep.MidRow
import Derived.Lib.LazyBuf
import Derived.StillTailTactics
import Derived.Test.YtbcdpgjjfllgjaaOpen
import Derived.Laws.ResultCell
import Derived.Deep.RegionHeld3
import Derived.Test.YtbcdpgjjfllgjaaPlain
import Derived.WalkKit
import Derived.WalkSpells
import Derived.WalkLawsBesides
import Derived.Outline
import Derived.Lib.Hide
import Derived.Lib.ConvBytes
import Derived.Test.YtbcdpgjjfllgjaaRowsFns
import Derived.Test.YtbcdpgjjfllgjaaDrawRows
import Derived.Test.YtbcdpgjjfllgjaaJoinFns
import Derived.Test.YtbcdpgjjfllgjaaRowsMem
import Derived.RangeFuncNested
import Derived.RangeFuncBound
import Derived.RangeFuncCalls
import Derived.RangeFuncLeaves
import Derived.RangeFuncBox
import Derived.Shelf.Abstract
import Derived.Shelf.RegionOpen
import Derived.OwnWalkIn
import Derived.TacticsInMore
import Derived.LoopNIn
import Derived.LoopIn
import Derived.Maps.AppendAt
import Derived.Test.YtbcdpgjjfllgjaaRowsOut
import Derived.Laws.StructEq
import Derived.Test.YtbcdpgjjfllgjaaOpenBytes
import Derived.Test.YtbcdpgjjfllgjaaDrawJoin
namespace Go.Proofs.Ytbcdpgjjfllgjaa
open Go.RowKit

/-- A filter, as plain values. -/
structure FilV where
  n : Int
  bits : ByteArray
def FilV.Ok (f : FilV) : Prop := (Lit.int .i64 f.n).wf = true ∧ f.bits.size ≤ maxLen
def FilV.v (f : FilV) : Value := .agg #[.int .i64 f.n, .string f.bits]
def sizeB (n : Int) : Bool := decide (8 ≤ n ∧ n ≤ 256 ∧ n % 8 = 0)
def filB (n : Int) (b : ByteArray) : Bool := decide (8 ≤ n ∧ n ≤ 256 ∧ n % 8 = 0 ∧ (b.size : Int) = n / 8)
def szF (b : ByteArray) (left : Int) : Int := if left < b.size then -1 else left - b.size
theorem szF_bd (b : ByteArray) (left : Int) (h0 : 0 ≤ left) (h1 : left ≤ 1048576) : szF b left = -1 ∨ (0 ≤ szF b left ∧ szF b left ≤ 1048576) := by
  unfold szF; split <;> omega

set_option maxRecDepth 100000 in
theorem implFilterSize_any (n : Int) (w : World) :
    Calls Try.prog 67 #[.int .i64 n] w fun e w' => e = .returned (.bool (sizeB n)) ∧ w = w' := by
  by_cases h1 : 8 ≤ n
  case neg =>
    have E := Lib.hid (show sizeB n = false from decide_eq_false (by omega))
    have d1 : decide (8 ≤ n) = false := by simpa using h1
    go_enter Try.func67, Try.ntmps67
    go_wp2
    go_ret
    exact ⟨ret_bool E.out.symm, rfl⟩
  by_cases h2 : n ≤ 256
  case neg =>
    have E := Lib.hid (show sizeB n = false from decide_eq_false (by omega))
    have d1 : decide (8 ≤ n) = true := by simpa using h1
    have d2 : decide (n ≤ 256) = false := by simpa using h2
    go_enter Try.func67, Try.ntmps67
    go_wp2
    go_ret
    exact ⟨ret_bool E.out.symm, rfl⟩
  have d1 : decide (8 ≤ n) = true := by simpa using h1
  have d2 : decide (n ≤ 256) = true := by simpa using h2
  have E := Lib.hid (show sizeB n = (n % 8 == 0) by simp [sizeB, h1, h2]; rfl)
  go_enter Try.func67, Try.ntmps67
  go_wp2
  go_ret
  exact ⟨ret_bool E.out.symm, rfl⟩

set_option maxRecDepth 100000 in
theorem specFilterSize_any (n : Int) (w : World) :
    Calls Try.prog 96 #[.int .i64 n] w fun e w' => e = .returned (.bool (sizeB n)) ∧ w = w' := by
  by_cases h1 : 8 ≤ n
  case neg =>
    have E := Lib.hid (show sizeB n = false from decide_eq_false (by omega))
    have d1 : decide (8 ≤ n) = false := by simpa using h1
    go_enter Try.func96, Try.ntmps96
    go_wp2
    go_ret
    exact ⟨ret_bool E.out.symm, rfl⟩
  by_cases h2 : n ≤ 256
  case neg =>
    have E := Lib.hid (show sizeB n = false from decide_eq_false (by omega))
    have d1 : decide (8 ≤ n) = true := by simpa using h1
    have d2 : decide (n ≤ 256) = false := by simpa using h2
    go_enter Try.func96, Try.ntmps96
    go_wp2
    go_ret
    exact ⟨ret_bool E.out.symm, rfl⟩
  have d1 : decide (8 ≤ n) = true := by simpa using h1
  have d2 : decide (n ≤ 256) = true := by simpa using h2
  have E := Lib.hid (show sizeB n = (n % 8 == 0) by simp [sizeB, h1, h2]; rfl)
  go_enter Try.func96, Try.ntmps96
  go_wp2
  go_ret
  exact ⟨ret_bool E.out.symm, rfl⟩

set_option maxRecDepth 100000 in
theorem implFilterOk_any (n : Int) (b : ByteArray) (w : World) (_hb : b.size ≤ maxLen) :
    Calls Try.prog 58 #[.agg #[.int .i64 n, .string b]] w fun e w' => e = .returned (.bool (filB n b)) ∧ Below w.heap.size w w' := by
  unfold maxLen at _hb
  cases hs : sizeB n
  · have E := Lib.hid (show filB n b = false from decide_eq_false (by have := of_decide_eq_false hs; omega))
    go_enter Try.func58, Try.ntmps58
    go_wp2_with (first | (go_at_call 67; refine (implFilterSize_any n _).mono ?_; rintro e w' ⟨rfl, rfl⟩) | go_in)
    go_ret
    exact ⟨ret_bool E.out.symm, bl1 _ _⟩
  · have h := of_decide_eq_true hs
    obtain ⟨h1, h2, h3⟩ := h
    have E := Lib.hid (show filB n b = ((b.size : Int) == n / 8) by simp only [filB, h1, h2, h3, true_and]; rfl)
    go_enter Try.func58, Try.ntmps58
    go_wp2_with (first | (go_at_call 67; refine (implFilterSize_any n _).mono ?_; rintro e w' ⟨rfl, rfl⟩) | go_in)
    go_ret
    exact ⟨ret_bool E.out.symm, bl1 _ _⟩

set_option maxRecDepth 100000 in
theorem specFilterOk_any (n : Int) (b : ByteArray) (w : World) (_hb : b.size ≤ maxLen) :
    Calls Try.prog 65 #[.agg #[.int .i64 n, .string b]] w fun e w' => e = .returned (.bool (filB n b)) ∧ Below w.heap.size w w' := by
  unfold maxLen at _hb
  cases hs : sizeB n
  · have E := Lib.hid (show filB n b = false from decide_eq_false (by have := of_decide_eq_false hs; omega))
    go_enter Try.func65, Try.ntmps65
    go_wp2_with (first | (go_at_call 96; refine (specFilterSize_any n _).mono ?_; rintro e w' ⟨rfl, rfl⟩) | go_in)
    go_ret
    exact ⟨ret_bool E.out.symm, bl1 _ _⟩
  · have h := of_decide_eq_true hs
    obtain ⟨h1, h2, h3⟩ := h
    have E := Lib.hid (show filB n b = ((b.size : Int) == n / 8) by simp only [filB, h1, h2, h3, true_and]; rfl)
    go_enter Try.func65, Try.ntmps65
    go_wp2_with (first | (go_at_call 96; refine (specFilterSize_any n _).mono ?_; rintro e w' ⟨rfl, rfl⟩) | go_in)
    go_ret
    exact ⟨ret_bool E.out.symm, bl1 _ _⟩

end Go.Proofs.Ytbcdpgjjfllgjaa

namespace Go.Proofs.Ytbcdpgjjfllgjaa
open Go.RowKit
section
variable {P : Program} {ops : Array Oper} {rest : List Oper} {op : Oper} {a : Act} {w : World} {Q : Exit → Act → World → Prop}
theorem wpList_alloc_row (hgd : op.guard = none) (t : TypeId) (ho : op.op = .alloc t) (C : Array Value) (hz : ∀ w, (zeroValue t).run P w = .ok (.agg C) w)
    (h : wpList P ops Q rest (a.put op.dst (.pointer (some ⟨w.heap.size, 0, none⟩))) (w.alloc (.cells C t))) : wpList P ops Q (op :: rest) a w :=
  wpList_plain hgd fun _ hK => by
    unfold Oper.wp execOp
    simp only [ho]
    simp [hz, go_sem, Value.cells]
    exact hK _ _ h
theorem wpList_box_row (hgd : op.guard = none) (t : TypeId) (x : Operand) (ho : op.op = .box t x) (C : Array Value) (hx : a.eval x = .agg C)
    (h : wpList P ops Q rest (a.put op.dst (.pointer (some ⟨w.heap.size, 0, none⟩))) (w.alloc (.cells C t))) : wpList P ops Q (op :: rest) a w :=
  wpList_plain hgd fun _ hK => by
    unfold Oper.wp execOp
    simp only [ho, hx]
    simp [go_sem, Value.cells]
    exact hK _ _ h
theorem wpList_build_row (hgd : op.guard = none) (t : TypeId) (x : Operand) (ho : op.op = .build t #[(0, x)])
    (v : Value) (hx : a.eval x = v) (C : Array Value) (hz : (Instr.build t #[(0, v)]).run P w = .ok (.agg C) w)
    (h : wpList P ops Q rest (a.put op.dst (.agg C)) w) : wpList P ops Q (op :: rest) a w :=
  wpList_plain hgd fun _ hK => by
    unfold Oper.wp execOp
    simp only [ho, List.map_toArray, List.map_cons, List.map_nil, hx, hz, Sem.run_bind, Sem.run_pure, Result.andThen_ok]
    exact hK _ _ h
end
def u8v (c : UInt8) : Value := .int .u8 (c.toNat : Int)
/-- The cells of a set of bits: its size, and its bytes. -/
def bsL (n : Int) (l : List UInt8) : List Value := .int .i64 n :: l.map u8v
theorem bsL_length (n : Int) (l : List UInt8) : (bsL n l).length = l.length + 1 := by simp [bsL]
def zero32 : List UInt8 := List.replicate 32 0
set_option maxRecDepth 100000 in
theorem zero74 (w : World) : (zeroValue 82).run Try.prog w = .ok (.agg (bsL 0 zero32).toArray) w := by
  rw [Try.zeroValue82]; rfl
theorem info74 : (Try.prog.info? 82).map (·.size) = some 33 := by kernel_rfl
theorem info72 : (Try.prog.info? 80).map (·.size) = some 32 := by kernel_rfl
set_option maxRecDepth 100000 in
theorem build74 (n : Int) (w : World) : (Instr.build 82 #[(0, .int .i64 n)]).run Try.prog w = .ok (.agg (bsL n zero32).toArray) w := by
  simp [Instr.build, go_sem, Value.cells]
  rfl
/-- Where a walk is to stand still. -/
def Stop (p : Prop) : Prop := p
theorem stop {p : Prop} (h : Stop p) : p := h
theorem unstop {p : Prop} (h : p) : Stop p := h
theorem rangeAt_splice {w : World} {b o : Nat} {cs vs : List Value} (h : w.rangeAt b 0 cs) (ht : w.there b 0 cs.length) (hl : o + vs.length ≤ cs.length) :
    (w.setCells b o vs).rangeAt b 0 (cs.take o ++ (vs ++ cs.drop (o + vs.length))) := by
  intro j v hv
  rw [Nat.zero_add]
  rcases Nat.lt_or_ge j o with hj | hj
  · rw [List.getElem?_append_left (by simp; omega), List.getElem?_take_of_lt hj] at hv
    rw [World.cell?_setCells_out b vs o w _ (fun _ _ => Or.inl hj)]
    simpa using h j v hv
  rw [List.getElem?_append_right (by simp; omega)] at hv
  have e : (cs.take o).length = o := by simp; omega
  rw [e] at hv
  rcases Nat.lt_or_ge j (o + vs.length) with hj2 | hj2
  · rw [List.getElem?_append_left (by omega)] at hv
    have := World.rangeAt_setCells_same w b o vs (fun i hi => by have := ht (o + i) (by omega); simpa using this) (j - o) v hv
    rwa [show o + (j - o) = j by omega] at this
  · rw [List.getElem?_append_right (by omega), List.getElem?_drop] at hv
    rw [World.cell?_setCells_out b vs o w _ (fun _ _ => Or.inr hj2)]
    have := h _ v hv
    rwa [show 0 + (o + vs.length + (j - o - vs.length)) = j by omega] at this
/-- A set of bits in block b. -/
def BS (w : World) (b : Nat) (n : Int) (l : List UInt8) : Prop := w.rangeAt b 0 (bsL n l) ∧ w.there b 0 33 ∧ l.length = 32 ∧ b < w.heap.size
theorem BS.below {w w' : World} {B b : Nat} {n : Int} {l : List UInt8} (h : BS w b n l) (hb : Below B w w') (hB : b < B) : BS w' b n l :=
  ⟨fun j v hv => (hb.cell (p := ⟨b, 0 + j, none⟩) hB).trans (h.1 j v hv), fun j hj => ⟨by rw [hb.cell (p := ⟨b, 0 + j, none⟩) hB]; exact (h.2.1 j hj).1, by rw [hb.frozen (p := ⟨b, 0 + j, none⟩) hB]; exact (h.2.1 j hj).2⟩, h.2.2.1, Nat.lt_of_lt_of_le h.2.2.2 hb.size⟩
theorem BS.new (w : World) (n : Int) (l : List UInt8) (t : TypeId) (hl : l.length = 32) : BS (w.alloc (.cells (bsL n l).toArray t)) w.heap.size n l := by
  have c : ∀ j, (w.alloc (.cells (bsL n l).toArray t)).cell? ⟨w.heap.size, j, none⟩ = (bsL n l)[j]? := by
    intro j
    simp [go_sem]
  have e := bsL_length n l
  refine ⟨fun j v hv => by rw [Nat.zero_add, c]; exact hv, fun j hj => ⟨by rw [Nat.zero_add, c, List.getElem?_eq_getElem (by omega)]; rfl, by simp [go_sem, World.frozen?_alloc_new]⟩, hl, by simp⟩
theorem size_setCells (b : Nat) : ∀ (vs : List Value) (o : Nat) (w : World), (w.setCells b o vs).heap.size = w.heap.size
  | [], _, _ => rfl
  | v :: r, o, w => by
    show ((w.setCell ⟨b, o, none⟩ v).setCells b (o + 1) r).heap.size = _
    rw [size_setCells b r]; simp [World.setCell]
theorem BS.put {w : World} {b : Nat} {n n' : Int} {l l' : List UInt8} (h : BS w b n l) (o : Nat) (vs : List Value) (hl : o + vs.length ≤ 33) (h' : l'.length = 32) (he : (bsL n l).take o ++ (vs ++ (bsL n l).drop (o + vs.length)) = bsL n' l') : BS (w.setCells b o vs) b n' l' := by
  have e := bsL_length n l
  have e2 := h.2.2.1
  refine ⟨?_, World.there_setCells h.2.1 b o vs, h', by rw [size_setCells]; exact h.2.2.2⟩
  rw [← he]
  exact rangeAt_splice h.1 (by rw [e, e2]; exact h.2.1) (by omega)
theorem BS.put_all {w : World} {b : Nat} {n n' : Int} {l l' : List UInt8} (h : BS w b n l) (h' : l'.length = 32) : BS (w.setCells b 0 (bsL n' l').toArray.toList) b n' l' := by
  have e := bsL_length n l
  have e' := bsL_length n' l'
  have e2 := h.2.2.1
  refine h.put 0 _ (by simp; omega) h' ?_
  simp
  omega
theorem BS.set {w : World} {b : Nat} {n : Int} {l : List UInt8} (h : BS w b n l) (i : Nat) (c : UInt8) (hi : i < 32) : BS (w.setCell ⟨b, 1 + i, none⟩ (u8v c)) b n (l.set i c) := by
  have e2 := h.2.2.1
  refine h.put (1 + i) [u8v c] (by simp; omega) (by simpa using e2) ?_
  rw [Nat.add_comm 1 i]
  simp only [bsL, List.take_succ_cons, List.cons_append, List.drop_succ_cons, List.length_cons, List.length_nil, Nat.zero_add, ← List.map_take, ← List.map_drop, List.map_set]
  congr 1
  rw [List.set_eq_take_append_cons_drop, if_pos (by simpa using (show i < l.length by omega))]
  simp
/-- The bytes of a string, and zeros behind them. -/
def padL (t : ByteArray) : List UInt8 := t.data.toList ++ List.replicate (32 - t.size) 0
theorem padL_length (t : ByteArray) (h : t.size ≤ 32) : (padL t).length = 32 := by
  have : t.data.toList.length = t.size := by simp
  simp [padL]; omega
theorem BS.copy {w : World} {b : Nat} {n : Int} (h : BS w b n zero32) (t : ByteArray) (ht : t.size ≤ 32) : BS (w.setCells b 1 (t.data.toList.map fun x => Value.int .u8 (x.toNat : Int))) b n (padL t) := by
  have e : t.data.toList.length = t.size := by simp
  refine h.put 1 _ (by simp; omega) (padL_length t ht) ?_
  simp only [bsL, List.take_succ_cons, List.take_zero, List.length_map, e, Nat.add_comm 1 t.size, List.drop_succ_cons, zero32, List.map_replicate, List.drop_replicate, padL, List.map_append]
  rfl
end Go.Proofs.Ytbcdpgjjfllgjaa

namespace Go.Proofs.Ytbcdpgjjfllgjaa
open Go.RowKit
theorem allOne (n : Int) (l : List UInt8) : (bsL n l).toArray.all (·.oneCell') = true := by
  refine all_oneCell_toArray fun v hv => ?_
  rcases List.mem_cons.1 hv with rfl | hv
  · rfl
  · obtain ⟨c, _, rfl⟩ := List.mem_map.1 hv
    rfl
theorem info74l (n : Int) (l : List UInt8) (h : l.length = 32) : (Try.prog.info? 82).map (·.size) = some (bsL n l).toArray.size := by
  rw [info74]; simp [bsL_length, h]
theorem info74k (n : Int) (l : List UInt8) (h : l.length = 32) : (Try.prog.info? 82).map (·.size) = some (bsL n l).length := by
  rw [info74]; simp [bsL_length, h]
theorem wpList_copy_string {P : Program} {ops : Array Oper} {rest : List Oper} {o : Oper} {a : Act} {w : World} {Q : Exit → Act → World → Prop}
    (hg : o.guard = none) (d x : Operand) (dT sT : TypeId) (hop : o.op = Op.call { callee := Callee.builtin Builtin.copy, args := #[d, x], argTypes := #[dT, sT] })
    (elem : TypeId) (hu : P.underlying dT = some (.slice elem)) (hz : ∀ w, (Go.sizeOf elem).run P w = .ok 1 w)
    (b off dLen dCap : Nat) (hd : a.eval d = .slice (some ⟨b, off, none⟩) dLen dCap) (t : ByteArray) (hx : a.eval x = .string t) (hle : t.size ≤ dLen)
    (hc : ∀ j, j < t.size → (w.cell? ⟨b, off + j, none⟩).isSome = true) (hf : ∀ j, j < t.size → w.frozen? ⟨b, off + j, none⟩ = false)
    (h : wpList P ops Q rest (a.put o.dst (goInt t.size)) (w.setCells b off (t.data.toList.map fun x => Value.int .u8 (x.toNat : Int)))) : wpList P ops Q (o :: rest) a w :=
  wpList_plain hg fun K hK => by
    have := step_copy_string (ops := ops) (Q := Q) (E := False) hg d x dT sT hop elem hu hz b off dLen dCap hd t hx hle hc hf (hK _ _ h)
    rwa [if_pos (by simp [Region.wanted, hg])] at this
set_option maxRecDepth 100000 in
theorem bitSetOf_any (n : Int) (b : ByteArray) (w : World) (hb : b.size ≤ 32) :
    Calls Try.prog 60 #[.agg #[.int .i64 n, .string b]] w fun e w' => e = .returned (.agg (bsL n (padL b)).toArray) ∧ Below w.heap.size w w' := by
  go_enter Try.func60, Try.ntmps60
  go_wp2_with (refine wpList_alloc_row rfl 82 rfl _ zero74 ?_; refine stop ?_)
  have hB := bl2 w (.cells #[.int .i64 n, .string b] 44) (.cells (bsL 0 zero32).toArray 82)
  have r := BS.new (w.alloc (.cells #[.int .i64 n, .string b] 44)) 0 zero32 82 rfl
  have x0 : ((w.alloc (.cells #[.int .i64 n, .string b] 44)).alloc (.cells (bsL 0 zero32).toArray 82)).cell? ⟨w.heap.size, 0, none⟩ = some (.int .i64 n) := by simp [go_sem]
  have x1 : ((w.alloc (.cells #[.int .i64 n, .string b] 44)).alloc (.cells (bsL 0 zero32).toArray 82)).cell? ⟨w.heap.size, 1, none⟩ = some (.string b) := by simp [go_sem]
  simp only [World.size_alloc] at r
  generalize (w.alloc (.cells #[.int .i64 n, .string b] 44)).alloc (.cells (bsL 0 zero32).toArray 82) = w1 at *
  refine unstop ?_
  go_wp2_with (refine wpList_build_row rfl 82 _ rfl (.int .i64 n) ?_ _ (build74 n _) (stop ?_))
  · rfl
  have hz1 : w1.heap.size ≥ w.heap.size + 2 := r.2.2.2
  have r2 := BS.new w1 0 zero32 82 rfl
  have hB2 := hB.alloc hB.size (.cells (bsL 0 zero32).toArray 82)
  have hb2 : Below w1.heap.size w1 (w1.alloc (.cells (bsL 0 zero32).toArray 82)) := bl1 _ _
  have r1 := r.below hb2 r.2.2.2
  have y1 := (hb2.cell (p := ⟨w.heap.size, 1, none⟩) (by show w.heap.size < _; omega)).trans x1
  refine unstop ?_
  refine wpList_alloc_row rfl 82 rfl _ zero74 ?_
  generalize w1.heap.size = B at *
  generalize w1.alloc (.cells (bsL 0 zero32).toArray 82) = w2 at *
  clear hb2 r x0 x1 hB
  refine wpList_store_mid rfl 82 _ _ rfl B 0 (bsL n zero32).toArray rfl rfl r2.2.1 (info74l n zero32 rfl) (allOne n zero32) ?_
  have r3 := r2.put_all (n' := n) (l' := zero32) rfl
  have hB3 := below_setCells (B := w.heap.size) (b := B) (by omega) (bsL n zero32).toArray.toList 0 _ hB2
  have hb3 := below_setCells (B := B) (b := B) (Nat.le_refl _) (bsL n zero32).toArray.toList 0 _ (Below.refl B w2)
  replace r1 := r1.below hb3 (by omega)
  have y1' := (hb3.cell (p := ⟨w.heap.size, 1, none⟩) (by show w.heap.size < _; omega)).trans y1
  generalize w2.setCells B 0 (bsL n zero32).toArray.toList = w3 at *
  clear hb3 y1 r2 hB2
  go_wp2_with fail
  refine wp_region_still_tail 4 (by kernel_rfl) (by kernel_rfl) ?_
  simp only [List.take_succ_cons, List.take_zero, List.drop_succ_cons, List.drop_zero]
  change wpStill _ _ w3.drew _ _ _
  repeat still_step
  refine wpStill_nil ?_
  change wpList _ _ _ _ _ w3.drew
  refine wpList_copy_string rfl _ _ _ _ rfl 5 Try.underlying34 Try.sizeOf5 B 1 32 32 rfl b rfl hb (fun j hj => ?_) (fun j hj => ?_) ?_
  · simpa using (r3.2.1 (1 + j) (by omega)).1
  · simpa using (r3.2.1 (1 + j) (by omega)).2
  have r4 : BS w3.drew B n zero32 := r3
  replace r4 := r4.copy b hb
  have hB4 := below_setCells (B := w.heap.size) (b := B) (by omega) (b.data.toList.map fun x => Value.int .u8 (x.toNat : Int)) 1 _ hB3.drew
  have hb4 := below_setCells (B := B) (b := B) (Nat.le_refl _) (b.data.toList.map fun x => Value.int .u8 (x.toNat : Int)) 1 _ (Below.refl B w3).drew
  replace r1 := r1.below hb4 (by omega)
  generalize w3.drew.setCells B 1 (b.data.toList.map fun x => Value.int .u8 (x.toNat : Int)) = w4 at *
  clear hb4 y1' r3 hB3
  have pl := padL_length b hb
  go_wp2_with (refine wpList_load_mid rfl 82 _ rfl B 0 ?_ (bsL n (padL b)) _ r4.1 Try.underlying82 rfl (info74k n _ pl) (stop ?_))
  · rfl
  refine unstop ?_
  refine wpList_store_mid rfl 82 _ _ rfl (w.heap.size + 1) 0 (bsL n (padL b)).toArray rfl rfl (by simpa [bsL_length, pl] using r1.2.1) (info74l n _ pl) (allOne n _) ?_
  have r5 := r1.put_all (n' := n) (l' := padL b) pl
  have hB5 := below_setCells (B := w.heap.size) (b := w.heap.size + 1) (by omega) (bsL n (padL b)).toArray.toList 0 _ hB4
  generalize w4.setCells (w.heap.size + 1) 0 (bsL n (padL b)).toArray.toList = w5 at *
  go_wp2_with fail
  have hld := run_loadVar_mid (P := Try.prog) w5 (w.heap.size + 1) 0 82 (bsL n (padL b)) _ r5.1 Try.underlying82 rfl (info74k n _ pl)
  refine bodyPost_ret (v := .agg (bsL n (padL b)).toArray) ?_ rfl ⟨rfl, hB5⟩
  simp [results, Try.results60, asAddr, hld, Act.put]
end Go.Proofs.Ytbcdpgjjfllgjaa

namespace Go.Proofs.Ytbcdpgjjfllgjaa
open Go.RowKit
def bytesOf (n : Int) (l : List UInt8) : ByteArray := ⟨(l.take (n / 8).toNat).toArray⟩
theorem conv_bits {w : World} {b : Nat} {n : Int} {l : List UInt8} (h : BS w b n l) (m : Nat) (hm : m ≤ 32) :
    (convert 34 9 (.slice (some ⟨b, 1, none⟩) m 32)).run Try.prog w = .ok (.string ⟨(l.take m).toArray⟩) w := by
  have hl := h.2.2.1
  have e : (l.take m).length = m := by simp; omega
  have := run_convert_bytes_back (P := Try.prog) w 34 9 5 ⟨b, 1, none⟩ 32 (l.take m) Try.underlying34 Try.underlying5 Try.underlying9 (fun j hj => by
    have := h.1 (j + 1) (u8v (l.take m)[j]) (by
      simp only [bsL, List.getElem?_cons_succ, List.getElem?_map, List.getElem_take]
      rw [List.getElem?_eq_getElem (by simp at hj; omega)]; rfl)
    rw [Addr.add_mid]
    rwa [show 0 + (j + 1) = 1 + j by omega] at this)
  rwa [e] at this
set_option maxRecDepth 100000 in
theorem slice_bits (b m : Nat) (hm : m ≤ 32) (W : World) : (Instr.sliceAt 80 (.pointer (some ⟨b, 1, none⟩)) none (some (.int .i64 (m : Int))) none).run Try.prog W = .ok (.slice (some ⟨b, 1, none⟩) m 32) W := by
  have e : Try.prog.arrayLen 80 = 32 := by kernel_rfl
  have e2 : Try.prog.elem 80 = 5 := by kernel_rfl
  rw [run_sliceAt_array_h (P := Try.prog) W 80 ⟨b, 1, none⟩ (by rw [e, e2]; exact Try.underlying80) .i64 m (by omega) (by rw [e]; omega), e, e2, Try.sizeOf5]
  simp [slicedAt, Addr.add]
set_option maxRecDepth 100000 in
theorem bitFilter_any (b : Nat) (n : Int) (l : List UInt8) (w : World) (h : BS w b n l) (h0 : 8 ≤ n) (h1 : n ≤ 256) :
    Calls Try.prog 69 #[.pointer (some ⟨b, 0, none⟩)] w fun e w' => e = .returned (.agg #[.int .i64 n, .string (bytesOf n l)]) ∧ Below w.heap.size w w' := by
  obtain ⟨m, hm⟩ : ∃ m : Nat, n / 8 = m := ⟨(n / 8).toNat, by omega⟩
  have hm32 : m ≤ 32 := by omega
  have hq : IntKind.i64.wrap (n.tdiv 8) = (m : Int) := by
    rw [Int.tdiv_eq_ediv_of_nonneg (by omega), hm]
    rw [IntWalk.i64_in _ (by omega)]
  have hsl := slice_bits b m hm32
  go_enter Try.func69, Try.ntmps69
  have c0 : w.cell? ⟨b, 0, none⟩ = some (.int .i64 n) := h.1 0 _ rfl
  have hcv := conv_bits (show BS ((w.alloc (.cells #[.int .i64 0, .string ⟨#[]⟩] 44)).drew) b n l from (h.below ((bl1 w _).drew) h.2.2.2)) m hm32
  have E := Lib.hid (show bytesOf n l = ⟨(l.take m).toArray⟩ by unfold bytesOf; rw [hm]; rfl)
  have hlt := h.2.2.2
  have c1 : (w.alloc (.cells #[.int .i64 0, .string ⟨#[]⟩] 44)).cell? ⟨b, 0, none⟩ = some (.int .i64 n) := ((bl1 w _).cell (p := ⟨b, 0, none⟩) hlt).trans c0
  clear h c0
  go_wp2_with fail
  generalize (⟨(l.take m).toArray⟩ : ByteArray) = s at *
  have hB := bl1 w (.cells #[.int .i64 0, .string ⟨#[]⟩] 44)
  have hN : (w.alloc (.cells #[.int .i64 0, .string ⟨#[]⟩] 44)).there w.heap.size 0 2 := by
    intro j hj
    rcases (show j = 0 ∨ j = 1 by omega) with rfl | rfl <;> simp [go_sem, World.frozen?_alloc_new]
  generalize w.alloc (.cells #[.int .i64 0, .string ⟨#[]⟩] 44) = w1 at *
  refine wp_region_still_tail 15 (by kernel_rfl) (by kernel_rfl) ?_
  simp only [List.take_succ_cons, List.take_zero, List.drop_succ_cons, List.drop_zero]
  change wpStill _ _ w1.drew _ _ _
  repeat still_step
  refine wpStill_nil ?_
  change wpList _ _ _ _ _ w1.drew
  refine wpList_store_mid rfl 44 _ _ rfl w.heap.size 0 #[.int .i64 n, .string s] rfl rfl (by simpa using hN) (by kernel_rfl) (by simp [Value.oneCell']) ?_
  have hR : (w1.drew.setCells w.heap.size 0 [.int .i64 n, .string s]).rangeAt w.heap.size 0 [.int .i64 n, .string s] := World.rangeAt_setCells_same _ _ _ _ (by simpa using hN)
  have hB2 := below_setCells (B := w.heap.size) (b := w.heap.size) (Nat.le_refl _) [.int .i64 n, .string s] 0 _ hB.drew
  change wpList _ _ _ _ _ (w1.drew.setCells w.heap.size 0 [.int .i64 n, .string s])
  generalize w1.drew.setCells w.heap.size 0 [.int .i64 n, .string s] = w2 at *
  go_wp2_with fail
  have hld := run_loadVar_mid (P := Try.prog) w2 w.heap.size 0 44 [.int .i64 n, .string s] _ hR Try.underlying44 rfl (by kernel_rfl)
  refine bodyPost_ret (v := .agg #[.int .i64 n, .string s]) ?_ rfl ⟨by rw [E.out], hB2⟩
  simp [results, Try.results69, asAddr, hld, Act.put]
end Go.Proofs.Ytbcdpgjjfllgjaa

namespace Go.Proofs.Ytbcdpgjjfllgjaa
open Go.RowKit
def orBytes (k : Nat) (l m : List UInt8) : List UInt8 := List.zipWith (· ||| ·) (l.take k) (m.take k) ++ l.drop k
theorem or_step (l m : List UInt8) (k : Nat) (c d : UInt8) (hc : l[k]? = some c) (hd : m[k]? = some d) : (orBytes k l m).set k (c ||| d) = orBytes (k + 1) l m := by
  obtain ⟨h1, rfl⟩ := List.getElem?_eq_some_iff.1 hc
  obtain ⟨h2, rfl⟩ := List.getElem?_eq_some_iff.1 hd
  have e : (List.zipWith (· ||| ·) (l.take k) (m.take k)).length = k := by simp; omega
  unfold orBytes
  rw [List.set_append_right _ _ (by omega), e, Nat.sub_self, List.drop_eq_getElem_cons h1, List.set_cons_zero, List.take_succ_eq_append_getElem h1, List.take_succ_eq_append_getElem h2, List.zipWith_append (by simp; omega)]
  simp
set_option maxRecDepth 100000 in
theorem index_bits (m : List UInt8) (k : Nat) (d : UInt8) (hm : m.length = 32) (hd : m[k]? = some d) (W : World) : (Instr.index 80 (.agg (List.map u8v m).toArray) (.int .i64 (k : Int))).run Try.prog W = .ok (.int .u8 (d.toNat : Int)) W := by
  have hk := (List.getElem?_eq_some_iff.1 hd).1
  simp [Instr.index, go_sem, Try.sizeOf5, hd]
  rw [if_pos (by omega)]
  rfl
end Go.Proofs.Ytbcdpgjjfllgjaa

namespace Go.Proofs.Ytbcdpgjjfllgjaa
open Go.RowKit
/-- The byte of a bit with that bit set. -/
def bitC (i : Nat) (c : UInt8) : UInt8 := c ||| (1 <<< UInt8.ofNat (i % 8))
def setL (l : List UInt8) (i : Nat) : List UInt8 := l.set (i / 8) (bitC i (l.getD (i / 8) 0))
def hasL (l : List UInt8) (i : Nat) : Bool := bitC i (l.getD (i / 8) 0) == l.getD (i / 8) 0
theorem one_shl (r : Nat) (h : r < 8) : ((1 : UInt8) <<< UInt8.ofNat r).toNat = 2 ^ r := by
  rcases (show r = 0 ∨ r = 1 ∨ r = 2 ∨ r = 3 ∨ r = 4 ∨ r = 5 ∨ r = 6 ∨ r = 7 by omega) with rfl | rfl | rfl | rfl | rfl | rfl | rfl | rfl <;> decide
theorem pow_lt (r : Nat) (h : r < 8) : 2 ^ r < 256 := by
  rcases (show r = 0 ∨ r = 1 ∨ r = 2 ∨ r = 3 ∨ r = 4 ∨ r = 5 ∨ r = 6 ∨ r = 7 by omega) with rfl | rfl | rfl | rfl | rfl | rfl | rfl | rfl <;> decide
theorem bitC_val (i r : Nat) (c : UInt8) (hr : i % 8 = r) : bits .or .u8 (c.toNat : Int) ((2 : Int) ^ r % 256) = ((bitC i c).toNat : Int) := by
  have h8 : r < 8 := by omega
  have e : (2 : Int) ^ r % 256 = ((2 ^ r : Nat) : Int) := by
    have := pow_lt r h8
    rw [show (2 : Int) ^ r = ((2 ^ r : Nat) : Int) by simp]
    generalize (2 ^ r : Nat) = m at *
    omega
  rw [e, u8_or_nat c.toNat (2 ^ r) (by have := c.toNat_lt; omega) (pow_lt r h8), bitC, UInt8.toNat_or, hr, one_shl r h8]
set_option maxRecDepth 100000 in
theorem bitSet_any (b : Nat) (n : Int) (l : List UInt8) (i : Nat) (w : World) (h : BS w b n l) (hi : i < 256) :
    Calls Try.prog 98 #[.pointer (some ⟨b, 0, none⟩), .int .i64 (i : Int)] w fun e w' => e = .returned (.tuple #[]) ∧ Below b w w' ∧ BS w' b n (setL l i) := by
  have hl := h.2.2.1
  obtain ⟨q, hq0⟩ : ∃ q, i / 8 = q := ⟨_, rfl⟩
  obtain ⟨r, hr0⟩ : ∃ r, i % 8 = r := ⟨_, rfl⟩
  obtain ⟨c, hc⟩ : ∃ c, l[q]? = some c := ⟨_, List.getElem?_eq_getElem (by omega)⟩
  have hq1 : q < 32 := by omega
  have hr1 : r < 8 := by omega
  have hq : IntKind.i64.wrap ((i : Int).tdiv 8) = (q : Int) := by
    rw [Int.tdiv_eq_ediv_of_nonneg (by omega), show (i : Int) / 8 = (q : Int) by omega, IntWalk.i64_in _ (by omega)]
  have hr : IntKind.i64.wrap ((i : Int).tmod 8) = (r : Int) := by
    rw [Int.tmod_eq_emod_of_nonneg (by omega), show (i : Int) % 8 = (r : Int) by omega, IntWalk.i64_in _ (by omega)]
  have x0 : w.cell? ⟨b, 1 + q, none⟩ = some (.int .u8 (c.toNat : Int)) := by
    have := h.1 (q + 1) (u8v c) (by simp [bsL, hc])
    rwa [show 0 + (q + 1) = 1 + q by omega] at this
  have f0 : w.frozen? ⟨b, 1 + q, none⟩ = false := by
    have := (h.2.1 (q + 1) (by omega)).2
    rwa [show 0 + (q + 1) = 1 + q by omega] at this
  have hor := bitC_val i r c hr0
  have R := Lib.hid (show BS (w.setCell ⟨b, 1 + q, none⟩ (.int .u8 ((bitC i c).toNat : Int))).drew b n (setL l i) by
    refine (show BS (w.setCell ⟨b, 1 + q, none⟩ (.int .u8 ((bitC i c).toNat : Int))) b n (setL l i) from ?_)
    have := h.set q (bitC i c) hq1
    unfold setL
    rw [hq0, List.getD, hc]
    exact this)
  have HB := Lib.hid (show Below b w (w.setCell ⟨b, 1 + q, none⟩ (.int .u8 ((bitC i c).toNat : Int))).drew from ((Below.refl b w).setCell (Nat.le_refl _) _).drew)
  clear h hc hl
  go_enter Try.func98, Try.ntmps98
  go_wp2_with fail
  go_region
  go_wp2_with fail
  go_end0
  exact ⟨rfl, HB.out, R.out⟩
theorem bit_table : ∀ (r : Fin 8) (k : Fin 256), (((k.val / 2 ^ r.val) &&& 1) == 1) = ((UInt8.ofNat k.val ||| (1 <<< UInt8.ofNat r.val)) == UInt8.ofNat k.val) := by decide +kernel
theorem bit_test (i r : Nat) (c : UInt8) (hr : i % 8 = r) : (bits .and .u8 ((c.toNat : Int) / 2 ^ r) 1 == 1) = (bitC i c == c) := by
  have h8 : r < 8 := by omega
  have hc : c.toNat < 256 := c.toNat_lt
  have e : (c.toNat : Int) / 2 ^ r = ((c.toNat / 2 ^ r : Nat) : Int) := by simp
  have hlt : c.toNat / 2 ^ r < 256 := Nat.lt_of_le_of_lt (Nat.div_le_self _ _) hc
  have t := bit_table ⟨r, h8⟩ ⟨c.toNat, hc⟩
  simp only [UInt8.ofNat_toNat] at t
  have ha := u8_and_nat (c.toNat / 2 ^ r) 1 hlt (by omega)
  rw [e, show (1 : Int) = ((1 : Nat) : Int) from rfl, ha, bitC, hr, ← t]
  generalize (c.toNat / 2 ^ r) &&& 1 = m
  by_cases hm : m = 1
  · subst hm; rfl
  · rw [beq_eq_false_iff_ne.2 hm, beq_eq_false_iff_ne.2 (by omega)]
set_option maxRecDepth 100000 in
theorem bitHas_any (b : Nat) (n : Int) (l : List UInt8) (i : Nat) (w : World) (h : BS w b n l) (hi : i < 256) :
    Calls Try.prog 95 #[.pointer (some ⟨b, 0, none⟩), .int .i64 (i : Int)] w fun e w' => e = .returned (.bool (hasL l i)) ∧ w = w' := by
  have hl := h.2.2.1
  obtain ⟨q, hq0⟩ : ∃ q, i / 8 = q := ⟨_, rfl⟩
  obtain ⟨r, hr0⟩ : ∃ r, i % 8 = r := ⟨_, rfl⟩
  obtain ⟨c, hc⟩ : ∃ c, l[q]? = some c := ⟨_, List.getElem?_eq_getElem (by omega)⟩
  have hq1 : q < 32 := by omega
  have hr1 : r < 8 := by omega
  have x0 : w.cell? ⟨b, 1 + q, none⟩ = some (.int .u8 (c.toNat : Int)) := by
    have := h.1 (q + 1) (u8v c) (by simp [bsL, hc])
    rwa [show 0 + (q + 1) = 1 + q by omega] at this
  have hbd := c.toNat_lt
  have E := Lib.hid (show hasL l i = (bits .and .u8 ((c.toNat : Int) / 2 ^ r) 1 == 1) by
    rw [bit_test i r c hr0, hasL, hq0, List.getD, hc]; rfl)
  clear h hl hc
  go_enter Try.func95, Try.ntmps95
  go_wp2_with fail
  go_ret
  exact ⟨ret_bool E.out.symm, rfl⟩
end Go.Proofs.Ytbcdpgjjfllgjaa

namespace Go.Proofs.Ytbcdpgjjfllgjaa
open Go.ChangeShapes Go.WideShapes Go.ChangeAt Go.RowKit Go.Joins Go.Deep
section
variable {H : Type} {enc : TypeId × Value → H} {W : World} {base : Nat}
end
end Go.Proofs.Ytbcdpgjjfllgjaa

namespace Go.Proofs.Ytbcdpgjjfllgjaa
open Go.RowKit

/-- The two cells of a filter at the head of block B. -/
def At2 (w : World) (B : Nat) (x y : Value) : Prop := w.cell? ⟨B, 0, none⟩ = some x ∧ w.cell? ⟨B, 1, none⟩ = some y
theorem At2.keep {w w' : World} {B : Nat} {x y : Value} (h : At2 w B x y) (hb : Below w.heap.size w w') (hB : B < w.heap.size) : At2 w' B x y :=
  ⟨(hb.cell (p := ⟨B, 0, none⟩) hB).trans h.1, (hb.cell (p := ⟨B, 1, none⟩) hB).trans h.2⟩
theorem At2.new (w : World) (x y : Value) (t : TypeId) : At2 (w.alloc (.cells #[x, y] t)) w.heap.size x y := by
  simp [At2, go_sem]

end Go.Proofs.Ytbcdpgjjfllgjaa

namespace Go.Proofs.Ytbcdpgjjfllgjaa
open Go.RowKit
/-- A variable of type impl.Filter in block b that may be written. -/
def FV (w : World) (b : Nat) : Prop := w.there b 0 2 ∧ b < w.heap.size
theorem FV.below {w w' : World} {B b : Nat} (h : FV w b) (hb : Below B w w') (hB : b < B) : FV w' b :=
  ⟨fun j hj => ⟨by rw [hb.cell (p := ⟨b, 0 + j, none⟩) hB]; exact (h.1 j hj).1, by rw [hb.frozen (p := ⟨b, 0 + j, none⟩) hB]; exact (h.1 j hj).2⟩, Nat.lt_of_lt_of_le h.2 hb.size⟩
theorem FV.new (w : World) (n : Int) (x : ByteArray) (t : TypeId) : FV (w.alloc (.cells #[.int .i64 n, .string x] t)) w.heap.size := by
  refine ⟨fun j hj => ?_, by simp⟩
  rcases (show j = 0 ∨ j = 1 by omega) with rfl | rfl <;> simp [go_sem]
/-- A filter is stored into such a variable. -/
theorem wpList_store_fil {ops : Array Oper} {rest : List Oper} {op : Oper} {a : Act} {w : World} {Q : Exit → Act → World → Prop} (hgd : op.guard = none) (x y : Operand) (ho : op.op = .store 44 x y)
    (b : Nat) (n : Int) (s : ByteArray) (hx : a.eval x = .pointer (some ⟨b, 0, none⟩)) (hy : a.eval y = .agg #[.int .i64 n, .string s]) (hN : FV w b)
    (h : ∀ w', w'.rangeAt b 0 [.int .i64 n, .string s] → (∀ B W, B ≤ b → Below B W w → Below B W w') → wpList Try.prog ops Q rest (a.put op.dst undef) w') : wpList Try.prog ops Q (op :: rest) a w :=
  wpList_store_mid hgd 44 x y ho b 0 #[.int .i64 n, .string s] hx hy hN.1 (by kernel_rfl) (by simp [Value.oneCell'])
    (h _ (World.rangeAt_setCells_same _ _ _ _ hN.1) fun _ _ hB hb => below_setCells hB _ _ _ hb)
/-- A set of bits is stored into a variable that holds one. -/
theorem wpList_store_bits {ops : Array Oper} {rest : List Oper} {op : Oper} {a : Act} {w : World} {Q : Exit → Act → World → Prop} (hgd : op.guard = none) (x y : Operand) (ho : op.op = .store 82 x y)
    (b : Nat) (n : Int) (l : List UInt8) (hx : a.eval x = .pointer (some ⟨b, 0, none⟩)) (hy : a.eval y = .agg (bsL n l).toArray) (n0 : Int) (l0 : List UInt8) (r : BS w b n0 l0) (hl : l.length = 32)
    (h : ∀ w', BS w' b n l → (∀ B W, B ≤ b → Below B W w → Below B W w') → wpList Try.prog ops Q rest (a.put op.dst undef) w') : wpList Try.prog ops Q (op :: rest) a w :=
  wpList_store_mid hgd 82 x y ho b 0 (bsL n l).toArray hx hy (by simpa [bsL_length, hl] using r.2.1) (info74l n l hl) (allOne n l)
    (h _ (r.put_all hl) fun _ _ hB hb => below_setCells hB _ _ _ hb)
theorem load_fil {w : World} {b : Nat} {n : Int} {s : ByteArray} (h : w.rangeAt b 0 [.int .i64 n, .string s]) : (loadVar 44 ⟨b, 0, none⟩).run Try.prog w = .ok (.agg #[.int .i64 n, .string s]) w :=
  run_loadVar_mid (P := Try.prog) w b 0 44 [.int .i64 n, .string s] _ h Try.underlying44 rfl (by kernel_rfl)
def bothB (n : Int) (x : ByteArray) (n2 : Int) (x2 : ByteArray) : Bool := filB n x && filB n2 x2 && n == n2
def noFil : Value := .agg #[.int .i64 0, .string ⟨#[]⟩]
def bothV (n : Int) (x : ByteArray) (n2 : Int) (x2 : ByteArray) : Value := if bothB n x n2 x2 then .tuple #[.agg #[.int .i64 n, .string (bytesOf n (orBytes 32 (padL x) (padL x2)))], .bool true] else .tuple #[noFil, .bool false]
theorem ret_val {a b : Value} (h : a = b) : Ending.returned a = .returned b := by rw [h]
theorem filB_facts {n : Int} {x : ByteArray} (h : filB n x = true) : 8 ≤ n ∧ n ≤ 256 ∧ x.size ≤ 32 := by
  have := of_decide_eq_true h
  omega
end Go.Proofs.Ytbcdpgjjfllgjaa

namespace Go.Proofs.Ytbcdpgjjfllgjaa
open Go.RowKit
section
variable {v W W' : World} {C : World → Prop}
theorem keepStart (hC : ∀ W, Below v.heap.size v W → C W) : C v.drew ∧ Below v.heap.size v v.drew := ⟨hC _ (Below.refl _ _).drew, (Below.refl _ _).drew⟩
theorem keepCall (hC : ∀ W, Below v.heap.size v W → C W) (H : Below W.heap.size W W') (G : C W ∧ Below v.heap.size v W) : C W' ∧ Below v.heap.size v W' := ⟨hC _ (G.2.trans (H.mono G.2.size)), G.2.trans (H.mono G.2.size)⟩
theorem keepBelow (_hC : ∀ W, Below v.heap.size v W → C W) (G : C W ∧ Below v.heap.size v W) : Below v.heap.size v W := G.2
theorem keepSize (_hC : ∀ W, Below v.heap.size v W → C W) (H : Below W.heap.size W W') (G : C W ∧ Below v.heap.size v W) : v.heap.size ≤ W'.heap.size := Nat.le_trans G.2.size H.size
theorem keepAlloc {o : Obj} (hC : ∀ W, Below v.heap.size v W → C W) (G : C W ∧ Below v.heap.size v W) : C (W.alloc o) ∧ Below v.heap.size v (W.alloc o) := ⟨hC _ (G.2.alloc G.2.size _), G.2.alloc G.2.size _⟩
theorem keepSwap {o o' : Obj} (hC : ∀ W, Below v.heap.size v W → C W) (hw : v.heap.size ≤ W.heap.size) (G : C (W.alloc o) ∧ Below v.heap.size v (W.alloc o)) : C (W.alloc o') ∧ Below v.heap.size v (W.alloc o') := by
  have h1 : Below W.heap.size (W.alloc o) (W.alloc o') := ⟨rfl, rfl, rfl, by simp, fun k hk => by rw [Below.heap_alloc _ _ _ hk, Below.heap_alloc _ _ _ hk]⟩
  have h2 := G.2.trans (h1.mono hw)
  exact ⟨hC _ h2, h2⟩
/-- A new variable of type impl.Filter in block p, behind all that was there. -/
def FN (v W : World) (p : Nat) : Prop := W.cell? ⟨p, 0, none⟩ = some (.int .i64 0) ∧ W.cell? ⟨p, 1, none⟩ = some (.string ⟨#[]⟩) ∧ W.frozen? ⟨p, 0, none⟩ = false ∧ W.frozen? ⟨p, 1, none⟩ = false ∧ p < W.heap.size ∧ v.heap.size ≤ p
theorem FN.new (hw : v.heap.size ≤ W.heap.size) : FN v (W.alloc (.cells #[.int .i64 0, .string ⟨#[]⟩] 44)) W.heap.size := by
  refine ⟨?_, ?_, ?_, ?_, by simp, hw⟩ <;> simp [go_sem]
theorem FN.below {p : Nat} (h : FN v W p) (hb : Below W.heap.size W W') : FN v W' p := by
  obtain ⟨h0, h1, h2, h3, h4, h5⟩ := h
  exact ⟨(hb.cell (p := ⟨p, 0, none⟩) h4).trans h0, (hb.cell (p := ⟨p, 1, none⟩) h4).trans h1, (hb.frozen (p := ⟨p, 0, none⟩) h4).trans h2, (hb.frozen (p := ⟨p, 1, none⟩) h4).trans h3, Nat.lt_of_lt_of_le h4 hb.size, h5⟩
theorem FN.new_below (hw : v.heap.size ≤ W.heap.size) (hb : Below (W.alloc (.cells #[.int .i64 0, .string ⟨#[]⟩] 44)).heap.size (W.alloc (.cells #[.int .i64 0, .string ⟨#[]⟩] 44)) W') : FN v W' W.heap.size := (FN.new hw).below hb
theorem FN.new_first (hb : Below (v.drew.alloc (.cells #[.int .i64 0, .string ⟨#[]⟩] 44)).heap.size (v.drew.alloc (.cells #[.int .i64 0, .string ⟨#[]⟩] 44)) W') : FN v W' v.heap.size := (FN.new (W := v.drew) (Nat.le_refl v.heap.size)).below hb
theorem keepStore {p : Nat} {x y : Value} (hC : ∀ W, Below v.heap.size v W → C W) (A : FN v W p) (G : C W ∧ Below v.heap.size v W) : C ((W.setCell ⟨p, 0, none⟩ x).setCell ⟨p, 1, none⟩ y) ∧ Below v.heap.size v ((W.setCell ⟨p, 0, none⟩ x).setCell ⟨p, 1, none⟩ y) := by
  have hw := A.2.2.2.2.2
  have h2 := (G.2.setCell (p := ⟨p, 0, none⟩) hw x).setCell (p := ⟨p, 1, none⟩) hw y
  exact ⟨hC _ h2, h2⟩
/-- What is known of such a variable behind its store. -/
def Got (v W : World) (p : Nat) (x y : Value) : Prop := At2 W p x y ∧ p < W.heap.size ∧ v.heap.size ≤ p
theorem Got.new {x y : Value} (hw : v.heap.size ≤ W.heap.size) : Got v (W.alloc (.cells #[x, y] 44)) W.heap.size x y := ⟨At2.new _ _ _ _, by simp, hw⟩
theorem Got.store {p : Nat} {x y : Value} (A : FN v W p) : Got v ((W.setCell ⟨p, 0, none⟩ x).setCell ⟨p, 1, none⟩ y) p x y := by
  obtain ⟨h0, h1, h2, h3, h4, h5⟩ := A
  have hr := World.rangeAt_setCells_same W p 0 [x, y] (fun j hj => by
    rcases (show j = 0 ∨ j = 1 by simp at hj; omega) with rfl | rfl
    · exact ⟨by simp [h0], by simpa using h2⟩
    · exact ⟨by simp [h1], by simpa using h3⟩)
  refine ⟨⟨by have := hr 0 x rfl; exact this, by have := hr 1 y rfl; exact this⟩, ?_, h5⟩
  have := size_setCells p [x, y] 0 W
  exact this ▸ h4
theorem Got.below {p : Nat} {x y : Value} (h : Got v W p x y) (hb : Below W.heap.size W W') : Got v W' p x y := ⟨h.1.keep hb h.2.1, Nat.lt_of_lt_of_le h.2.1 hb.size, h.2.2⟩
/-- A region, by what stands behind it. -/
theorem region_via {P : Program} {id : Nat} {ops : Array Oper} {b : Bool} {Q : Exit → Act → World → Prop} {a : Act} (T : Act → World → Prop) (h : (Code.region id ops b).wp P (fun e a w => e = .normal ∧ T a w) a W)
    (hr : ∀ a w, T a w → Q .normal a w) : (Code.region id ops b).wp P Q a W := Code.wp_mono (fun _ a w ⟨he, h⟩ => he ▸ hr a w h) h
end
end Go.Proofs.Ytbcdpgjjfllgjaa

namespace Go.Proofs.Ytbcdpgjjfllgjaa
open Go.RowKit

def fstep (h : Int) (c : UInt8) : Int := bits .xor .u32 h ((c.toNat : Int) % 4294967296) * 16777619 % 4294967296
def fnv (l : List UInt8) : Int := l.foldl fstep 2166136261
theorem fnv_nil : fnv [] = 2166136261 := rfl
theorem fnv_snoc (l : List UInt8) (c : UInt8) : fnv (l ++ [c]) = fstep (fnv l) c := by simp [fnv]
theorem fnv_bd (l : List UInt8) : 0 ≤ fnv l ∧ fnv l < 4294967296 := by
  rcases List.eq_nil_or_concat l with rfl | ⟨l', c, rfl⟩
  · rw [fnv_nil]; omega
  · rw [List.concat_eq_append, fnv_snoc]; unfold fstep; omega
theorem take_snoc (s : ByteArray) (k : Nat) (h : k < s.size) : s.data.toList.take (k + 1) = s.data.toList.take k ++ [s[k]] := by
  rw [List.take_succ_eq_append_getElem (by simpa using h)]; rfl
theorem take_all (s : ByteArray) (k : Nat) (h : s.size ≤ k) : s.data.toList.take k = s.data.toList :=
  List.take_of_length_le (by simpa using h)
theorem fnv_take (s : ByteArray) (k : Nat) (h : k < s.size) : fnv (s.data.toList.take (k + 1)) = bits .xor .u32 (fnv (s.data.toList.take k)) ((s[k].toNat : Int) % 4294967296) * 16777619 % 4294967296 := by
  rw [take_snoc s k h, fnv_snoc]; rfl

set_option maxRecDepth 100000 in
set_option maxHeartbeats 400000 in
theorem fnvOf_any (s : ByteArray) (w : World) (hs : s.size ≤ maxLen) :
    Calls Try.prog 99 #[.string s] w fun e w' => e = .returned (.int .u32 (fnv s.data.toList)) ∧ w = w' := by
  unfold maxLen at hs
  go_enter Try.func99, Try.ntmps99
  go_wp2
  go_loop [3, 7] (fun h i => ∃ k : Nat, k ≤ s.size ∧ i = .int .i64 k ∧ h = .int .u32 (fnv (s.data.toList.take k))) (fun _ i => s.size - (intOf i).toNat)
  case atStart => exact ⟨0, Nat.zero_le _, rfl, rfl⟩
  case round =>
    obtain ⟨k, hk, rfl, rfl⟩ := hrel
    have hz := fnv_bd (s.data.toList.take k)
    by_cases hlt : k < s.size
    · have H := Lib.hid (fnv_take s k hlt)
      generalize fnv (s.data.toList.take k) = z at *
      obtain ⟨hz0, hz1⟩ := hz
      go_wp2
      go_round
      case rel => exact ⟨k + 1, by omega, by go_num, by rw [H.out]⟩
      case measure => simp [intOf]; omega
    · have H := Lib.hid (congrArg fnv (take_all s k (by omega)))
      generalize fnv (s.data.toList.take k) = z at *
      go_wp2
      go_ret
      exact ⟨ret_int H.out, rfl⟩

set_option maxRecDepth 100000 in
set_option maxHeartbeats 400000 in
theorem l2Hash_any (s : ByteArray) (w : World) (hs : s.size ≤ maxLen) :
    Calls Try.prog 116 #[.string s] w fun e w' => e = .returned (.int .i64 (fnv s.data.toList)) ∧ w = w' := by
  unfold maxLen at hs
  go_enter Try.func116, Try.ntmps116
  go_wp2
  go_loop [3, 4] (fun h i => ∃ k : Nat, k ≤ s.size ∧ i = .int .i64 k ∧ h = .int .u32 (fnv (s.data.toList.take k))) (fun _ i => s.size - (intOf i).toNat)
  case atStart => exact ⟨0, Nat.zero_le _, rfl, rfl⟩
  case round =>
    obtain ⟨k, hk, rfl, rfl⟩ := hrel
    have hz := fnv_bd (s.data.toList.take k)
    by_cases hlt : k < s.size
    · have H := Lib.hid (fnv_take s k hlt)
      generalize fnv (s.data.toList.take k) = z at *
      obtain ⟨hz0, hz1⟩ := hz
      go_wp2
      go_round
      case rel => exact ⟨k + 1, by omega, by go_num, by rw [H.out]⟩
      case measure => simp [intOf]; omega
    · have H := Lib.hid (congrArg fnv (take_all s k (by omega)))
      generalize fnv (s.data.toList.take k) = z at *
      obtain ⟨hz0, hz1⟩ := hz
      go_wp2
      go_ret
      exact ⟨ret_int H.out, rfl⟩

end Go.Proofs.Ytbcdpgjjfllgjaa

namespace Go.Proofs.Ytbcdpgjjfllgjaa
open Go.RowKit
/-- The bytes that are hashed for the bit number k of a key. -/
def keyB (k : Nat) (s : ByteArray) : ByteArray := ⟨#[UInt8.ofNat k]⟩ ++ s
def place (n : Int) (s : ByteArray) (k : Nat) : Int := fnv (keyB k s).data.toList % n
/-- A row of three numbers in block b. -/
def A3 (w : World) (b : Nat) (l : List Int) : Prop := w.rangeAt b 0 (l.map (Value.int .i64)) ∧ w.there b 0 3 ∧ b < w.heap.size ∧ l.length = 3
theorem A3.below {w w' : World} {B b : Nat} {l : List Int} (h : A3 w b l) (hb : Below B w w') (hB : b < B) : A3 w' b l :=
  ⟨fun j v hv => (hb.cell (p := ⟨b, 0 + j, none⟩) hB).trans (h.1 j v hv), fun j hj => ⟨by rw [hb.cell (p := ⟨b, 0 + j, none⟩) hB]; exact (h.2.1 j hj).1, by rw [hb.frozen (p := ⟨b, 0 + j, none⟩) hB]; exact (h.2.1 j hj).2⟩, Nat.lt_of_lt_of_le h.2.2.1 hb.size, h.2.2.2⟩
theorem A3.new (w : World) (t : TypeId) : A3 (w.alloc (.cells #[.int .i64 0, .int .i64 0, .int .i64 0] t)) w.heap.size [0, 0, 0] := by
  refine ⟨fun j v hv => ?_, fun j hj => ?_, by simp, rfl⟩
  · rcases j with _ | _ | _ | j <;> simp at hv <;> subst hv <;> simp [go_sem]
  · rcases (show j = 0 ∨ j = 1 ∨ j = 2 by omega) with rfl | rfl | rfl <;> simp [go_sem]
theorem A3.set {w : World} {b : Nat} {l : List Int} (h : A3 w b l) (i : Nat) (x : Int) (hi : i < 3) : A3 (w.setCell ⟨b, i, none⟩ (.int .i64 x)) b (l.set i x) := by
  have hl := h.2.2.2
  refine ⟨?_, World.there_setCells h.2.1 b i [.int .i64 x], ?_, by simpa using hl⟩
  · have := rangeAt_splice (o := i) (vs := [.int .i64 x]) h.1 (by simpa [hl] using h.2.1) (by simp; omega)
    simp only [List.length_cons, List.length_nil, Nat.zero_add] at this
    rw [List.map_set, List.set_eq_take_append_cons_drop, if_pos (by simp; omega)]
    exact this
  · have := size_setCells b [.int .i64 x] i w
    exact this ▸ h.2.2.1
theorem A3.cell {w : World} {b : Nat} {l : List Int} (h : A3 w b l) (i : Nat) (x : Int) (hx : l[i]? = some x) : w.cell? ⟨b, i, none⟩ = some (.int .i64 x) := by
  have := h.1 i (.int .i64 x) (by simp [hx])
  rwa [Nat.zero_add] at this
theorem A3.frozen {w : World} {b : Nat} {l : List Int} (h : A3 w b l) (i : Nat) (hi : i < 3) : w.frozen? ⟨b, i, none⟩ = false := by
  simpa using (h.2.1 i hi).2
theorem conv_one (W : World) (g : Nat) (c : UInt8) (n : Int) (hn : (c.toNat : Int) = n) (h : W.cell? ⟨g, 0, none⟩ = some (.int .u8 n)) :
    (convert 34 9 (.slice (some ⟨g, 0, none⟩) 1 1)).run Try.prog W = .ok (.string ⟨#[c]⟩) W :=
  run_convert_bytes_back (P := Try.prog) W 34 9 5 ⟨g, 0, none⟩ 1 [c] Try.underlying34 Try.underlying5 Try.underlying9 (fun j hj => by
    obtain rfl : j = 0 := by simpa using hj
    rw [show (⟨g, 0, none⟩ : Addr).add 0 = ⟨g, 0, none⟩ from rfl, h]
    exact congrArg (fun n => some (Value.int .u8 n)) hn.symm)
def placesL (n : Int) (s : ByteArray) (k : Nat) : List Int := ([place n s 0, place n s 1, place n s 2].take k) ++ List.replicate (3 - k) 0
theorem placesL_set (n : Int) (s : ByteArray) (k : Nat) (hk : k < 3) : (placesL n s k).set k (place n s k) = placesL n s (k + 1) := by
  rcases (show k = 0 ∨ k = 1 ∨ k = 2 by omega) with rfl | rfl | rfl <;> rfl
theorem placesL_get (n : Int) (s : ByteArray) (k : Nat) (hk : k < 3) : (placesL n s k)[k]? = some 0 := by
  rcases (show k = 0 ∨ k = 1 ∨ k = 2 by omega) with rfl | rfl | rfl <;> rfl
theorem keyB_size (k : Nat) (s : ByteArray) : (keyB k s).size = 1 + s.size := by
  unfold keyB; rw [ByteArray.size_append]; rfl
set_option maxRecDepth 100000 in
set_option maxHeartbeats 2000000 in
theorem places_any (b : Nat) (n : Int) (l : List UInt8) (s : ByteArray) (w : World) (h : BS w b n l) (h0 : 8 ≤ n) (h1 : n ≤ 256) (hs : s.size ≤ 12) :
    Calls Try.prog 94 #[.pointer (some ⟨b, 0, none⟩), .string s] w fun e w' => e = .returned (.agg #[.int .i64 (place n s 0), .int .i64 (place n s 1), .int .i64 (place n s 2)]) ∧ Below w.heap.size w w' := by
  have hlt := h.2.2.2
  have c0 : w.cell? ⟨b, 0, none⟩ = some (.int .i64 n) := h.1 0 _ rfl
  have hb := bl2 w (.cells #[.int .i64 0, .int .i64 0, .int .i64 0] 118) (.cells #[.int .i64 0, .int .i64 0, .int .i64 0] 118)
  have r4 := (A3.new w 118).below (bl1 _ (.cells #[.int .i64 0, .int .i64 0, .int .i64 0] 118)) (by simp)
  have r5 := A3.new (w.alloc (.cells #[.int .i64 0, .int .i64 0, .int .i64 0] 118)) 118
  simp only [World.size_alloc] at r5
  clear h
  go_enter Try.func94, Try.ntmps94
  go_wp2_with fail
  generalize (w.alloc (.cells #[.int .i64 0, .int .i64 0, .int .i64 0] 118)).alloc (.cells #[.int .i64 0, .int .i64 0, .int .i64 0] 118) = w1 at *
  go_loopw [7] (fun i wr => ∃ k : Nat, k ≤ 3 ∧ i = .int .i64 k ∧ Below w.heap.size w wr ∧ A3 wr w.heap.size [0, 0, 0] ∧ A3 wr (w.heap.size + 1) (placesL n s k)) (fun i _ => 3 - (intOf i).toNat)
  case atStart => exact ⟨0, by omega, rfl, hb, r4, r5⟩
  case round =>
    obtain ⟨k, hk, rfl, hbr, q4, q5⟩ := hrel
    clear hb r4 r5
    by_cases hk3 : k < 3
    · have x0 := (hbr.cell (p := ⟨b, 0, none⟩) hlt).trans c0
      have y0 := q5.cell k 0 (placesL_get n s k hk3)
      have f0 := q5.frozen k hk3
      have hB := q5.2.2.1
      have hC := Lib.hid (show ∀ w', Below wr.heap.size wr w' → w'.cell? ⟨b, 0, none⟩ = some (.int .i64 n) ∧ w'.cell? ⟨w.heap.size + 1, k, none⟩ = some (.int .i64 0) ∧ w'.frozen? ⟨w.heap.size + 1, k, none⟩ = false from fun w' h => ⟨(h.cell (p := ⟨b, 0, none⟩) (Nat.lt_of_lt_of_le hlt hbr.size)).trans x0, (h.cell (p := ⟨w.heap.size + 1, k, none⟩) hB).trans y0, (h.frozen (p := ⟨w.heap.size + 1, k, none⟩) hB).trans f0⟩)
      have hlt2 : b < wr.heap.size := Nat.lt_of_lt_of_le hlt hbr.size
      have hsz := keyB_size k s
      have hfn := fnv_bd (keyB k s).data.toList
      have hw : IntKind.u8.wrap (k : Int) = (k : Int) := by
        have : IntKind.u8.wrap (k : Int) = (k : Int) % 256 := rfl
        rw [this]; omega
      have hkc : ((UInt8.ofNat k).toNat : Int) = (k : Int) := by rw [UInt8.toNat_ofNat']; omega
      have hP : (⟨#[UInt8.ofNat k]⟩ : ByteArray) ++ s = keyB k s := rfl
      have Q4 := Lib.hid q4
      have Q5 := Lib.hid q5
      have HR := Lib.hid hbr
      have Z := Lib.hid (show Below w.heap.size w ((wr.setCell ⟨w.heap.size + 1, k, none⟩ (.int .i64 (fnv (keyB k s).data.toList % n))).alloc (.cells #[.int .u8 (k : Int)] 5)).drew ∧ A3 ((wr.setCell ⟨w.heap.size + 1, k, none⟩ (.int .i64 (fnv (keyB k s).data.toList % n))).alloc (.cells #[.int .u8 (k : Int)] 5)).drew w.heap.size [0, 0, 0] ∧ A3 ((wr.setCell ⟨w.heap.size + 1, k, none⟩ (.int .i64 (fnv (keyB k s).data.toList % n))).alloc (.cells #[.int .u8 (k : Int)] 5)).drew (w.heap.size + 1) (placesL n s (k + 1)) by
        have e : fnv (keyB k s).data.toList % n = place n s k := rfl
        rw [e]
        have a1 := q5.set k (place n s k) hk3
        rw [placesL_set n s k hk3] at a1
        have g0 : Below (w.heap.size + 1) wr (wr.setCell ⟨w.heap.size + 1, k, none⟩ (.int .i64 (place n s k))) := (Below.refl (w.heap.size + 1) wr).setCell (p := ⟨w.heap.size + 1, k, none⟩) (Nat.le_refl _) _
        have a2 := q4.below g0 (Nat.lt_succ_self _)
        have g1 := bl1 (wr.setCell ⟨w.heap.size + 1, k, none⟩ (.int .i64 (place n s k))) (.cells #[.int .u8 (k : Int)] 5)
        exact ⟨((hbr.trans (g0.mono (Nat.le_succ _))).trans (g1.mono (Nat.le_trans hbr.size g0.size))).drew, a2.below g1.drew a2.2.2.1, a1.below g1.drew a1.2.2.1⟩)
      clear q4 q5 hbr
      go_wp2_with fail
      go_region_with (first
          | (go_at_call 99; refine (fnvOf_any (keyB k s) _ (by unfold maxLen; omega)).mono ?_; rintro e w' ⟨rfl, rfl⟩)
          | (rw [conv_one _ _ (UInt8.ofNat k) (k : Int) hkc (by simp [go_sem])]))
      all_goals
        generalize ((wr.setCell ⟨w.heap.size + 1, k, none⟩ (.int .i64 (fnv (keyB k s).data.toList % n))).alloc (.cells #[.int .u8 (k : Int)] 5)).drew = w5 at *
        clear x0 y0 f0
        go_wp2_with fail
        go_roundw
        case rel => exact ⟨k + 1, by omega, by go_num, Z.out.1, Z.out.2.1, Z.out.2.2⟩
        case measure => simp [intOf]; omega
    · obtain rfl : k = 3 := by omega
      have e : placesL n s 3 = [place n s 0, place n s 1, place n s 2] := rfl
      rw [e] at q5
      have y0 := q5.cell 0 _ rfl
      have y1 := q5.cell 1 _ rfl
      have y2 := q5.cell 2 _ rfl
      have i3 : (Try.prog.info? 118).map (·.size) = some 3 := by kernel_rfl
      have E := Lib.hid (show (#[Value.int .i64 (place n s 0), .int .i64 (place n s 1), .int .i64 (place n s 2)] : Array Value) = #[Value.int .i64 (place n s 0), .int .i64 (place n s 1), .int .i64 (place n s 2)] from rfl)
      obtain ⟨p0, e0⟩ : ∃ p, p = place n s 0 := ⟨_, rfl⟩
      obtain ⟨p1, e1⟩ : ∃ p, p = place n s 1 := ⟨_, rfl⟩
      obtain ⟨p2, e2⟩ : ∃ p, p = place n s 2 := ⟨_, rfl⟩
      rw [← e0] at y0
      rw [← e1] at y1
      rw [← e2] at y2
      replace E := Lib.hid (show (#[Value.int .i64 p0, .int .i64 p1, .int .i64 p2] : Array Value) = #[Value.int .i64 (place n s 0), .int .i64 (place n s 1), .int .i64 (place n s 2)] by rw [e0, e1, e2])
      clear e0 e1 e2 q5 e
      go_wp2_with (refine wpList_store_mid rfl 118 _ _ rfl w.heap.size 0 #[.int .i64 p0, .int .i64 p1, .int .i64 p2] ?_ ?_ q4.2.1 i3 (by simp [Value.oneCell']) (stop ?_))
      · rfl
      · rfl
      have hR := World.rangeAt_setCells_same wr w.heap.size 0 [.int .i64 p0, .int .i64 p1, .int .i64 p2] q4.2.1
      have hB2 := below_setCells (B := w.heap.size) (b := w.heap.size) (Nat.le_refl _) [.int .i64 p0, .int .i64 p1, .int .i64 p2] 0 _ hbr
      refine unstop ?_
      change wpList _ _ _ _ _ (wr.setCells w.heap.size 0 [.int .i64 p0, .int .i64 p1, .int .i64 p2])
      generalize wr.setCells w.heap.size 0 [.int .i64 p0, .int .i64 p1, .int .i64 p2] = w5 at *
      have hld := run_loadVar_mid (P := Try.prog) w5 w.heap.size 0 118 [.int .i64 p0, .int .i64 p1, .int .i64 p2] _ hR Try.underlying118 rfl i3
      go_wp2_with fail
      refine bodyPost_ret (v := .agg #[.int .i64 p0, .int .i64 p1, .int .i64 p2]) ?_ rfl ⟨by rw [E.out], hB2⟩
      simp [results, Try.results94, asAddr, hld]
end Go.Proofs.Ytbcdpgjjfllgjaa

namespace Go.Proofs.Ytbcdpgjjfllgjaa
open Go.RowKit
def plN (n : Int) (s : ByteArray) (k : Nat) : Nat := (place n s k).toNat
theorem place_bd (n : Int) (s : ByteArray) (k : Nat) (h0 : 8 ≤ n) : place n s k = (plN n s k : Int) ∧ (plN n s k : Int) < n := by
  have h1 := Int.emod_nonneg (fnv (keyB k s).data.toList) (show n ≠ 0 by omega)
  have h2 := Int.emod_lt_of_pos (fnv (keyB k s).data.toList) (show 0 < n by omega)
  have : plN n s k = (place n s k).toNat := rfl
  have : place n s k = fnv (keyB k s).data.toList % n := rfl
  omega
/-- The bits of a key, set. -/
def addL (n : Int) (s : ByteArray) (l : List UInt8) : List UInt8 := setL (setL (setL l (plN n s 0)) (plN n s 1)) (plN n s 2)
def hasK (n : Int) (s : ByteArray) (l : List UInt8) : Bool := hasL l (plN n s 0) && hasL l (plN n s 1) && hasL l (plN n s 2)
def addTo (a0 a1 a2 k : Nat) (l : List UInt8) : List UInt8 := ([a0, a1, a2].take k).foldl setL l
theorem int_agg (a b c : Int) (a' b' c' : Int) (h0 : a = a') (h1 : b = b') (h2 : c = c') : Ending.returned (.agg #[.int .i64 a, .int .i64 b, .int .i64 c]) = .returned (.agg #[.int .i64 a', .int .i64 b', .int .i64 c']) := by rw [h0, h1, h2]
theorem places_nat (b : Nat) (n : Int) (l : List UInt8) (s : ByteArray) (w : World) (h : BS w b n l) (h0 : 8 ≤ n) (h1 : n ≤ 256) (hs : s.size ≤ 12) (a0 a1 a2 : Nat) (e0 : plN n s 0 = a0) (e1 : plN n s 1 = a1) (e2 : plN n s 2 = a2) :
    Calls Try.prog 94 #[.pointer (some ⟨b, 0, none⟩), .string s] w fun e w' => e = .returned (.agg #[.int .i64 (a0 : Int), .int .i64 (a1 : Int), .int .i64 (a2 : Int)]) ∧ Below w.heap.size w w' :=
  (places_any b n l s w h h0 h1 hs).mono fun e w' ⟨he, hb⟩ => ⟨he.trans (int_agg _ _ _ _ _ _ (by rw [← e0]; exact (place_bd n s 0 h0).1) (by rw [← e1]; exact (place_bd n s 1 h0).1) (by rw [← e2]; exact (place_bd n s 2 h0).1)), hb⟩
theorem addTo_succ (a0 a1 a2 k x : Nat) (l : List UInt8) (hx : [a0, a1, a2][k]? = some x) : addTo a0 a1 a2 (k + 1) l = setL (addTo a0 a1 a2 k l) x := by
  unfold addTo
  obtain ⟨h, rfl⟩ := List.getElem?_eq_some_iff.1 hx
  rw [List.take_succ_eq_append_getElem h, List.foldl_append]; rfl
set_option maxRecDepth 100000 in
theorem index3 (a0 a1 a2 k x : Nat) (hx : [a0, a1, a2][k]? = some x) (W : World) : (Instr.index 118 (.agg #[.int .i64 (a0 : Int), .int .i64 (a1 : Int), .int .i64 (a2 : Int)]) (.int .i64 (k : Int))).run Try.prog W = .ok (.int .i64 (x : Int)) W := by
  have hk := (List.getElem?_eq_some_iff.1 hx).1
  rcases (show k = 0 ∨ k = 1 ∨ k = 2 by simp at hk; omega) with rfl | rfl | rfl <;> simp at hx <;> subst hx <;> simp [Instr.index, go_sem]
theorem pick3 (a0 a1 a2 k : Nat) (hk : k < 3) (n : Int) (b0 : (a0 : Int) < n) (b1 : (a1 : Int) < n) (b2 : (a2 : Int) < n) : ∃ x, [a0, a1, a2][k]? = some x ∧ (x : Int) < n := by
  rcases (show k = 0 ∨ k = 1 ∨ k = 2 by omega) with rfl | rfl | rfl
  · exact ⟨a0, rfl, b0⟩
  · exact ⟨a1, rfl, b1⟩
  · exact ⟨a2, rfl, b2⟩
set_option maxRecDepth 100000 in
theorem bitAdd_any (b : Nat) (n : Int) (l : List UInt8) (s : ByteArray) (w : World) (h : BS w b n l) (h0 : 8 ≤ n) (h1 : n ≤ 256) (hs : s.size ≤ 12) :
    Calls Try.prog 68 #[.pointer (some ⟨b, 0, none⟩), .string s] w fun e w' => e = .returned (.tuple #[]) ∧ Below b w w' ∧ BS w' b n (addL n s l) := by
  have b0 := (place_bd n s 0 h0).2
  have b1 := (place_bd n s 1 h0).2
  have b2 := (place_bd n s 2 h0).2
  have E : Hid (addL n s l = addTo (plN n s 0) (plN n s 1) (plN n s 2) 3 l) := Lib.hid rfl
  obtain ⟨a0, e0⟩ : ∃ a, plN n s 0 = a := ⟨_, rfl⟩
  obtain ⟨a1, e1⟩ : ∃ a, plN n s 1 = a := ⟨_, rfl⟩
  obtain ⟨a2, e2⟩ : ∃ a, plN n s 2 = a := ⟨_, rfl⟩
  have C := places_nat b n l s w h h0 h1 hs a0 a1 a2 e0 e1 e2
  rw [e0] at b0
  rw [e1] at b1
  rw [e2] at b2
  rw [e0, e1, e2] at E
  clear e0 e1 e2
  go_enter Try.func68, Try.ntmps68
  go_wp2_with fail
  refine C.mono ?_
  clear C
  rintro e w1 ⟨rfl, hb1⟩
  have hlt0 := h.2.2.2
  replace h := h.below hb1 hlt0
  have hbb : Below b w w1 := hb1.mono (Nat.le_of_lt hlt0)
  go_wp2_with fail
  go_loopw [9] (fun i wr => ∃ k : Nat, k ≤ 3 ∧ i = .int .i64 k ∧ Below b w wr ∧ BS wr b n (addTo a0 a1 a2 k l)) (fun i _ => 3 - (intOf i).toNat)
  case atStart => exact ⟨0, by omega, rfl, hbb, h⟩
  case round =>
    obtain ⟨k, hk, rfl, hbr, hr⟩ := hrel
    clear h hbb hb1
    by_cases hk3 : k < 3
    · obtain ⟨x, hx, hxb⟩ := pick3 a0 a1 a2 k hk3 n b0 b1 b2
      have hix := index3 a0 a1 a2 k x hx
      have A := Lib.hid (addTo_succ a0 a1 a2 k x l hx)
      clear hx
      go_wp2_with fail
      refine (bitSet_any b n _ x _ hr (by omega)).mono ?_
      rintro e w2 ⟨rfl, hb2, r2⟩
      rw [← A.out] at r2
      replace hbr := hbr.trans hb2
      clear hr hb2
      go_wp2_with fail
      go_roundw
      case rel => exact ⟨k + 1, by omega, by go_num, hbr, r2⟩
      case measure => simp [intOf]; omega
    · obtain rfl : k = 3 := by omega
      go_wp2_with fail
      go_end0
      exact ⟨rfl, hbr, by rw [E.out]; exact hr⟩
set_option maxRecDepth 100000 in
theorem bitHasKey_any (b : Nat) (n : Int) (l : List UInt8) (s : ByteArray) (w : World) (h : BS w b n l) (h0 : 8 ≤ n) (h1 : n ≤ 256) (hs : s.size ≤ 12) :
    Calls Try.prog 64 #[.pointer (some ⟨b, 0, none⟩), .string s] w fun e w' => e = .returned (.bool (hasK n s l)) ∧ Below w.heap.size w w' := by
  have b0 := (place_bd n s 0 h0).2
  have b1 := (place_bd n s 1 h0).2
  have b2 := (place_bd n s 2 h0).2
  have E : Hid (hasK n s l = ([plN n s 0, plN n s 1, plN n s 2].all (hasL l))) := Lib.hid (by simp [hasK, Bool.and_assoc])
  obtain ⟨a0, e0⟩ : ∃ a, plN n s 0 = a := ⟨_, rfl⟩
  obtain ⟨a1, e1⟩ : ∃ a, plN n s 1 = a := ⟨_, rfl⟩
  obtain ⟨a2, e2⟩ : ∃ a, plN n s 2 = a := ⟨_, rfl⟩
  have C := places_nat b n l s w h h0 h1 hs a0 a1 a2 e0 e1 e2
  rw [e0] at b0
  rw [e1] at b1
  rw [e2] at b2
  rw [e0, e1, e2] at E
  clear e0 e1 e2
  go_enter Try.func64, Try.ntmps64
  go_wp2_with fail
  refine C.mono ?_
  clear C
  rintro e w1 ⟨rfl, hb1⟩
  replace h := h.below hb1 h.2.2.2
  go_wp2_with fail
  go_loopw [10] (fun i wr => ∃ k : Nat, k ≤ 3 ∧ i = .int .i64 k ∧ w1 = wr ∧ ∀ x ∈ [a0, a1, a2].take k, hasL l x = true) (fun i _ => 3 - (intOf i).toNat)
  case atStart => exact ⟨0, by omega, rfl, rfl, by simp⟩
  case round =>
    obtain ⟨k, hk, rfl, rfl, hall⟩ := hrel
    by_cases hk3 : k < 3
    · obtain ⟨x, hx, hxb⟩ := pick3 a0 a1 a2 k hk3 n b0 b1 b2
      have hix := index3 a0 a1 a2 k x hx
      have HM := Lib.hid (show x ∈ [a0, a1, a2] from List.mem_of_getElem? hx)
      have A := Lib.hid (show hasL l x = true → ∀ y ∈ [a0, a1, a2].take (k + 1), hasL l y = true by
        intro h' y hy
        obtain ⟨hlt, rfl⟩ := List.getElem?_eq_some_iff.1 hx
        rw [List.take_succ_eq_append_getElem hlt] at hy
        rcases List.mem_append.1 hy with h2 | h2
        · exact hall y h2
        · rw [List.mem_singleton.1 h2]; exact h')
      clear hx hall
      go_wp2_with fail
      refine (bitHas_any b n l x _ h (by omega)).mono ?_
      rintro e w2 ⟨rfl, rfl⟩
      cases hv : hasL l x
      · have E2 := Lib.hid (show hasK n s l = false by
          rw [E.out, List.all_eq_false]
          exact ⟨x, HM.out, by simp [hv]⟩)
        go_wp2_with fail
        go_ret
        exact ⟨ret_bool E2.out.symm, hb1⟩
      · go_wp2_with fail
        go_roundw
        case rel => exact ⟨k + 1, by omega, by go_num, trivial, A.out hv⟩
        case measure => simp [intOf]; omega
    · obtain rfl : k = 3 := by omega
      have E2 := Lib.hid (show hasK n s l = true by
        rw [E.out, List.all_eq_true]
        exact hall)
      clear hall
      go_wp2_with fail
      go_ret
      exact ⟨ret_bool E2.out.symm, hb1⟩
end Go.Proofs.Ytbcdpgjjfllgjaa

namespace Go.Proofs.Ytbcdpgjjfllgjaa
open Go.RowKit
/-- A row of bytes in block b. -/
def BY (w : World) (b : Nat) (l : List UInt8) : Prop := w.rangeAt b 0 (l.map u8v) ∧ w.there b 0 l.length ∧ b < w.heap.size
theorem BY.below {w w' : World} {B b : Nat} {l : List UInt8} (h : BY w b l) (hb : Below B w w') (hB : b < B) : BY w' b l :=
  ⟨fun j v hv => (hb.cell (p := ⟨b, 0 + j, none⟩) hB).trans (h.1 j v hv), fun j hj => ⟨by rw [hb.cell (p := ⟨b, 0 + j, none⟩) hB]; exact (h.2.1 j hj).1, by rw [hb.frozen (p := ⟨b, 0 + j, none⟩) hB]; exact (h.2.1 j hj).2⟩, Nat.lt_of_lt_of_le h.2.2 hb.size⟩
theorem BY.set {w : World} {b : Nat} {l : List UInt8} (h : BY w b l) (i : Nat) (c : UInt8) (hi : i < l.length) : BY (w.setCell ⟨b, i, none⟩ (u8v c)) b (l.set i c) := by
  refine ⟨?_, ?_, ?_⟩
  · have := rangeAt_splice (o := i) (vs := [u8v c]) h.1 (by simpa using h.2.1) (by simp; omega)
    simp only [List.length_cons, List.length_nil, Nat.zero_add] at this
    rw [List.map_set, List.set_eq_take_append_cons_drop, if_pos (by simpa using hi)]
    exact this
  · rw [List.length_set]; exact World.there_setCells h.2.1 b i [u8v c]
  · have := size_setCells b [u8v c] i w
    exact this ▸ h.2.2
theorem BY.cell {w : World} {b : Nat} {l : List UInt8} (h : BY w b l) (i : Nat) (c : UInt8) (hc : l[i]? = some c) : w.cell? ⟨b, i, none⟩ = some (.int .u8 (c.toNat : Int)) := by
  have := h.1 i (u8v c) (by simp [hc])
  rwa [Nat.zero_add] at this
theorem BY.frozen {w : World} {b : Nat} {l : List UInt8} (h : BY w b l) (i : Nat) (hi : i < l.length) : w.frozen? ⟨b, i, none⟩ = false := by
  simpa using (h.2.1 i hi).2
theorem BY.text {w : World} {b : Nat} {l : List UInt8} (h : BY w b l) (cap : Nat) : (convert 34 9 (.slice (some ⟨b, 0, none⟩) l.length cap)).run Try.prog w = .ok (.string ⟨l.toArray⟩) w :=
  run_convert_bytes_back (P := Try.prog) w 34 9 5 ⟨b, 0, none⟩ cap l Try.underlying34 Try.underlying5 Try.underlying9 (fun j hj => by
    rw [Addr.add_mid, Nat.zero_add]
    exact h.cell j _ (List.getElem?_eq_getElem hj))
theorem BY.new (w : World) (s : ByteArray) : BY (Lib.bytesWorld w 5 s) w.heap.size s.data.toList ∧ ∀ B W, B ≤ w.heap.size → Below B W w → Below B W (Lib.bytesWorld w 5 s) := by
  have hsz := Lib.bytesWorld_size w 5 s
  have e : s.data.toList.length = s.size := by simp
  refine ⟨⟨fun j v hv => ?_, fun j hj => ⟨?_, ?_⟩, by omega⟩, fun B W hB hb => hb.trans ⟨?_, ?_, ?_, by omega, fun k hk => Lib.bytesWorld_at_old w 5 s k (by omega)⟩⟩
  · rw [List.getElem?_map] at hv
    obtain ⟨c, hc, rfl⟩ := Option.map_eq_some_iff.1 hv
    have hj := (List.getElem?_eq_some_iff.1 hc).1
    rw [Nat.zero_add, Lib.bytesWorld_cell w 5 s j (by omega)]
    simp only [List.getD, hc]; rfl
  · rw [Nat.zero_add, Lib.bytesWorld_cell w 5 s j (by omega)]; rfl
  · simp only [World.frozen?, Lib.bytesWorld_at_new]
    have : j < (Lib.bytesCells w 5 s).size := by simp [Lib.bytesCells]; omega
    simp; omega
  · simp [Lib.bytesWorld, World.freeze]; rfl
  · simp [Lib.bytesWorld, World.freeze]
  · simp [Lib.bytesWorld, World.freeze]; rfl
theorem wpList_bytes {ops : Array Oper} {rest : List Oper} {op : Oper} {a : Act} {w : World} {Q : Exit → Act → World → Prop} (hgd : op.guard = none) (x : Operand) (ho : op.op = .convert 9 34 x)
    (s : ByteArray) (hx : a.eval x = .string s)
    (h : ∀ w' cap, BY w' w.heap.size s.data.toList → (∀ B W, B ≤ w.heap.size → Below B W w → Below B W w') → wpList Try.prog ops Q rest (a.put op.dst (.slice (some ⟨w.heap.size, 0, none⟩) s.size cap)) w') : wpList Try.prog ops Q (op :: rest) a w :=
  wpList_plain hgd fun _ hK => by
    have := Lib.run_convert_string_bytes (P := Try.prog) w 9 34 5 s Try.underlying9 Try.underlying34 Try.underlying5
    obtain ⟨h1, h2⟩ := BY.new w s
    unfold Oper.wp execOp
    simp only [ho, hx, this, Sem.run_bind, Sem.run_pure, Result.andThen_ok]
    exact hK _ _ (h _ _ h1 h2)
end Go.Proofs.Ytbcdpgjjfllgjaa

namespace Go.Proofs.Ytbcdpgjjfllgjaa
open Go.RowKit
theorem l2Hash_still (s : ByteArray) (w : World) (hs : s.size ≤ maxLen) (z : Int) (hz : fnv s.data.toList = z) : Calls Try.prog 116 #[.string s] w fun e w' => e = .returned (.int .i64 z) ∧ w' = w :=
  (l2Hash_any s w hs).mono fun _ _ ⟨he, hw⟩ => ⟨hz ▸ he, hw.symm⟩
theorem A3.new3 (w : World) (a b c : Int) (t : TypeId) : A3 (w.alloc (.cells #[.int .i64 a, .int .i64 b, .int .i64 c] t)) w.heap.size [a, b, c] := by
  refine ⟨fun j v hv => ?_, fun j hj => ?_, by simp, rfl⟩
  · rcases j with _ | _ | _ | j <;> simp at hv <;> subst hv <;> simp [go_sem]
  · rcases (show j = 0 ∨ j = 1 ∨ j = 2 by omega) with rfl | rfl | rfl <;> simp [go_sem]
set_option maxRecDepth 100000 in
theorem l6At_any (n : Int) (x s : ByteArray) (w : World) (h0 : 8 ≤ n) (h1 : n ≤ 256) (hs : s.size ≤ 12) :
    Calls Try.prog 112 #[.agg #[.int .i64 n, .string x], .string s] w fun e w' => ∃ B, e = .returned (.slice (some ⟨B, 0, none⟩) 3 3) ∧ Below w.heap.size w w' ∧ w.heap.size ≤ B ∧ A3 w' B [place n s 0, place n s 1, place n s 2] := by
  have z0 := fnv_bd (keyB 0 s).data.toList
  have z1 := fnv_bd (keyB 1 s).data.toList
  have z2 := fnv_bd (keyB 2 s).data.toList
  have k0 := keyB_size 0 s
  have k1 := keyB_size 1 s
  have k2 := keyB_size 2 s
  have q0 : (⟨#[0]⟩ : ByteArray) ++ s = keyB 0 s := rfl
  have q1 : (⟨#[1]⟩ : ByteArray) ++ s = keyB 1 s := rfl
  have q2 : (⟨#[2]⟩ : ByteArray) ++ s = keyB 2 s := rfl
  have hb := bl1 w (.cells #[.int .i64 n, .string x] 44)
  have c := At2.new w (.int .i64 n) (.string x) 44
  have P := Lib.hid (show [place n s 0, place n s 1, place n s 2] = [fnv (keyB 0 s).data.toList % n, fnv (keyB 1 s).data.toList % n, fnv (keyB 2 s).data.toList % n] from rfl)
  have C0 := fun w => l2Hash_still (keyB 0 s) w (by unfold maxLen; omega)
  have C1 := fun w => l2Hash_still (keyB 1 s) w (by unfold maxLen; omega)
  have C2 := fun w => l2Hash_still (keyB 2 s) w (by unfold maxLen; omega)
  generalize fnv (keyB 0 s).data.toList = f0 at *
  generalize fnv (keyB 1 s).data.toList = f1 at *
  generalize fnv (keyB 2 s).data.toList = f2 at *
  go_enter Try.func112, Try.ntmps112
  go_wp2_with fail
  generalize w.alloc (.cells #[.int .i64 n, .string x] 44) = W at *
  obtain ⟨x0, x1⟩ := c
  have g0 : ¬ 9223372036854775807 < 1 + s.size := by omega
  have hn0 : (n == 0) = false := by simp; omega
  have hn1 : ¬ n = 0 := by omega
  refine wp_region_still_tail 18 (by kernel_rfl) (by kernel_rfl) ?_
  simp only [List.take_succ_cons, List.take_zero, List.drop_succ_cons, List.drop_zero]
  change wpStill _ _ W.drew _ _ _
  repeat still_step
  still_call (C0 _ f0 rfl)
  repeat still_step
  still_call (C1 _ f1 rfl)
  repeat still_step
  still_call (C2 _ f2 rfl)
  repeat still_step
  refine wpStill_nil ?_
  change wpList _ _ _ _ _ W.drew
  go_wp2_with fail
  go_ret
  rw [P.out]
  exact ⟨W.heap.size, rfl, (hb.alloc hb.size _).drew, hb.size, A3.new3 W (f0 % n) (f1 % n) (f2 % n) 2⟩
end Go.Proofs.Ytbcdpgjjfllgjaa

namespace Go.Proofs.Ytbcdpgjjfllgjaa
open Go.RowKit
theorem At2.below {w w' : World} {B b : Nat} {x y : Value} (h : At2 w b x y) (hb : Below B w w') (hB : b < B) : At2 w' b x y :=
  ⟨(hb.cell (p := ⟨b, 0, none⟩) hB).trans h.1, (hb.cell (p := ⟨b, 1, none⟩) hB).trans h.2⟩
def orS (x x2 : ByteArray) : ByteArray := ⟨(orBytes x.size x.data.toList x2.data.toList).toArray⟩
def bothS (n : Int) (x : ByteArray) (n2 : Int) (x2 : ByteArray) : Value := if bothB n x n2 x2 then .tuple #[.agg #[.int .i64 n, .string (orS x x2)], .bool true] else .tuple #[noFil, .bool false]
theorem filB_size {n : Int} {x : ByteArray} (h : filB n x = true) : (x.size : Int) = n / 8 := (of_decide_eq_true h).2.2.2
end Go.Proofs.Ytbcdpgjjfllgjaa

namespace Go.Proofs.Ytbcdpgjjfllgjaa
open Go.RowKit
def addS (n : Int) (s x : ByteArray) : ByteArray := ⟨(addL n s x.data.toList).toArray⟩
theorem setL_length (l : List UInt8) (i : Nat) : (setL l i).length = l.length := by simp [setL]
theorem addTo_length (a0 a1 a2 k : Nat) (l : List UInt8) : (addTo a0 a1 a2 k l).length = l.length := by
  unfold addTo
  generalize [a0, a1, a2].take k = q
  induction q generalizing l with
  | nil => rfl
  | cons a q ih => rw [List.foldl_cons, ih, setL_length]
theorem A3.other {w : World} {B b q : Nat} {l : List Int} {v : Value} (h : A3 w B l) (hne : B ≠ b) : A3 (w.setCell ⟨b, q, none⟩ v) B l :=
  ⟨World.rangeAt_setCells_apart h.1 b q [v] (Or.inl hne), World.there_setCells h.2.1 b q [v], by have := size_setCells b [v] q w; exact this ▸ h.2.2.1, h.2.2.2⟩
set_option maxRecDepth 100000 in
set_option maxHeartbeats 1000000 in
theorem l6Add_any (n : Int) (x s : ByteArray) (w : World) (h0 : 8 ≤ n) (h1 : n ≤ 256) (h8 : n % 8 = 0) (hx : (x.size : Int) = n / 8) (hs : s.size ≤ 12) :
    Calls Try.prog 97 #[.agg #[.int .i64 n, .string x], .string s] w fun e w' => e = .returned (.agg #[.int .i64 n, .string (addS n s x)]) ∧ Below w.heap.size w w' := by
  have b0 := (place_bd n s 0 h0).2
  have b1 := (place_bd n s 1 h0).2
  have b2 := (place_bd n s 2 h0).2
  have e0 := (place_bd n s 0 h0).1
  have e1 := (place_bd n s 1 h0).1
  have e2 := (place_bd n s 2 h0).1
  have E : Hid (addS n s x = ⟨(addTo (plN n s 0) (plN n s 1) (plN n s 2) 3 x.data.toList).toArray⟩) := Lib.hid rfl
  have C := fun w => l6At_any n x s w h0 h1 hs
  rw [e0, e1, e2] at C
  clear e0 e1 e2
  generalize plN n s 0 = a0 at *
  generalize plN n s 1 = a1 at *
  generalize plN n s 2 = a2 at *
  have c := (At2.new w (.int .i64 n) (.string x) 44).keep (bl1 _ (.cells #[.int .i64 0, .string ⟨#[]⟩] 44)) (by simp)
  have hN := FV.new (w.alloc (.cells #[.int .i64 n, .string x] 44)) 0 ⟨#[]⟩ 44
  have hb := bl2 w (.cells #[.int .i64 n, .string x] 44) (.cells #[.int .i64 0, .string ⟨#[]⟩] 44)
  simp only [World.size_alloc] at hN
  go_enter Try.func97, Try.ntmps97
  go_wp2_with (refine wpList_bytes rfl _ rfl x ?_ fun w4 cap r4 hk => stop ?_)
  · rfl
  have hw1 : ((w.alloc (.cells #[.int .i64 n, .string x] 44)).alloc (.cells #[.int .i64 0, .string ⟨#[]⟩] 44)).heap.size = w.heap.size + 1 + 1 := by simp
  generalize (w.alloc (.cells #[.int .i64 n, .string x] 44)).alloc (.cells #[.int .i64 0, .string ⟨#[]⟩] 44) = w1 at *
  have hb1 := hk w1.heap.size w1 (Nat.le_refl _) (Below.refl _ _)
  replace c := c.keep hb1 (by omega)
  replace hN := hN.below hb1 hN.2
  replace hb := hk _ _ hb.size hb
  rw [hw1] at r4
  clear hk hb1 hw1
  refine unstop ?_
  have ⟨y0, y1⟩ := c
  go_wp2_with fail
  refine (C _).mono ?_
  rintro e w5 ⟨B, rfl, hb5, hB5, r5⟩
  have hz := r4.2.2
  replace r4 := r4.below hb5 hz
  replace c := c.keep hb5 (by omega)
  replace hN := hN.below hb5 hN.2
  replace hb := hb.trans (hb5.mono hb.size)
  have hBB : w.heap.size + 1 + 1 < B := by omega
  clear C y0 y1 hb5 hz hB5
  have hsz : x.data.toList.length = x.size := by simp
  go_wp2_with fail
  go_loopw [7] (fun i wr => ∃ k : Nat, k ≤ 3 ∧ i = .int .i64 k ∧ Below w.heap.size w wr ∧ BY wr (w.heap.size + 1 + 1) (addTo a0 a1 a2 k x.data.toList) ∧ A3 wr B [(a0 : Int), (a1 : Int), (a2 : Int)] ∧ At2 wr w.heap.size (.int .i64 n) (.string x) ∧ FV wr (w.heap.size + 1)) (fun i _ => 3 - (intOf i).toNat)
  case atStart => exact ⟨0, by omega, rfl, hb, r4, r5, c, hN⟩
  case round =>
    obtain ⟨k, hk, rfl, hbr, hr, hr5, d, dN⟩ := hrel
    clear hb r4 r5 c hN
    have hl := addTo_length a0 a1 a2 k x.data.toList
    rw [hsz] at hl
    by_cases hk3 : k < 3
    · obtain ⟨i, hi, hib⟩ := pick3 a0 a1 a2 k hk3 n b0 b1 b2
      have x0 := hr5.cell k (i : Int) (by
        have := congrArg (Option.map (fun (z : Nat) => (z : Int))) hi
        simpa [← List.getElem?_map] using this)
      have A := Lib.hid (addTo_succ a0 a1 a2 k i x.data.toList hi)
      obtain ⟨q, hq0⟩ : ∃ q, i / 8 = q := ⟨_, rfl⟩
      obtain ⟨r, hr0⟩ : ∃ r, i % 8 = r := ⟨_, rfl⟩
      have hq1 : q < x.size := by omega
      have hr1 : r < 8 := by omega
      obtain ⟨c, hc⟩ : ∃ c, (addTo a0 a1 a2 k x.data.toList)[q]? = some c := ⟨_, List.getElem?_eq_getElem (by omega)⟩
      have x1 := hr.cell q c hc
      have f1 := hr.frozen q (by omega)
      have hor := bitC_val i r c hr0
      have hBs := hr5.2.2.1
      have R := Lib.hid (show ∀ W, W = (wr.setCell ⟨w.heap.size + 1 + 1, q, none⟩ (.int .u8 ((bitC i c).toNat : Int))).drew → Below w.heap.size w W ∧ BY W (w.heap.size + 1 + 1) (addTo a0 a1 a2 (k + 1) x.data.toList) ∧ A3 W B [(a0 : Int), (a1 : Int), (a2 : Int)] ∧ At2 W w.heap.size (.int .i64 n) (.string x) ∧ FV W (w.heap.size + 1) by
        rintro W rfl
        have s1 := hr.set q (bitC i c) (by omega)
        rw [A.out]
        unfold setL
        rw [hq0, List.getD, hc]
        have g0 : Below (w.heap.size + 1 + 1) wr (wr.setCell ⟨w.heap.size + 1 + 1, q, none⟩ (.int .u8 ((bitC i c).toNat : Int))).drew := ((Below.refl (w.heap.size + 1 + 1) wr).setCell (p := ⟨w.heap.size + 1 + 1, q, none⟩) (Nat.le_refl _) _).drew
        refine ⟨hbr.trans (g0.mono (by omega)), s1, ?_, d.below g0 (by omega), dN.below g0 (by omega)⟩
        exact hr5.other (q := q) (v := .int .u8 ((bitC i c).toNat : Int)) (Nat.ne_of_gt hBB))
      clear hr hr5 hc hi d dN hbr
      go_wp2_with fail
      go_region
      replace R := Lib.hid (R.out _ rfl)
      generalize (wr.setCell ⟨w.heap.size + 1 + 1, q, none⟩ (.int .u8 ((bitC i c).toNat : Int))).drew = w6 at *
      clear x0 x1 f1
      go_wp2_with fail
      go_roundw
      case rel => exact ⟨k + 1, by omega, by go_num, R.out.1, R.out.2.1, R.out.2.2.1, R.out.2.2.2.1, R.out.2.2.2.2⟩
      case measure => simp [intOf]; omega
    · obtain rfl : k = 3 := by omega
      have ⟨z0, z1⟩ := d
      have hcv := hr.text cap
      rw [hl] at hcv
      generalize (⟨(addTo a0 a1 a2 3 x.data.toList).toArray⟩ : ByteArray) = t at *
      clear hr hl hsz hr5
      go_wp2_with (refine wpList_store_fil rfl _ _ rfl (w.heap.size + 1) n t ?_ ?_ dN fun w6 hR hk => stop ?_)
      · rfl
      · rfl
      refine unstop ?_
      have hld := load_fil hR
      go_wp2_with fail
      refine bodyPost_ret (v := .agg #[.int .i64 n, .string t]) ?_ rfl ⟨by rw [E.out], hk _ _ (by omega) hbr⟩
      simp [results, Try.results97, asAddr, hld]
end Go.Proofs.Ytbcdpgjjfllgjaa

namespace Go.Proofs.Ytbcdpgjjfllgjaa
open Go.RowKit
theorem getD_setL (l : List UInt8) (i q : Nat) (h : i / 8 < l.length) : (setL l i).getD q 0 = if q = i / 8 then bitC i (l.getD q 0) else l.getD q 0 := by
  unfold setL
  by_cases hq : q = i / 8
  · subst hq
    simp [List.getD, h]
  · rw [if_neg hq]
    simp only [List.getD]
    rw [List.getElem?_set_ne (fun e => hq e.symm)]
def LeB (l l' : List UInt8) : Prop := ∀ q, l.getD q 0 ||| l'.getD q 0 = l'.getD q 0
theorem LeB.refl (l : List UInt8) : LeB l l := fun _ => UInt8.or_self
theorem or_up {a b c : UInt8} (h : a ||| b = b) (h' : b ||| c = c) : a ||| c = c := by
  rw [← h', ← UInt8.or_assoc, h]
theorem LeB.trans {a b c : List UInt8} (h : LeB a b) (h' : LeB b c) : LeB a c := fun q => or_up (h q) (h' q)
theorem LeB.setL (l : List UInt8) (i : Nat) (h : i / 8 < l.length) : LeB l (setL l i) := fun q => by
  rw [getD_setL l i q h]
  split
  · unfold bitC; rw [← UInt8.or_assoc, UInt8.or_self]
  · exact UInt8.or_self
theorem hasL_setL (l : List UInt8) (i : Nat) (h : i / 8 < l.length) : hasL (setL l i) i = true := by
  unfold hasL
  rw [getD_setL l i _ h, if_pos rfl]
  simp only [bitC, beq_iff_eq]
  rw [UInt8.or_assoc, UInt8.or_self]
theorem hasL_mono {l l' : List UInt8} {i : Nat} (h : LeB l l') (hl : hasL l i = true) : hasL l' i = true := by
  have := h (i / 8)
  simp only [hasL, bitC, beq_iff_eq] at *
  generalize l.getD (i / 8) 0 = c at *
  generalize l'.getD (i / 8) 0 = c' at *
  rw [← this, UInt8.or_assoc, UInt8.or_comm c', ← UInt8.or_assoc, hl]
theorem setL_has {l : List UInt8} {i : Nat} (hl : hasL l i = true) : setL l i = l := by
  simp only [hasL, beq_iff_eq] at hl
  unfold setL
  rw [hl]
  apply List.ext_getElem?
  intro q
  by_cases hq : q = i / 8
  · subst hq
    by_cases hlt : i / 8 < l.length
    · rw [List.getElem?_set_self hlt, List.getD, List.getElem?_eq_getElem hlt]; rfl
    · rw [List.getElem?_eq_none (by simp; omega), List.getElem?_eq_none (by omega)]
  · rw [List.getElem?_set_ne (fun e => hq e.symm)]
theorem hasK_eq (n : Int) (s : ByteArray) (l : List UInt8) (h : ∀ k, plN n s k / 8 < l.length) : hasK n s l = decide (addL n s l = l) := by
  have l0 := h 0
  have l1 := h 1
  have l2 := h 2
  unfold hasK addL
  generalize plN n s 0 = a at *
  generalize plN n s 1 = b at *
  generalize plN n s 2 = c at *
  have x1 : (setL l a).length = l.length := setL_length l a
  have x2 : (setL (setL l a) b).length = l.length := by rw [setL_length, x1]
  by_cases e : setL (setL (setL l a) b) c = l
  · rw [decide_eq_true e]
    have u2 : LeB (setL l a) l := by
      have := (LeB.setL (setL l a) b (by omega)).trans (LeB.setL (setL (setL l a) b) c (by omega))
      rwa [e] at this
    have u3 : LeB (setL (setL l a) b) l := by
      have := LeB.setL (setL (setL l a) b) c (by omega)
      rwa [e] at this
    have g0 := hasL_mono u2 (hasL_setL l a l0)
    have g1 := hasL_mono u3 (hasL_setL (setL l a) b (by omega))
    have g2 := hasL_setL (setL (setL l a) b) c (by omega)
    rw [e] at g2
    rw [g0, g1, g2]; rfl
  · rw [decide_eq_false e]
    cases ha : hasL l a
    · rfl
    cases hb : hasL l b
    · rfl
    cases hc : hasL l c
    · rfl
    exfalso
    exact e (by rw [setL_has ha, setL_has hb, setL_has hc])
theorem take_setL (l : List UInt8) (i m : Nat) (h : i / 8 < m) : (setL l i).take m = setL (l.take m) i := by
  unfold setL
  rw [List.take_set]
  congr 2
  simp only [List.getD, List.getElem?_take_of_lt h]
theorem take_addL (n : Int) (s : ByteArray) (l : List UInt8) (m : Nat) (h : ∀ k, plN n s k / 8 < m) : (addL n s l).take m = addL n s (l.take m) := by
  unfold addL
  rw [take_setL _ _ _ (h 2), take_setL _ _ _ (h 1), take_setL _ _ _ (h 0)]
theorem plN_lt (n : Int) (s : ByteArray) (m : Nat) (h0 : 8 ≤ n) (h8 : n % 8 = 0) (hm : (m : Int) = n / 8) (k : Nat) : plN n s k / 8 < m := by
  have := (place_bd n s k h0).2
  omega
theorem addL_length (n : Int) (s : ByteArray) (l : List UInt8) : (addL n s l).length = l.length := by
  unfold addL; rw [setL_length, setL_length, setL_length]
theorem padL_take (x : ByteArray) : (padL x).take x.size = x.data.toList := by
  have e : x.data.toList.length = x.size := by simp
  unfold padL
  rw [List.take_append_of_le_length (by omega), List.take_of_length_le (by omega)]
theorem add_bytes (n : Int) (x s : ByteArray) (h0 : 8 ≤ n) (h8 : n % 8 = 0) (hx : (x.size : Int) = n / 8) : bytesOf n (addL n s (padL x)) = addS n s x := by
  have e : (n / 8).toNat = x.size := by omega
  unfold bytesOf addS
  rw [e, take_addL n s _ _ (plN_lt n s _ h0 h8 hx), padL_take]
theorem hasK_pad (n : Int) (x s : ByteArray) (h0 : 8 ≤ n) (h8 : n % 8 = 0) (hx : (x.size : Int) = n / 8) : hasK n s (padL x) = decide (addS n s x = x) := by
  have e : x.data.toList.length = x.size := by simp
  have hh : ∀ i, i / 8 < x.size → hasL (padL x) i = hasL x.data.toList i := by
    intro i hi
    unfold hasL
    have : (padL x).getD (i / 8) 0 = x.data.toList.getD (i / 8) 0 := by
      simp only [List.getD, padL]
      rw [List.getElem?_append_left (by omega)]
    rw [this]
  have hp := plN_lt n s _ h0 h8 hx
  have E : hasK n s (padL x) = hasK n s x.data.toList := by
    unfold hasK
    rw [hh _ (hp 0), hh _ (hp 1), hh _ (hp 2)]
  rw [E, hasK_eq n s _ (by rw [e]; exact hp), decide_eq_decide]
  constructor
  · intro h; unfold addS; rw [h]
  · intro h
    have := congrArg (fun b : ByteArray => b.data.toList) h
    exact this
end Go.Proofs.Ytbcdpgjjfllgjaa

namespace Go.Proofs.Ytbcdpgjjfllgjaa
open Go.RowKit
def addOk (n : Int) (x s : ByteArray) : Bool := filB n x && decide (s.size ≤ 12)
def addN (n : Int) (x s : ByteArray) : Int := if addOk n x s then n else 0
def addT (n : Int) (x s : ByteArray) : ByteArray := if addOk n x s then addS n s x else ⟨#[]⟩
def addV (n : Int) (x s : ByteArray) : Value := .tuple #[.agg #[.int .i64 (addN n x s), .string (addT n x s)], .bool (addOk n x s)]
theorem addV_no {n : Int} {x s : ByteArray} (h : addOk n x s = false) : addV n x s = .tuple #[.agg #[.int .i64 0, .string ⟨#[]⟩], .bool false] := by
  unfold addV addN addT; rw [h]; rfl
theorem addV_yes {n : Int} {x s : ByteArray} (h : addOk n x s = true) : addV n x s = .tuple #[.agg #[.int .i64 n, .string (addS n s x)], .bool true] := by
  unfold addV addN addT; rw [h]; rfl
theorem filB_all {n : Int} {x : ByteArray} (h : filB n x = true) : 8 ≤ n ∧ n ≤ 256 ∧ n % 8 = 0 ∧ (x.size : Int) = n / 8 ∧ x.size ≤ 32 := by
  have := of_decide_eq_true h
  omega
def hasB (n : Int) (x s : ByteArray) : Bool := addOk n x s && decide (addS n s x = x)
set_option maxRecDepth 100000 in
theorem implFilterHas_any (n : Int) (x s : ByteArray) (w : World) (hx : x.size ≤ maxLen) (hs : s.size ≤ maxLen) :
    Calls Try.prog 36 #[.agg #[.int .i64 n, .string x], .string s] w fun e w' => e = .returned (.bool (hasB n x s)) ∧ Below w.heap.size w w' := by
  have c1 := At2.new w (.int .i64 n) (.string x) 44
  have hb := bl1 w (.cells #[.int .i64 n, .string x] 44)
  have hz : w.heap.size < (w.alloc (.cells #[.int .i64 n, .string x] 44)).heap.size := by simp
  unfold maxLen at hs
  go_enter Try.func36, Try.ntmps36
  go_wp2_with fail
  generalize w.alloc (.cells #[.int .i64 n, .string x] 44) = w1 at *
  refine (implFilterOk_any n x _ hx).mono ?_
  rintro e w2 ⟨rfl, hb1⟩
  replace c1 := c1.keep hb1 (by omega)
  replace hb := hb.trans (hb1.mono (by omega))
  replace hz : w.heap.size < w2.heap.size := Nat.lt_of_lt_of_le hz hb1.size
  clear hb1
  cases hf1 : filB n x
  · have E := Lib.hid (show hasB n x s = false by simp [hasB, addOk, hf1])
    clear hf1
    go_wp2_with fail
    go_ret
    exact ⟨ret_bool E.out.symm, hb⟩
  by_cases hk : s.size ≤ 12
  case neg =>
    have E := Lib.hid (show hasB n x s = false by simp [hasB, addOk, hk])
    have d1 : decide ((s.size : Int) ≤ 12) = false := by simp; omega
    clear hf1 hk
    go_wp2_with (go_at_call 70; go_in)
    go_ret
    exact ⟨ret_bool E.out.symm, hb⟩
  have d1 : decide ((s.size : Int) ≤ 12) = true := by simp; omega
  obtain ⟨q0, q1, q4, q5, q2⟩ := filB_all hf1
  have E := Lib.hid (show hasB n x s = hasK n s (padL x) by rw [hasK_pad n x s q0 q4 q5]; simp [hasB, addOk, hf1, hk])
  clear hf1
  have ⟨z0, z1⟩ := c1
  go_wp2_with (go_at_call 70; go_in)
  refine (bitSetOf_any n x _ q2).mono ?_
  rintro e w4 ⟨rfl, hb1⟩
  clear z0 z1
  replace hb := hb.trans (hb1.mono (by omega))
  clear hb1 c1
  go_wp2_with (refine wpList_alloc_row rfl 82 rfl _ zero74 (stop ?_))
  have r := BS.new w4 0 zero32 82 rfl
  have hb1 := bl1 w4 (.cells (bsL 0 zero32).toArray 82)
  have hB : w.heap.size ≤ w4.heap.size := hb.size
  replace hb := hb.trans (hb1.mono (by omega))
  clear hb1
  generalize w4.alloc (.cells (bsL 0 zero32).toArray 82) = w5 at *
  generalize w4.heap.size = B at *
  refine unstop ?_
  refine wpList_store_bits rfl _ _ rfl B n (padL x) rfl rfl 0 zero32 r (padL_length x q2) fun w6 r6 hk => ?_
  have hb1 := hk B w5 (Nat.le_refl _) (Below.refl _ _)
  replace hb := hb.trans (hb1.mono (by omega))
  clear hb1 hk r
  go_wp2_with fail
  refine (bitHasKey_any B n (padL x) s _ r6 q0 q1 (by omega)).mono ?_
  rintro e w8 ⟨rfl, hb1⟩
  replace hb := hb.trans (hb1.mono hb.size)
  clear hb1 r6
  rw [← E.out]
  go_wp2_with fail
  go_ret
  exact ⟨rfl, hb⟩
end Go.Proofs.Ytbcdpgjjfllgjaa

namespace Go.Proofs.Ytbcdpgjjfllgjaa
open Go.RowKit
def ofOk (rs : List RowV) (n : Int) : Bool := rowsOk rs && sizeB n
/-- The bits of the keys of rows, set. -/
def ofL (n : Int) (rs : List RowV) (l : List UInt8) : List UInt8 := rs.foldl (fun acc r => addL n r.key acc) l
def zeroL (n : Int) : List UInt8 := List.replicate (n / 8).toNat 0
def ofS (rs : List RowV) (n : Int) : ByteArray := ⟨(ofL n rs (zeroL n)).toArray⟩
def ofN (rs : List RowV) (n : Int) : Int := if ofOk rs n then n else 0
def ofT (rs : List RowV) (n : Int) : ByteArray := if ofOk rs n then ofS rs n else ⟨#[]⟩
def ofV (rs : List RowV) (n : Int) : Value := .tuple #[.agg #[.int .i64 (ofN rs n), .string (ofT rs n)], .bool (ofOk rs n)]
theorem ofV_no {n : Int} {rs : List RowV} (h : ofOk rs n = false) : ofV rs n = .tuple #[.agg #[.int .i64 0, .string ⟨#[]⟩], .bool false] := by
  unfold ofV ofN ofT; rw [h]; rfl
theorem ofV_yes {n : Int} {rs : List RowV} (h : ofOk rs n = true) : ofV rs n = .tuple #[.agg #[.int .i64 n, .string (ofS rs n)], .bool true] := by
  unfold ofV ofN ofT; rw [h]; rfl
theorem ofL_length (n : Int) (rs : List RowV) (l : List UInt8) : (ofL n rs l).length = l.length := by
  unfold ofL
  induction rs generalizing l with
  | nil => rfl
  | cons r rs ih => rw [List.foldl_cons, ih, addL_length]
theorem take_ofL (n : Int) (rs : List RowV) (l : List UInt8) (m : Nat) (h0 : 8 ≤ n) (h8 : n % 8 = 0) (hm : (m : Int) = n / 8) : (ofL n rs l).take m = ofL n rs (l.take m) := by
  unfold ofL
  induction rs generalizing l with
  | nil => rfl
  | cons r rs ih => rw [List.foldl_cons, List.foldl_cons, ih, take_addL n r.key l m (plN_lt n r.key m h0 h8 hm)]
theorem ofL_succ (n : Int) (rs : List RowV) (l : List UInt8) (k : Nat) (r : RowV) (h : rs[k]? = some r) : ofL n (rs.take (k + 1)) l = addL n r.key (ofL n (rs.take k) l) := by
  unfold ofL
  obtain ⟨hk, rfl⟩ := List.getElem?_eq_some_iff.1 h
  rw [List.take_succ_eq_append_getElem hk, List.foldl_append]; rfl
theorem of_bytes (n : Int) (rs : List RowV) (h0 : 8 ≤ n) (h1 : n ≤ 256) (h8 : n % 8 = 0) : bytesOf n (ofL n rs zero32) = ofS rs n := by
  unfold bytesOf ofS zeroL
  rw [take_ofL n rs zero32 _ h0 h8 (by omega), zero32, List.take_replicate, Nat.min_eq_left (by omega)]
theorem sizeB_all {n : Int} (h : sizeB n = true) : 8 ≤ n ∧ n ≤ 256 ∧ n % 8 = 0 := of_decide_eq_true h
theorem rowOk_key {rs : List RowV} {k : Nat} {r : RowV} (h : rowsOk rs = true) (hr : rs[k]? = some r) : r.key.size ≤ 12 := by
  unfold rowsOk at h
  have := List.all_eq_true.1 (Bool.and_eq_true _ _ ▸ h).2 r (List.mem_of_getElem? hr)
  exact (of_decide_eq_true this).1
set_option maxRecDepth 100000 in
set_option maxHeartbeats 1000000 in
theorem implFilterOf_any (a : Option Addr) (len cap : Nat) (rs : List RowV) (n : Int) (w : World) (hm : len ≤ 1048576) (hok : ∀ r ∈ rs, r.Ok) (hR : Rd w w.heap.size 3 a len (flat rs)) :
    Calls Try.prog 35 #[.slice a len cap, .int .i64 n] w fun e w' => e = .returned (ofV rs n) ∧ Below w.heap.size w w' := by
  have hl := Lib.hid hR.rows_length
  have hb := bl1 w (.cells #[.int .i64 0, .string ⟨#[]⟩] 44)
  have hN := FV.new w 0 ⟨#[]⟩ 44
  replace hR := (hR.below hb (Nat.le_refl _)).more hb.size
  go_enter Try.func35, Try.ntmps35
  go_wp2_with fail
  generalize w.alloc (.cells #[.int .i64 0, .string ⟨#[]⟩] 44) = w1 at *
  refine (implRowsOk_any a len cap rs _ hm hok hR).mono ?_
  rintro e w2 ⟨rfl, hb1⟩
  have hz := hN.2
  replace hN := hN.below hb1 hz
  replace hb := hb.trans (hb1.mono (by omega))
  replace hR := (hR.below hb1 (Nat.le_refl _)).more hb1.size
  replace hz := hN.2
  clear hb1
  cases hf1 : rowsOk rs
  · have E := Lib.hid (ofV_no (show ofOk rs n = false by simp [ofOk, hf1]))
    clear hf1
    go_wp2_with (refine wpList_store_fil rfl _ _ rfl w.heap.size 0 ⟨#[]⟩ ?_ ?_ hN fun w3 hR hk => stop ?_)
    · rfl
    · rfl
    refine unstop ?_
    have hld := load_fil hR
    go_wp2_with fail
    refine bodyPost_ret (v := .tuple #[noFil, .bool false]) ?_ rfl ⟨ret_val E.out.symm, hk _ _ (by omega) hb⟩
    rw [results_cell_tmp rfl]
    simp [asAddr, Result.andThen, hld, noFil]
  cases hs : sizeB n
  · have E := Lib.hid (ofV_no (show ofOk rs n = false by simp [ofOk, hs]))
    clear hf1
    go_wp2_with fail
    refine (implFilterSize_any n _).mono ?_
    rintro e w3 ⟨rfl, rfl⟩
    rw [hs]
    clear hs
    go_wp2_with (refine wpList_store_fil rfl _ _ rfl w.heap.size 0 ⟨#[]⟩ ?_ ?_ hN fun w3 hR hk => stop ?_)
    · rfl
    · rfl
    refine unstop ?_
    have hld := load_fil hR
    go_wp2_with fail
    refine bodyPost_ret (v := .tuple #[noFil, .bool false]) ?_ rfl ⟨ret_val E.out.symm, hk _ _ (by omega) hb⟩
    rw [results_cell_tmp rfl]
    simp [asAddr, Result.andThen, hld, noFil]
  have E := Lib.hid (ofV_yes (show ofOk rs n = true by simp [ofOk, hf1, hs]))
  obtain ⟨q0, q1, q8⟩ := sizeB_all hs
  have E2 := Lib.hid (of_bytes n rs q0 q1 q8)
  have K := Lib.hid hf1
  clear hf1
  go_wp2_with fail
  refine (implFilterSize_any n _).mono ?_
  rintro e w3 ⟨rfl, rfl⟩
  rw [hs]
  clear hs
  go_wp2_with (refine wpList_build_row rfl 82 _ rfl (.int .i64 n) ?_ _ (build74 n _) (stop ?_))
  · rfl
  refine unstop ?_
  refine wpList_alloc_row rfl 82 rfl _ zero74 ?_
  have r := BS.new w2 0 zero32 82 rfl
  have hb1 := bl1 w2 (.cells (bsL 0 zero32).toArray 82)
  replace hN := hN.below hb1 hz
  replace hb := hb.trans (hb1.mono (by omega))
  replace hR := hR.below hb1 (Nat.le_refl _)
  clear hb1
  generalize w2.alloc (.cells (bsL 0 zero32).toArray 82) = w5 at *
  generalize w2.heap.size = B at *
  refine wpList_store_bits rfl _ _ rfl B n zero32 rfl rfl 0 zero32 r rfl fun w6 r6 hk => ?_
  have hb1 := hk B w5 (Nat.le_refl _) (Below.refl _ _)
  replace hN := hN.below hb1 (by omega)
  replace hb := hb.trans (hb1.mono (by omega))
  replace hR := hR.below hb1 (Nat.le_refl _)
  clear hb1 hk r
  go_wp2_with fail
  go_loopw [22] (fun i wr => ∃ k : Nat, k ≤ len ∧ i = .int .i64 k ∧ Below w.heap.size w wr ∧ Rd wr B 3 a len (flat rs) ∧ FV wr w.heap.size ∧ BS wr B n (ofL n (rs.take k) zero32)) (fun i _ => len - (intOf i).toNat)
  case atStart => exact ⟨0, Nat.zero_le _, rfl, hb, hR, hN, r6⟩
  case round =>
    obtain ⟨k, hk, rfl, hbr, hRr, hNr, hr⟩ := hrel
    clear hb hR hN r6
    by_cases hlt : k < len
    · obtain ⟨b, off, r, rfl, hB1, hrk, c0, c1, c2⟩ := hRr.row hlt
      have hkey := rowOk_key K.out hrk
      have O := Lib.hid (ofL_succ n rs zero32 k r hrk)
      clear hrk
      obtain ⟨key, tag, val⟩ := r
      have hb1 := bl1 wr (.cells #[.string key, .int .i64 tag, .string val] 39)
      replace hbr := hbr.trans (hb1.mono hbr.size)
      replace hNr := hNr.below hb1 hNr.2
      replace hRr := hRr.below hb1 (Nat.le_of_lt hr.2.2.2)
      replace hr := hr.below hb1 hr.2.2.2
      clear hb1
      go_wp2_with fail
      generalize wr.alloc (.cells #[.string key, .int .i64 tag, .string val] 39) = w7 at *
      refine (bitAdd_any B n _ key _ hr q0 q1 hkey).mono ?_
      rintro e w8 ⟨rfl, hb1, r8⟩
      replace hbr := hbr.trans (hb1.mono (by omega))
      replace hNr := hNr.below hb1 (by omega)
      replace hRr := hRr.below hb1 (Nat.le_refl _)
      rw [← O.out] at r8
      clear hb1 hr c0 c1 c2
      go_wp2_with fail
      go_roundw
      case rel => exact ⟨k + 1, by omega, by go_num, hbr, hRr, hNr, r8⟩
      case measure => simp [intOf]; omega
    · obtain rfl : k = len := by omega
      rw [List.take_of_length_le (by rw [hl.out]; omega)] at hr
      go_wp2_with fail
      refine (bitFilter_any B n _ _ hr q0 q1).mono ?_
      rintro e w9 ⟨rfl, hb1⟩
      rw [E2.out]
      replace hNr := hNr.below hb1 hNr.2
      replace hbr := hbr.trans (hb1.mono hbr.size)
      clear hb1 hr
      generalize ofS rs n = t at *
      go_wp2_with (refine wpList_store_fil rfl _ _ rfl w.heap.size n t ?_ ?_ hNr fun w3 hR hk => stop ?_)
      · rfl
      · rfl
      refine unstop ?_
      have hld := load_fil hR
      go_wp2_with fail
      refine bodyPost_ret (v := .tuple #[.agg #[.int .i64 n, .string t], .bool true]) ?_ rfl ⟨ret_val E.out.symm, hk _ _ (by omega) hbr⟩
      rw [results_cell_tmp rfl]
      simp [asAddr, Result.andThen, hld]
end Go.Proofs.Ytbcdpgjjfllgjaa

namespace Go.Proofs.Ytbcdpgjjfllgjaa
open Go.RowKit
theorem infoByteF : (Try.prog.info? 5).map (fun i => (i.zero, i.size, i.bytes)) = some (some (.int .u8 0), 1, 1) := by kernel_rfl
theorem zero_cells (m j : Nat) (h : j < m) : (madeCells (Value.int .u8 0).cells (m * 1)).toList[j]? = some (.int .u8 0) := by
  rw [show (Value.int .u8 0).cells = #[Value.int .u8 0] from rfl, Nat.mul_one, toList_madeCells_one]
  simp [h]
set_option maxRecDepth 100000 in
theorem specFilterNew_any (n : Int) (w : World) :
    Calls Try.prog 111 #[.int .i64 n] w fun e w' => e = .returned (ofV [] n) ∧ Below w.heap.size w w' := by
  have hb := bl1 w (.cells #[.int .i64 0, .string ⟨#[]⟩] 44)
  have hN := FV.new w 0 ⟨#[]⟩ 44
  go_enter Try.func111, Try.ntmps111
  go_wp2_with fail
  generalize w.alloc (.cells #[.int .i64 0, .string ⟨#[]⟩] 44) = w1 at *
  refine (specFilterSize_any n _).mono ?_
  rintro e w2 ⟨rfl, rfl⟩
  cases hs : sizeB n
  · have E := Lib.hid (ofV_no (show ofOk [] n = false by simp [ofOk, hs]))
    clear hs
    go_wp2_with (refine wpList_store_fil rfl _ _ rfl w.heap.size 0 ⟨#[]⟩ ?_ ?_ hN fun w3 hR hk => stop ?_)
    · rfl
    · rfl
    refine unstop ?_
    have hld := load_fil hR
    go_wp2_with fail
    refine bodyPost_ret (v := .tuple #[noFil, .bool false]) ?_ rfl ⟨ret_val E.out.symm, hk _ _ (by omega) hb⟩
    rw [results_cell_tmp rfl]
    simp [asAddr, Result.andThen, hld, noFil]
  have E := Lib.hid (ofV_yes (show ofOk [] n = true by simp [ofOk, hs, rowsOk]))
  obtain ⟨q0, q1, q8⟩ := sizeB_all hs
  clear hs
  obtain ⟨m, hm⟩ : ∃ m : Nat, n / 8 = m := ⟨(n / 8).toNat, by omega⟩
  have E2 := Lib.hid (show ofS [] n = ⟨(List.replicate m 0).toArray⟩ by
    unfold ofS ofL zeroL
    rw [show (n / 8).toNat = m by omega]; rfl)
  have hq : IntKind.i64.wrap (n.tdiv 8) = (m : Int) := by
    rw [Int.tdiv_eq_ediv_of_nonneg (by omega), hm]
    rw [IntWalk.i64_in _ (by omega)]
  have hq2 : n.tdiv 8 = (m : Int) := by
    rw [Int.tdiv_eq_ediv_of_nonneg (by omega), hm]
  have hm32 : m ≤ 32 := by omega
  clear hm
  obtain ⟨i0, hi, hz0, hz1, hz2⟩ := info_parts infoByteF
  go_wp2_with (at_make; refine wpList_make_full _ rfl _ _ 34 rfl w1.heap.size 5 i0 (.int .u8 0) 1 Try.underlying34 hi hz0 hz1 .i64 .i64 _ _ m rfl rfl (by omega) (by omega) (by rw [hz2]; omega) (by unfold maxLen; omega) (Nat.le_refl _) ?_; intro w3 hown hgrow; refine stop ?_)
  have hb1 := (Below.refl w1.heap.size w1).grown hgrow (Nat.le_refl _) (by simp)
  have hcv : (convert 34 9 (.slice (some ⟨w1.heap.size, 0, none⟩) m m)).run Try.prog w3 = .ok (.string ⟨(List.replicate m 0).toArray⟩) w3 := by
    have := run_convert_bytes_back (P := Try.prog) w3 34 9 5 ⟨w1.heap.size, 0, none⟩ m (List.replicate m 0) Try.underlying34 Try.underlying5 Try.underlying9 (fun j hj => by
      have hj' : j < m := by simpa using hj
      rw [Addr.add_mid, Nat.zero_add, hown.cellAt j (by omega), zero_cells m j hj']
      simp)
    simpa using this
  replace hb := hb.trans (hb1.mono hb.size)
  replace hN := hN.below hb1 hN.2
  clear hgrow hb1 hown
  rw [E2.out] at E
  generalize (⟨(List.replicate m 0).toArray⟩ : ByteArray) = t at *
  refine unstop ?_
  go_wp2_with (refine wpList_store_fil rfl _ _ rfl w.heap.size n t ?_ ?_ hN fun w5 hR hk => stop ?_)
  · rfl
  · rfl
  refine unstop ?_
  have hld := load_fil hR
  go_wp2_with fail
  refine bodyPost_ret (v := .tuple #[.agg #[.int .i64 n, .string t], .bool true]) ?_ rfl ⟨ret_val E.out.symm, hk _ _ (by omega) hb⟩
  rw [results_cell_tmp rfl]
  simp [asAddr, Result.andThen, hld]
end Go.Proofs.Ytbcdpgjjfllgjaa

namespace Go.Proofs.Ytbcdpgjjfllgjaa
open Go.RowKit
theorem wpList_store_fil2 {ops : Array Oper} {rest : List Oper} {op : Oper} {a : Act} {w : World} {Q : Exit → Act → World → Prop} (hgd : op.guard = none) (x y : Operand) (ho : op.op = .store 44 x y)
    (b : Nat) (n : Int) (s : ByteArray) (hx : a.eval x = .pointer (some ⟨b, 0, none⟩)) (hy : a.eval y = .agg #[.int .i64 n, .string s]) (hN : FV w b)
    (h : ∀ w', At2 w' b (.int .i64 n) (.string s) → FV w' b → Below b w w' → wpList Try.prog ops Q rest (a.put op.dst undef) w') : wpList Try.prog ops Q (op :: rest) a w := by
  refine wpList_store_mid hgd 44 x y ho b 0 #[.int .i64 n, .string s] hx hy hN.1 (by kernel_rfl) (by simp [Value.oneCell']) ?_
  have hr := World.rangeAt_setCells_same w b 0 [.int .i64 n, .string s] hN.1
  exact h _ ⟨hr 0 _ rfl, hr 1 _ rfl⟩ ⟨World.there_setCells hN.1 b 0 _, by rw [size_setCells]; exact hN.2⟩ (below_setCells (Nat.le_refl _) _ _ _ (Below.refl _ _))
def ofB (n : Int) (rs : List RowV) (k : Nat) : ByteArray := ⟨(ofL n (rs.take k) (zeroL n)).toArray⟩
theorem ofB_size (n : Int) (rs : List RowV) (k : Nat) (h0 : 8 ≤ n) : ((ofB n rs k).size : Int) = n / 8 := by
  have : (ofB n rs k).size = (n / 8).toNat := by
    simp [ofB, ByteArray.size, ofL_length, zeroL]
  omega
theorem ofB_succ (n : Int) (rs : List RowV) (k : Nat) (r : RowV) (h : rs[k]? = some r) : addS n r.key (ofB n rs k) = ofB n rs (k + 1) := by
  unfold addS ofB
  rw [ofL_succ n rs _ k r h]
theorem ofB_all (n : Int) (rs : List RowV) (k : Nat) (h : rs.length ≤ k) : ofS rs n = ofB n rs k := by
  unfold ofS ofB
  rw [List.take_of_length_le h]
set_option maxRecDepth 100000 in
set_option maxHeartbeats 1000000 in
theorem specFilterOf_any (a : Option Addr) (len cap : Nat) (rs : List RowV) (n : Int) (w : World) (hm : len ≤ 1048576) (hok : ∀ r ∈ rs, r.Ok) (hR : Rd w w.heap.size 3 a len (flat rs)) :
    Calls Try.prog 90 #[.slice a len cap, .int .i64 n] w fun e w' => e = .returned (ofV rs n) ∧ Below w.heap.size w w' := by
  have hl := Lib.hid hR.rows_length
  have hb := bl1 w (.cells #[.int .i64 0, .string ⟨#[]⟩] 44)
  have hN := FV.new w 0 ⟨#[]⟩ 44
  replace hR := (hR.below hb (Nat.le_refl _)).more hb.size
  have C := fun w => specFilterNew_any n w
  cases hs : sizeB n
  · have E0 := ofV_no (show ofOk [] n = false by simp [ofOk, hs])
    rw [E0] at C
    have E := Lib.hid (ofV_no (show ofOk rs n = false by simp [ofOk, hs]))
    clear hs E0
    go_enter Try.func90, Try.ntmps90
    go_wp2_with fail
    generalize w.alloc (.cells #[.int .i64 0, .string ⟨#[]⟩] 44) = w1 at *
    refine (C _).mono ?_
    rintro e w2 ⟨rfl, hb1⟩
    replace hN := hN.below hb1 hN.2
    replace hb := hb.trans (hb1.mono hb.size)
    have hb2 := bl1 w2 (.cells #[.int .i64 0, .string ⟨#[]⟩] 44)
    replace hN := hN.below hb2 hN.2
    replace hb := hb.trans (hb2.mono hb.size)
    clear hb1 C hb2
    go_wp2_with (refine wpList_store_fil rfl _ _ rfl w.heap.size 0 ⟨#[]⟩ (by rfl) (by rfl) hN fun w3 hR hk => stop ?_)
    refine unstop ?_
    have hld := load_fil hR
    go_wp2_with fail
    refine bodyPost_ret (v := .tuple #[noFil, .bool false]) ?_ rfl ⟨ret_val E.out.symm, hk _ _ (by omega) hb⟩
    rw [results_cell_tmp rfl]
    simp [asAddr, Result.andThen, hld, noFil]
  have E0 := ofV_yes (show ofOk [] n = true by simp [ofOk, hs, rowsOk])
  rw [E0] at C
  obtain ⟨t0, ht0⟩ : ∃ t, ofS [] n = t := ⟨_, rfl⟩
  have hS0 := Lib.hid (show t0 = ofB n rs 0 from ht0.symm)
  rw [ht0] at C
  clear ht0
  obtain ⟨q0, q1, q8⟩ := sizeB_all hs
  clear E0
  go_enter Try.func90, Try.ntmps90
  go_wp2_with fail
  generalize w.alloc (.cells #[.int .i64 0, .string ⟨#[]⟩] 44) = w1 at *
  refine (C _).mono ?_
  rintro e w2 ⟨rfl, hb1⟩
  have hz := hN.2
  replace hN := hN.below hb1 hz
  replace hb := hb.trans (hb1.mono hb.size)
  replace hR := (hR.below hb1 (Nat.le_refl _)).more hb1.size
  replace hz := hN.2
  clear hb1 C
  have FD := FV.new w2 n t0 44
  have d := At2.new w2 (.int .i64 n) (.string t0) 44
  have hb2 := bl1 w2 (.cells #[.int .i64 n, .string t0] 44)
  replace hN := hN.below hb2 hz
  replace hb := hb.trans (hb2.mono hb.size)
  replace hR := (hR.below hb2 (Nat.le_refl _))
  go_wp2_with fail
  clear hb2
  generalize w2.alloc (.cells #[.int .i64 n, .string t0] 44) = w3 at *
  generalize w2.heap.size = D at *
  have hD := FD.2
  refine (specRowsOk_any a len cap rs _ hm hok (hR.more (by omega))).mono ?_
  rintro e w4 ⟨rfl, hb1⟩
  replace hN := hN.below hb1 hN.2
  replace hb := hb.trans (hb1.mono hb.size)
  replace hR := (hR.below hb1 (by omega))
  replace FD := FD.below hb1 hD
  replace d := d.below hb1 hD
  clear hb1 hD
  cases hf1 : rowsOk rs
  · have E := Lib.hid (ofV_no (show ofOk rs n = false by simp [ofOk, hf1]))
    clear hf1 hs
    go_wp2_with (refine wpList_store_fil rfl _ _ rfl w.heap.size 0 ⟨#[]⟩ (by rfl) (by rfl) hN fun w3 hR hk => stop ?_)
    refine unstop ?_
    have hld := load_fil hR
    go_wp2_with fail
    refine bodyPost_ret (v := .tuple #[noFil, .bool false]) ?_ rfl ⟨ret_val E.out.symm, hk _ _ (by omega) hb⟩
    rw [results_cell_tmp rfl]
    simp [asAddr, Result.andThen, hld, noFil]
  have E := Lib.hid (ofV_yes (show ofOk rs n = true by simp [ofOk, hf1, hs]))
  have K := Lib.hid hf1
  clear hf1 hs
  rw [hS0.out] at d
  clear hS0
  go_wp2_with fail
  go_loopw [8] (fun i wr => ∃ k : Nat, k ≤ len ∧ i = .int .i64 k ∧ Below w.heap.size w wr ∧ Rd wr D 3 a len (flat rs) ∧ FV wr w.heap.size ∧ FV wr D ∧ At2 wr D (.int .i64 n) (.string (ofB n rs k))) (fun i _ => len - (intOf i).toNat)
  case atStart => exact ⟨0, Nat.zero_le _, rfl, hb, hR, hN, FD, d⟩
  case round =>
    obtain ⟨k, hk, rfl, hbr, hRr, hNr, FDr, dr⟩ := hrel
    clear hb hR hN FD d
    have hsz := ofB_size n rs k q0
    by_cases hlt : k < len
    · obtain ⟨b, off, r, rfl, hB1, hrk, c0, c1, c2⟩ := hRr.row hlt
      have hkey := rowOk_key K.out hrk
      have O := Lib.hid (ofB_succ n rs k r hrk)
      clear hrk
      obtain ⟨key, tag, val⟩ := r
      generalize ofB n rs k = t at *
      have ⟨x0, x1⟩ := dr
      go_wp2_with fail
      refine wp_region_still_tail 6 (by kernel_rfl) (by kernel_rfl) ?_
      simp only [List.take_succ_cons, List.take_zero, List.drop_succ_cons, List.drop_zero]
      change wpStill _ _ wr.drew _ _ _
      repeat still_step
      refine wpStill_nil ?_
      change wpList _ _ _ _ _ wr.drew
      go_wp2_with fail
      refine (l6Add_any n t key _ q0 q1 q8 hsz hkey).mono ?_
      rintro e w8 ⟨rfl, hb1⟩
      rw [O.out]
      have hb2 : Below wr.heap.size wr w8 := (Below.refl wr.heap.size wr).drew.trans hb1
      replace hbr := hbr.trans (hb2.mono hbr.size)
      replace hNr := hNr.below hb2 hNr.2
      replace hRr := hRr.below hb2 (Nat.le_of_lt FDr.2)
      replace FDr := FDr.below hb2 FDr.2
      clear hb1 hb2 c0 c1 c2 x0 x1 dr
      go_wp2_with (refine wpList_store_fil2 rfl _ _ rfl D n (ofB n rs (k + 1)) (by rfl) (by rfl) FDr fun w9 d9 F9 hb9 => stop ?_)
      refine unstop ?_
      replace hbr := hbr.trans (hb9.mono (by omega))
      replace hNr := hNr.below hb9 hz
      replace hRr := hRr.below hb9 (Nat.le_refl _)
      clear FDr hb9
      go_wp2_with fail
      go_roundw
      case rel => exact ⟨k + 1, by omega, by go_num, hbr, hRr, hNr, F9, d9⟩
      case measure => simp [intOf]; omega
    · obtain rfl : k = len := by omega
      have E2 := Lib.hid (ofB_all n rs k (by rw [hl.out]; omega))
      generalize ofB n rs k = t at *
      have ⟨x0, x1⟩ := dr
      go_wp2_with (refine wpList_store_fil rfl _ _ rfl w.heap.size n t (by rfl) (by rfl) hNr fun w3 hR hk => stop ?_)
      refine unstop ?_
      have hld := load_fil hR
      go_wp2_with fail
      refine bodyPost_ret (v := .tuple #[.agg #[.int .i64 n, .string t], .bool true]) ?_ rfl ⟨ret_val (by rw [E.out, E2.out]), hk _ _ (by omega) hbr⟩
      rw [results_cell_tmp rfl]
      simp [asAddr, Result.andThen, hld]
end Go.Proofs.Ytbcdpgjjfllgjaa

namespace Go.Proofs.Ytbcdpgjjfllgjaa
open Go.RowKit
theorem ofT_size (rs : List RowV) (n : Int) : (ofT rs n).size ≤ 32 := by
  unfold ofT
  split
  · rename_i h
    unfold ofOk at h
    have := sizeB_all (Bool.and_eq_true _ _ ▸ h).2
    have e : (ofS rs n).size = (n / 8).toNat := by simp [ofS, ByteArray.size, ofL_length, zeroL]
    omega
  · decide
/-- A variable of type impl.Filter in a new block: its two cells, which may be written. -/
def FVar (w : World) (b : Nat) (N : Int) (x : ByteArray) : Prop := At2 w b (.int .i64 N) (.string x) ∧ FV w b
theorem FVar.new (w : World) (N : Int) (x : ByteArray) (t : TypeId) : FVar (w.alloc (.cells #[.int .i64 N, .string x] t)) w.heap.size N x := ⟨At2.new _ _ _ _, FV.new _ _ _ _⟩
theorem FVar.below {w w' : World} {B b : Nat} {N : Int} {x : ByteArray} (h : FVar w b N x) (hb : Below B w w') (hB : b < B) : FVar w' b N x := ⟨h.1.below hb hB, h.2.below hb hB⟩
theorem FVar.drew {w w' : World} {b g n : Nat} {N : Int} {x : ByteArray} (h : FVar w b N x) (hd : Drew w w' g n) (hne : b ≠ g) : FVar w' b N x := by
  have e : w'.heap[b]? = w.heap[b]? := hd.2.block b h.2.2 (fun e => hne (by injection e))
  refine ⟨⟨(World.cell?_of_block (a := ⟨b, 0, none⟩) e).trans h.1.1, (World.cell?_of_block (a := ⟨b, 1, none⟩) e).trans h.1.2⟩, fun j hj => ?_, Nat.lt_of_lt_of_le h.2.2 hd.size⟩
  rw [World.cell?_of_block (a := ⟨b, 0 + j, none⟩) e, World.frozen?_of_block (a := ⟨b, 0 + j, none⟩) e]
  exact h.2.1 j hj
theorem FVar.put {w : World} {b c : Nat} {N : Int} {x : ByteArray} (h : FVar w b N x) (hne : b ≠ c) (u v : Value) : FVar ((w.setCell ⟨c, 0, none⟩ u).setCell ⟨c, 1, none⟩ v) b N x := by
  have hg : w.grownBy ((w.setCell ⟨c, 0, none⟩ u).setCell ⟨c, 1, none⟩ v) (some c) := gb_store (gb_store (World.grownBy.refl w (some c)) 0 u) 1 v
  have e := hg.block b h.2.2 (fun e => hne (by injection e))
  refine ⟨⟨(World.cell?_of_block (a := ⟨b, 0, none⟩) e).trans h.1.1, (World.cell?_of_block (a := ⟨b, 1, none⟩) e).trans h.1.2⟩, fun j hj => ?_, Nat.lt_of_lt_of_le h.2.2 hg.size⟩
  rw [World.cell?_of_block (a := ⟨b, 0 + j, none⟩) e, World.frozen?_of_block (a := ⟨b, 0 + j, none⟩) e]
  exact h.2.1 j hj
theorem Drew.over {w w' w2 : World} {g n : Nat} (h : Drew w w' g n) (hg0 : g < w.heap.size) (hb : Below w.heap.size w' w2) : Drew w w2 g n := by
  refine ⟨?_, ⟨hb.os.trans h.2.os, hb.tape.trans h.2.tape, hb.output.trans h.2.output, Nat.le_trans h.2.size hb.size, fun k hk hne => (hb.block k hk).trans (h.2.block k hk hne)⟩⟩
  obtain ⟨h1, a2, c2, p2, h2, h3, h4⟩ := h.1
  refine ⟨h1, a2, c2, p2, h2.keep (fun b o hb' => hb.cell (p := ⟨b, o, none⟩) (show b < w.heap.size by omega)), h3, h4.1, ?_⟩
  rcases h4.2 with h0 | ⟨g', c, cur, hv, hg, hh, q1, q2, q3, q4⟩
  · exact .inl h0
  · have : g' = g := by injection hv with e; injection e with e; injection e with e1 _; exact e1.symm
    subst this
    exact .inr ⟨g', c, cur, hv, hg, (hb.block g' hg0).trans hh, q1, q2, q3, q4⟩
set_option maxRecDepth 100000 in
set_option maxHeartbeats 1000000 in
theorem filter_any (g n : Nat) (w : World) (h : Rdr w g n) :
    Calls Try.prog 57 #[.pointer (some ⟨g, 0, none⟩)] w fun e w' => ∃ (N : Int) (x : ByteArray), x.size ≤ 32 ∧ e = .returned (.agg #[.int .i64 N, .string x]) ∧ Drew w w' g n := by
  have hg0 := h.lt
  have V := FVar.new w 0 ⟨#[]⟩ 44
  have D := (Drew.refl h).alloc (.cells #[.int .i64 0, .string ⟨#[]⟩] 44)
  go_enter Try.func57, Try.ntmps57
  go_wp2_with fail
  generalize w.alloc (.cells #[.int .i64 0, .string ⟨#[]⟩] 44) = w1 at *
  refine (rows_lit g n 5 _ _ D.rdr (by omega) (by omega) (by omega)).mono ?_
  rintro e w2 ⟨l, b, c, hll, hok, rfl, hO, hD⟩
  have hlt1 : g < w1.heap.size := D.rdr.lt
  replace V := V.drew hD (by omega)
  replace D := D.trans hD
  clear hD
  go_wp2_with fail
  refine (below_lit g n 6 _ _ D.rdr (by omega) (by omega) (by omega)).mono ?_
  rintro e w3 ⟨k, hk, rfl, hD⟩
  replace V := V.drew hD (by omega)
  have hO3 := hD.own hO hlt1
  replace D := D.trans hD
  clear hD hO
  obtain ⟨rn, rt, rb, e1⟩ : ∃ rn rt rb, ofV l (8 * (1 + (k : Int))) = .tuple #[.agg #[.int .i64 rn, .string rt], .bool rb] ∧ rt.size ≤ 32 := ⟨_, _, _, rfl, ofT_size _ _⟩
  obtain ⟨e1, hrt⟩ := e1
  have C := specFilterOf_any _ l.length c l (8 * (1 + (k : Int))) w3 (by omega) hok (Rd.of_own hO3)
  rw [e1] at C
  clear e1 hO3
  go_wp2_with fail
  refine C.mono ?_
  clear C
  rintro e w4 ⟨rfl, hb⟩
  replace V := V.below hb V.2.2
  replace D := D.and hb
  clear hb
  have F := FVar.new w4 rn rt 44
  have hb := bl1 w4 (.cells #[.int .i64 rn, .string rt] 44)
  have hFw : w.heap.size < w4.heap.size := V.2.2
  replace V := V.below hb V.2.2
  replace D := D.and hb
  clear hb
  go_wp2_with fail
  generalize w4.alloc (.cells #[.int .i64 rn, .string rt] 44) = w5 at *
  generalize w4.heap.size = F0 at *
  refine (once_lit g n 20 _ _ D.rdr (by omega) (by omega) (by omega)).mono ?_
  rintro e w6 ⟨q, rfl, hD⟩
  replace V := V.drew hD (by omega)
  replace F := F.drew hD (by omega)
  replace D := D.trans hD
  clear hD
  cases q
  · have ⟨x0, x1⟩ := F.1
    go_wp2_with (refine wpList_store_fil rfl _ _ rfl w.heap.size rn rt (by rfl) (by rfl) V.2 fun w7 hR hk => stop ?_)
    refine unstop ?_
    have hld := load_fil hR
    have D7 := D.over hg0 (hk w.heap.size w6 (Nat.le_refl _) (Below.refl _ _))
    go_wp2_with fail
    refine bodyPost_ret (v := .agg #[.int .i64 rn, .string rt]) ?_ rfl ⟨rn, rt, hrt, rfl, D7⟩
    simp [results, Try.results57, asAddr, hld]
  · go_wp2_with fail
    refine (off_any g n 8 256 _ D.rdr (by omega) (by omega) (by omega)).mono ?_
    rintro e w7 ⟨z, hz0, hz1, rfl, hD⟩
    replace V := V.drew hD (by omega)
    replace F := F.drew hD (by omega)
    replace D := D.trans hD
    clear hD
    have ⟨x0, x1⟩ := F.1
    have f0 := (F.2.1 0 (by omega)).2
    rw [Nat.zero_add] at f0
    have V' := V.below ((Below.refl F0 w7).setCell (p := ⟨F0, 0, none⟩) (Nat.le_refl _) (.int .i64 z)) hFw
    have D' := D.set (o := 0) (b := F0) hg0 (by omega) (.int .i64 z)
    go_wp2_with (refine wpList_store_fil rfl _ _ rfl w.heap.size z rt (by rfl) (by rfl) V'.2 fun w8 hR hk => stop ?_)
    refine unstop ?_
    have hld := load_fil hR
    have D8 := D'.over hg0 (hk w.heap.size _ (Nat.le_refl _) (Below.refl _ _))
    go_wp2_with fail
    refine bodyPost_ret (v := .agg #[.int .i64 z, .string rt]) ?_ rfl ⟨z, rt, hrt, rfl, D8⟩
    simp [results, Try.results57, asAddr, hld]
end Go.Proofs.Ytbcdpgjjfllgjaa

namespace Go.Proofs.Ytbcdpgjjfllgjaa
open Go.RowKit
theorem own_else {w w' : World} {base e s n R : Nat} {v : Value} {xs : List Value} (h : w.ownsRow base e s v n xs) (hg : w.grownBy w' (some R)) (hR : R < base) : w'.ownsRow base e s v n xs := by
  have hb := own_ge h
  refine ⟨h.1, ?_⟩
  rcases h.2 with h0 | ⟨g, c, cur, rfl, hg1, hh, h1, h2, h3, h4⟩
  · exact .inl h0
  · have e : (Value.slice (some ⟨g, 0, none⟩) n c).ownBlock = some g := by simp [Value.ownBlock]
    exact .inr ⟨g, c, cur, rfl, hg1, (hg.block g (hb g e).2 (fun e' => by injection e' with e'; omega)).trans hh, h1, h2, h3, h4⟩
set_option maxRecDepth 100000 in
set_option maxHeartbeats 1000000 in
theorem drawPassed_any (a : Option Addr) (len cap : Nat) (w : World) (hl : len ≤ 1048576) (h : IsBy w w.heap.size a len) :
    Calls Try.prog 31 #[.slice a len cap] w fun e w' => ∃ (N : Int) (x : ByteArray) (l : List RowV) (b c : Nat), x.size ≤ 32 ∧ l.length ≤ 8 ∧ (∀ r ∈ l, r.Ok) ∧ e = .returned (.tuple #[.agg #[.int .i64 N, .string x], .slice (some ⟨b, 0, none⟩) l.length c]) ∧ w'.ownsRow w.heap.size 39 3 (.slice (some ⟨b, 0, none⟩) l.length c) l.length (flat l) ∧ Below w.heap.size w w' := by
  have hb0 := bl1 w (.cells #[.int .i64 0, .string ⟨#[]⟩] 44)
  have V := FVar.new w 0 ⟨#[]⟩ 44
  obtain ⟨bx, hx1, hx2⟩ := h
  have h' : IsBy (w.alloc (.cells #[.int .i64 0, .string ⟨#[]⟩] 44)) (w.alloc (.cells #[.int .i64 0, .string ⟨#[]⟩] 44)).heap.size a len := ⟨bx, (hx1.below hb0 (Nat.le_refl _)).more hb0.size, hx2⟩
  go_enter Try.func31, Try.ntmps31
  go_wp2_with fail
  generalize w.alloc (.cells #[.int .i64 0, .string ⟨#[]⟩] 44) = w0 at *
  refine (l1Open_any a len cap w0 hl h').mono ?_
  rintro e w1 ⟨rfl, hR1, hb1⟩
  have hlt := hR1.lt
  have hg : w.heap.size < w0.heap.size := V.2.2
  replace V := V.below hb1 hg
  have D := Drew.refl hR1
  go_wp2_with fail
  refine (filter_any _ len _ hR1).mono ?_
  rintro e w2 ⟨N, x, hx, rfl, hD⟩
  replace V := V.drew hD (by omega)
  replace D := D.trans hD
  clear hD
  have F := FVar.new w2 N x 44
  have hb2 := bl1 w2 (.cells #[.int .i64 N, .string x] 44)
  have hF0 : w1.heap.size ≤ w2.heap.size := D.size
  replace V := V.below hb2 V.2.2
  replace D := D.and hb2
  clear hb2
  go_wp2_with fail
  generalize w2.alloc (.cells #[.int .i64 N, .string x] 44) = w3 at *
  generalize w2.heap.size = F0 at *
  have ⟨x0, x1⟩ := F.1
  have D3 : Drew w1 w3.drew w0.heap.size len := D.over hlt ((Below.refl w1.heap.size w3).drew)
  have V3 : FVar w3.drew w.heap.size 0 ⟨#[]⟩ := V
  have F3 : FVar w3.drew F0 N x := F
  have HD3 := Lib.hid D3
  have HV3 := Lib.hid V3
  have HF3 := Lib.hid F3
  have hne : F0 ≠ w.heap.size := by omega
  have hne2 : w.heap.size ≠ w0.heap.size := by omega
  have hne3 : F0 ≠ w0.heap.size := by omega
  have hsz : w.heap.size < w3.drew.heap.size := V3.2.2
  clear D3 V3 F3 V D F
  go_region_held3 (fun w' => (w'.cell? ⟨F0, 0, none⟩ = some (.int .i64 N) ∧ w'.cell? ⟨F0, 1, none⟩ = some (.string x)) ∧ FVar w' F0 N x) (first | exact ⟨HF3.out.1, HF3.out⟩ | exact ⟨hF'.1, hF'⟩ | exact ⟨(FVar.put (by assumption) hne _ _).1, FVar.put (by assumption) hne _ _⟩ | exact ⟨((And.right (by assumption : _ ∧ FVar _ F0 N x)).put hne _ _).1, (And.right (by assumption : _ ∧ FVar _ F0 N x)).put hne _ _⟩)
    ((go_at_call 53; refine (rows_lit _ len 8 _ _ HD3.out.rdr (by omega) (by omega) (by omega)).mono ?_; rintro e w4 ⟨l, b, c, hll, hok, rfl, hO, hD⟩; have hV4 := HV3.out.drew hD hne2; have hF' := HF3.out.drew hD hne3; have D4 := Lib.hid (HD3.out.trans hD); have ⟨v0, v1⟩ := hV4.1; have g0 := (hV4.2.1 0 (by omega)).2; have g1 := (hV4.2.1 1 (by omega)).2; rw [Nat.zero_add] at g0 g1))
  have hR : ((w4.setCell ⟨w.heap.size, 0, none⟩ (.int .i64 N)).setCell ⟨w.heap.size, 1, none⟩ (.string x)).rangeAt w.heap.size 0 [.int .i64 N, .string x] := World.rangeAt_setCells_same w4 w.heap.size 0 [.int .i64 N, .string x] hV4.2.1
  have hb4 := hb0.trans ((below_drew hb1 D4.out).mono (Nat.le_of_lt hg))
  have hb5 := (hb4.setCell (p := ⟨w.heap.size, 0, none⟩) (Nat.le_refl _) (.int .i64 N)).setCell (p := ⟨w.heap.size, 1, none⟩) (Nat.le_refl _) (.string x)
  have hO5 := own_base' (own_else hO (gb_store (gb_store (World.grownBy.refl w4 (some w.heap.size)) 0 (.int .i64 N)) 1 (.string x)) hsz) (Nat.le_of_lt hsz)
  have hld := load_fil hR
  clear v0 v1 g0 g1 hV4 hF' hD x0 x1 hb4 hR hO
  generalize (w4.setCell ⟨w.heap.size, 0, none⟩ (.int .i64 N)).setCell ⟨w.heap.size, 1, none⟩ (.string x) = w5 at *
  go_wp2_with fail
  refine bodyPost_ret (v := .tuple #[.agg #[.int .i64 N, .string x], .slice (some ⟨b, 0, none⟩) l.length c]) ?_ rfl ⟨N, x, l, b, c, hx, hll, hok, rfl, hO5, hb5⟩
  first
    | (rw [results_cell_tmp rfl]; simp [asAddr, Result.andThen, hld])
    | simp [results, Try.results31, asAddr, hld]
end Go.Proofs.Ytbcdpgjjfllgjaa

namespace Go.Proofs.Ytbcdpgjjfllgjaa
open Go.RowKit
theorem rows_by_keys {g : ByteArray → List ByteArray → List PairV} (hg : ∀ k v, (g k v).length = v.length) : ∀ (K : List ByteArray) (l : List RowV), Rising K → (∀ r ∈ l, r.key ∈ K) → (K.flatMap fun k => g k (valsK l k)).length = l.length
  | [], l, _, h => by
    have : l = [] := List.eq_nil_iff_forall_not_mem.2 fun r hr => by have := h r hr; cases this
    subst this
    rfl
  | x :: K, l, hK, h => by
    obtain ⟨k1, k2⟩ := List.pairwise_cons.1 hK
    have hxK : x ∉ K := fun h => by have := k1 x h; rw [bl_irrefl] at this; cases this
    have ih := rows_by_keys hg K (l.filter fun r => !isKey x r) k2 (fun r hr => by
      rw [List.mem_filter] at hr
      refine (List.mem_cons.1 (h r hr.1)).resolve_left fun e => ?_
      rw [isKey_iff.2 e] at hr
      simp at hr)
    have e : (K.flatMap fun k => g k (valsK l k)) = K.flatMap fun k => g k (valsK (l.filter fun r => !isKey x r) k) := flatMap_congr' fun y hy => by
      have hne : y ≠ x := fun e => hxK (e ▸ hy)
      rw [valsK_rest hne]
    rw [List.flatMap_cons, List.length_append, e, ih, hg]
    unfold valsK
    rw [List.length_map]
    have : ∀ l : List RowV, (l.filter (isKey x)).length + (l.filter fun r => !isKey x r).length = l.length := by
      intro l
      induction l with
      | nil => rfl
      | cons r l ih2 => cases hr : isKey x r <;> simp [hr] <;> omega
    exact this l
theorem flatMap_len_le {α β γ : Type} {f : α → List β} {g : α → List γ} : ∀ {l : List α}, (∀ x ∈ l, (f x).length ≤ (g x).length) → (l.flatMap f).length ≤ (l.flatMap g).length
  | [], _ => by simp
  | x :: l, h => by
    have ih := flatMap_len_le (l := l) fun y hy => h y (List.mem_cons_of_mem _ hy)
    have := h x (List.mem_cons_self)
    rw [List.flatMap_cons, List.flatMap_cons, List.length_append, List.length_append]
    omega
theorem keys_all (a b : List RowV) : Rising (keysOf (sortL (a ++ b))) ∧ ∀ x, x ∈ keysOf (sortL (a ++ b)) ↔ (∃ r ∈ a, r.key = x) ∨ ∃ r ∈ b, r.key = x := by
  refine ⟨keysOf_rising (asc_keys (sortL_asc _)), fun x => ?_⟩
  rw [keysOf_mem]
  constructor
  · rintro ⟨r, hr, e⟩
    rw [(sortL_perm' _).mem_iff, List.mem_append] at hr
    rcases hr with hr | hr
    · exact .inl ⟨r, hr, e⟩
    · exact .inr ⟨r, hr, e⟩
  · rintro (⟨r, hr, e⟩ | ⟨r, hr, e⟩)
    · exact ⟨r, by rw [(sortL_perm' _).mem_iff, List.mem_append]; exact .inl hr, e⟩
    · exact ⟨r, by rw [(sortL_perm' _).mem_iff, List.mem_append]; exact .inr hr, e⟩
theorem keys_left (a b : List RowV) : ∀ r ∈ sortL a, r.key ∈ keysOf (sortL (a ++ b)) := fun r hr => ((keys_all a b).2 r.key).2 (.inl ⟨r, (sortL_perm' a).mem_iff.1 hr, rfl⟩)
/-- A row of the left side alone, for each. -/
def lonelyL (a b : List RowV) : List PairV := (keysOf (sortL (a ++ b))).flatMap fun key => (valsK (sortL a) key).map (leftP key)
theorem lonelyL_length (a b : List RowV) : (lonelyL a b).length = a.length := by
  have := rows_by_keys (g := fun k v => v.map (leftP k)) (by simp) (keysOf (sortL (a ++ b))) (sortL a) (keys_all a b).1 (keys_left a b)
  rw [sortL_length] at this
  exact this
theorem valsK_nil (key : ByteArray) : valsK (sortL []) key = [] := rfl
theorem flatMap_one {α β : Type} (f : α → β) (l : List α) : (l.flatMap fun x => [f x]) = l.map f := by
  induction l with
  | nil => rfl
  | cons x l ih => rw [List.flatMap_cons, ih]; rfl
theorem none_left {n : Int} (hn : n = 2 ∨ n = 4 ∨ n = 6) (a : List RowV) : l5J n a [] = lonelyL a [] := by
  unfold l5J lonelyL
  refine flatMap_congr' fun key _ => ?_
  rw [valsK_nil]
  rcases hn with rfl | rfl | rfl <;> simp [oneK, leftP, flatMap_one]
theorem none_none {n : Int} (hn : n = 1 ∨ n = 3 ∨ n = 5) (a : List RowV) : l5J n a [] = [] := by
  unfold l5J
  rw [List.flatMap_eq_nil_iff]
  intro key _
  rw [valsK_nil]
  rcases hn with rfl | rfl | rfl <;> simp [oneK]
theorem self_semi (a : List RowV) : l5J 5 a a = lonelyL a a := by
  unfold l5J lonelyL
  refine flatMap_congr' fun key _ => ?_
  cases h : valsK (sortL a) key with
  | nil => simp [oneK]
  | cons x l => simp [oneK, leftP, flatMap_one]
theorem self_anti (a : List RowV) : l5J 6 a a = [] := by
  unfold l5J
  rw [List.flatMap_eq_nil_iff]
  intro key _
  cases h : valsK (sortL a) key with
  | nil => simp [oneK]
  | cons x l => simp [oneK]
theorem self_full (a : List RowV) : l5J 4 a a = l5J 1 a a := by
  unfold l5J
  refine flatMap_congr' fun key _ => ?_
  cases h : valsK (sortL a) key with
  | nil => simp [oneK]
  | cons x l => simp [oneK]
theorem self_many (a : List RowV) : a.length ≤ (l5J 1 a a).length := by
  rw [← lonelyL_length a a]
  unfold l5J lonelyL
  refine flatMap_len_le fun key _ => ?_
  rw [List.length_map]
  generalize valsK (sortL a) key = v
  have h : ∀ u : List ByteArray, 0 < v.length → u.length ≤ (u.flatMap fun x => v.map fun y => (⟨key, x, y, true, true⟩ : PairV)).length := by
    intro u hv
    induction u with
    | nil => simp
    | cons x u ih =>
      rw [List.flatMap_cons, List.length_append, List.length_map, List.length_cons]
      omega
  rcases Nat.eq_zero_or_pos v.length with h0 | h0
  · omega
  · have := h v h0
    simpa [oneK] using this
end Go.Proofs.Ytbcdpgjjfllgjaa

namespace Go.Proofs.Ytbcdpgjjfllgjaa
open Go.RowKit
theorem flatMap_none {α β : Type} (l : List α) : (l.flatMap fun _ => ([] : List β)) = [] := by
  induction l with
  | nil => rfl
  | cons x l ih => rw [List.flatMap_cons, ih]; rfl
theorem filter_map_none {α β : Type} {q : β → Bool} {f : α → β} (h : ∀ x, q (f x) = false) (l : List α) : (l.map f).filter q = [] := by
  rw [List.filter_eq_nil_iff]
  intro x hx
  obtain ⟨y, _, rfl⟩ := List.mem_map.1 hx
  rw [h]; decide
theorem one_semi {key : ByteArray} {a b : List ByteArray} {p : PairV} (h : p ∈ oneK 5 key a b) : p.key = key ∧ b ≠ [] := by
  cases b with
  | nil => simp [oneK] at h
  | cons y b =>
    refine ⟨?_, by simp⟩
    simp [oneK] at h
    obtain ⟨x, _, rfl⟩ := h
    rfl
theorem one_anti {key : ByteArray} {a b : List ByteArray} {p : PairV} (h : p ∈ oneK 6 key a b) : p.key = key ∧ b = [] := by
  cases b with
  | nil =>
    refine ⟨?_, rfl⟩
    simp [oneK] at h
    obtain ⟨x, _, rfl⟩ := h
    rfl
  | cons y b => simp [oneK] at h
theorem semi_anti_keys {a b : List RowV} {p q : PairV} (hp : p ∈ l5J 5 a b) (hq : q ∈ l5J 6 a b) : (p.key.toList == q.key.toList) = false := by
  unfold l5J at hp hq
  obtain ⟨k, _, hk⟩ := List.mem_flatMap.1 hp
  obtain ⟨m, _, hm⟩ := List.mem_flatMap.1 hq
  obtain ⟨e1, h1⟩ := one_semi hk
  obtain ⟨e2, h2⟩ := one_anti hm
  rw [beq_eq_false_iff_ne]
  intro e
  have := ext_toList e
  rw [e1, e2] at this
  rw [this] at h1
  exact h1 h2
theorem flatMap_two {α β γ δ : Type} {f : α → List β} {g : α → List γ} {h : α → List δ} (hh : ∀ x, (f x).length + (g x).length = (h x).length) : ∀ l : List α, (l.flatMap f).length + (l.flatMap g).length = (l.flatMap h).length
  | [] => by simp
  | x :: l => by
    have ih := flatMap_two hh l
    have := hh x
    rw [List.flatMap_cons, List.flatMap_cons, List.flatMap_cons, List.length_append, List.length_append, List.length_append]
    omega
theorem semi_anti_length (a b : List RowV) : (l5J 5 a b).length + (l5J 6 a b).length = a.length := by
  rw [← lonelyL_length a b]
  unfold l5J lonelyL
  refine flatMap_two (fun key => ?_) _
  cases valsK (sortL b) key with
  | nil =>
    have e1 : oneK 5 key (valsK (sortL a) key) [] = [] := by simp only [oneK]; simp [flatMap_none]
    have e2 : oneK 6 key (valsK (sortL a) key) [] = (valsK (sortL a) key).map (leftP key) := by simp only [oneK]; simp [flatMap_one, leftP]
    rw [e1, e2]; simp
  | cons y l =>
    have e1 : oneK 6 key (valsK (sortL a) key) (y :: l) = [] := by simp only [oneK]; simp [flatMap_none]
    have e2 : oneK 5 key (valsK (sortL a) key) (y :: l) = (valsK (sortL a) key).map (leftP key) := by simp only [oneK]; simp [flatMap_one, leftP]
    rw [e1, e2]; simp
theorem one_left {key : ByteArray} (a b : List ByteArray) : (oneK 2 key a b).filter (fun p => !p.hr) = oneK 6 key a b := by
  cases b with
  | nil =>
    simp only [oneK]
    simp [flatMap_one]
  | cons y b =>
    have e2 : oneK 6 key a (y :: b) = [] := by simp only [oneK]; simp [flatMap_none]
    have e1 : oneK 2 key a (y :: b) = a.flatMap fun x => (y :: b).map (bothP key x) := by simp only [oneK]; simp; rfl
    rw [e1, e2, List.filter_flatMap]
    have : ∀ x, ((y :: b).map (bothP key x)).filter (fun p => !p.hr) = [] := fun x => filter_map_none (fun _ => rfl) _
    simp only [this]
    exact flatMap_none a
theorem left_anti (a b : List RowV) : (l5J 2 a b).filter (fun p => !p.hr) = l5J 6 a b := by
  unfold l5J
  rw [List.filter_flatMap]
  exact flatMap_congr' fun key _ => one_left _ _
/-- How many of the first i are left alone. -/
def aloneN (l : List PairV) (i : Nat) : Nat := (l.take i).countP fun p => !p.hr
theorem aloneN_zero (l : List PairV) : aloneN l 0 = 0 := rfl
theorem aloneN_yes {l : List PairV} {i : Nat} {p : PairV} (h : l[i]? = some p) (hr : p.hr = false) : aloneN l (i + 1) = aloneN l i + 1 := by
  unfold aloneN
  rw [List.take_add_one, h, Option.toList_some, List.countP_append]
  simp [hr]
theorem aloneN_no {l : List PairV} {i : Nat} {p : PairV} (h : l[i]? = some p) (hr : p.hr = true) : aloneN l (i + 1) = aloneN l i := by
  unfold aloneN
  rw [List.take_add_one, h, Option.toList_some, List.countP_append]
  simp [hr]
theorem alone_at {l : List PairV} {i : Nat} {p : PairV} (h : l[i]? = some p) (hr : p.hr = false) : (l.filter fun p => !p.hr)[aloneN l i]? = some p := by
  obtain ⟨hi, e⟩ := List.getElem?_eq_some_iff.1 h
  have hs : l = l.take i ++ p :: l.drop (i + 1) := by
    rw [← e, ← List.drop_eq_getElem_cons hi, List.take_append_drop]
  unfold aloneN
  rw [List.countP_eq_length_filter]
  have e2 : (l.filter fun p => !p.hr) = ((l.take i).filter fun p => !p.hr) ++ p :: ((l.drop (i + 1)).filter fun p => !p.hr) := by
    have e3 := congrArg (List.filter fun p : PairV => !p.hr) hs
    rw [List.filter_append, List.filter_cons_of_pos (by simp [hr])] at e3
    exact e3
  rw [e2, List.getElem?_append_right (Nat.le_refl _), Nat.sub_self]
  rfl
theorem aloneN_all {l : List PairV} {i : Nat} (h : l.length ≤ i) : aloneN l i = (l.filter fun p => !p.hr).length := by
  unfold aloneN
  rw [List.take_of_length_le h, List.countP_eq_length_filter]
theorem aloneN_le (l : List PairV) (i : Nat) : aloneN l i ≤ i := by
  unfold aloneN
  have := List.countP_le_length (p := fun p : PairV => !p.hr) (l := l.take i)
  rw [List.length_take] at this
  omega
end Go.Proofs.Ytbcdpgjjfllgjaa

namespace Go.Proofs.Ytbcdpgjjfllgjaa
open Go.RowKit
theorem rising_sublist : ∀ {K L : List ByteArray}, Rising K → Rising L → (∀ x ∈ K, x ∈ L) → K.Sublist L
  | [], L, _, _, _ => List.nil_sublist L
  | k :: K, [], _, _, h => by have := h k (List.mem_cons_self); cases this
  | k :: K, y :: L, hK, hL, h => by
    obtain ⟨k1, k2⟩ := List.pairwise_cons.1 hK
    obtain ⟨l1, l2⟩ := List.pairwise_cons.1 hL
    by_cases e : k = y
    · subst e
      refine List.Sublist.cons_cons _ (rising_sublist k2 l2 fun x hx => ?_)
      refine (List.mem_cons.1 (h x (List.mem_cons_of_mem _ hx))).resolve_left fun e => ?_
      subst e
      have := k1 x hx
      rw [bl_irrefl] at this; cases this
    · refine List.Sublist.cons _ (rising_sublist hK l2 fun x hx => ?_)
      refine (List.mem_cons.1 (h x hx)).resolve_left fun e2 => ?_
      subst e2
      have hk : k ∈ L := (List.mem_cons.1 (h k (List.mem_cons_self))).resolve_left e
      have h1 := l1 k hk
      rcases List.mem_cons.1 hx with e3 | hx
      · exact e e3.symm
      · have h2 := k1 x hx
        rw [bl_asymm h1] at h2; cases h2
theorem flatMap_sub {α β : Type} {f g : α → List β} (h : ∀ x, (f x).Sublist (g x)) : ∀ l : List α, (l.flatMap f).Sublist (l.flatMap g)
  | [] => List.Sublist.refl _
  | x :: l => by
    rw [List.flatMap_cons, List.flatMap_cons]
    exact (h x).append (flatMap_sub h l)
theorem sub_flatMap {α β : Type} (f : α → List β) : ∀ {k l : List α}, k.Sublist l → (k.flatMap f).Sublist (l.flatMap f)
  | _, _, .slnil => List.Sublist.refl _
  | _, _, .cons x h => by
    rw [List.flatMap_cons]
    exact (sub_flatMap f h).trans (List.sublist_append_right _ _)
  | _, _, .cons_cons x h => by
    rw [List.flatMap_cons, List.flatMap_cons]
    exact (List.Sublist.refl _).append (sub_flatMap f h)
theorem ins_sub (r : RowV) (l : List RowV) : l.Sublist (ins r l) := by
  unfold ins
  have h : (l.take (insPos r l) ++ l.drop (insPos r l)).Sublist (l.take (insPos r l) ++ [r] ++ l.drop (insPos r l)) :=
    (List.sublist_append_left _ _).append (List.Sublist.refl _)
  rwa [List.take_append_drop] at h
theorem vals_sub (b : List RowV) (r : RowV) (key : ByteArray) : (valsK (sortL b) key).Sublist (valsK (sortL (b ++ [r])) key) := by
  rw [sortL_snoc]
  unfold valsK
  exact ((ins_sub r (sortL b)).filter _).map _
theorem keys_sub (a b : List RowV) (r : RowV) : (keysOf (sortL (a ++ b))).Sublist (keysOf (sortL (a ++ (b ++ [r])))) := by
  refine rising_sublist (keys_all a b).1 (keys_all a (b ++ [r])).1 fun x hx => ?_
  rw [(keys_all a (b ++ [r])).2]
  rcases ((keys_all a b).2 x).1 hx with h | ⟨q, hq, e⟩
  · exact .inl h
  · exact .inr ⟨q, List.mem_append_left _ hq, e⟩
theorem join_sub {n : Int} (hn : ∀ key (v u u' : List ByteArray), u.Sublist u' → (oneK n key v u).Sublist (oneK n key v u')) (a b : List RowV) (r : RowV) : (l5J n a b).Sublist (l5J n a (b ++ [r])) := by
  unfold l5J
  exact (sub_flatMap _ (keys_sub a b r)).trans (flatMap_sub (fun key => hn key _ _ _ (vals_sub b r key)) _)
theorem one_inner (key : ByteArray) (v u : List ByteArray) : oneK 1 key v u = v.flatMap fun x => u.map (bothP key x) := by
  simp only [oneK]; simp; rfl
theorem one_semi_of (key : ByteArray) (v u : List ByteArray) : oneK 5 key v u = if u.length = 0 then [] else v.map (leftP key) := by
  cases u with
  | nil => simp only [oneK]; simp [flatMap_none]
  | cons y u => simp only [oneK]; simp [flatMap_one, leftP]
theorem inner_sub (a b : List RowV) (r : RowV) : (l5J 1 a b).Sublist (l5J 1 a (b ++ [r])) := by
  refine join_sub (fun key v u u' h => ?_) a b r
  rw [one_inner, one_inner]
  exact flatMap_sub (fun x => h.map _) v
theorem anti_less (a b : List RowV) (r : RowV) : (l5J 6 a (b ++ [r])).length ≤ (l5J 6 a b).length := by
  have h : (l5J 5 a b).Sublist (l5J 5 a (b ++ [r])) := by
    refine join_sub (fun key v u u' h => ?_) a b r
    rw [one_semi_of, one_semi_of]
    have hl := h.length_le
    split
    · exact List.nil_sublist _
    · rw [if_neg (by omega)]
      exact List.Sublist.refl _
  have h1 := h.length_le
  have h2 := semi_anti_length a b
  have h3 := semi_anti_length a (b ++ [r])
  omega
/-- One step of finding one list in another. -/
theorem sub_step {x y : PairV} {l f : List PairV} (h : (y :: f).Sublist (x :: l)) : (x = y → f.Sublist l) ∧ (x ≠ y → (y :: f).Sublist l) := by
  constructor
  · rintro rfl
    exact List.cons_sublist_cons.1 h
  · intro hne
    cases h with
    | cons _ h => exact h
    | cons_cons _ h => exact absurd rfl hne
end Go.Proofs.Ytbcdpgjjfllgjaa

namespace Go.Proofs.Ytbcdpgjjfllgjaa
open Go.RowKit
theorem filter_sorted5 (l : List RowV) (p : RowV → Bool) : (sortL l).filter p = sortL (l.filter p) :=
  sortL_unique (List.Pairwise.sublist List.filter_sublist (sortL_asc l)) ((sortL_perm' l).filter p)
theorem rising_eq {K L : List ByteArray} (hK : Rising K) (hL : Rising L) (h : ∀ x, x ∈ K ↔ x ∈ L) : K = L :=
  (rising_sublist hK hL fun x hx => (h x).1 hx).eq_of_length_le (rising_sublist hL hK fun x hx => (h x).2 hx).length_le
theorem flatMap_filter_none {α β : Type} {f : α → List β} {q : α → Bool} (h : ∀ x, q x = false → f x = []) : ∀ l : List α, l.flatMap f = (l.filter q).flatMap f
  | [] => rfl
  | x :: l => by
    have ih := flatMap_filter_none h l
    cases hq : q x
    · rw [List.flatMap_cons, h x hq, List.filter_cons_of_neg (by rw [hq]; decide), ih]; rfl
    · rw [List.flatMap_cons, List.filter_cons_of_pos hq, List.flatMap_cons, ih]
theorem valsK_mem {l : List RowV} {key : ByteArray} : valsK l key ≠ [] ↔ ∃ r ∈ l, r.key = key := by
  unfold valsK
  rw [Ne, List.map_eq_nil_iff, List.filter_eq_nil_iff]
  constructor
  · intro h
    have h' : ∃ r, r ∈ l ∧ isKey key r = true := by
      apply Classical.byContradiction
      intro h2
      exact h fun r hr hk => h2 ⟨r, hr, hk⟩
    obtain ⟨r, hr, hk⟩ := h'
    exact ⟨r, hr, isKey_iff.1 hk⟩
  · rintro ⟨r, hr, e⟩ h
    exact h r hr (isKey_iff.2 e)
/-- A join that tells nothing of a key that the right side lacks goes by the keys of the right side. -/
theorem by_right {n : Int} (hn : ∀ key v, oneK n key v [] = []) (a b : List RowV) : l5J n a b = (keysOf (sortL b)).flatMap fun key => oneK n key (valsK (sortL a) key) (valsK (sortL b) key) := by
  unfold l5J
  rw [flatMap_filter_none (q := fun key => !(valsK (sortL b) key).isEmpty) (fun key h => by
    have : valsK (sortL b) key = [] := by simpa using h
    rw [this]; exact hn _ _)]
  congr 1
  refine rising_eq (List.Pairwise.filter _ (keys_all a b).1) (keysOf_rising (asc_keys (sortL_asc b))) fun x => ?_
  rw [List.mem_filter, (keys_all a b).2, keysOf_mem]
  have e : (!(valsK (sortL b) x).isEmpty) = true ↔ ∃ r ∈ sortL b, r.key = x := by
    rw [← valsK_mem]; simp
  rw [e]
  constructor
  · exact fun h => h.2
  · rintro ⟨r, hr, hk⟩
    exact ⟨.inr ⟨r, (sortL_perm' b).mem_iff.1 hr, hk⟩, r, hr, hk⟩
theorem join_passed {n : Int} (hn : ∀ key v, oneK n key v [] = []) {a b : List RowV} {p : RowV → Bool} (hp : ∀ r ∈ a, (∃ q ∈ b, q.key = r.key) → p r = true) : l5J n (a.filter p) b = l5J n a b := by
  rw [by_right hn, by_right hn]
  refine flatMap_congr' fun key hkey => ?_
  obtain ⟨q, hq, e⟩ := (keysOf_mem _ _).1 hkey
  have hv : valsK (sortL (a.filter p)) key = valsK (sortL a) key := by
    rw [← filter_sorted5]
    unfold valsK
    rw [List.filter_filter]
    congr 1
    refine List.filter_congr fun r hr => ?_
    cases hk : isKey key r
    · rfl
    · rw [hp r ((sortL_perm' a).mem_iff.1 hr) ⟨q, (sortL_perm' b).mem_iff.1 hq, by rw [e, isKey_iff.1 hk]⟩]; rfl
  rw [hv]
theorem inner_none (key : ByteArray) (v : List ByteArray) : oneK 1 key v [] = [] := by
  rw [one_inner]
  exact flatMap_none v
theorem semi_none (key : ByteArray) (v : List ByteArray) : oneK 5 key v [] = [] := by
  rw [one_semi_of]; rfl
end Go.Proofs.Ytbcdpgjjfllgjaa

namespace Go.Proofs.Ytbcdpgjjfllgjaa
open Go.RowKit

theorem both_same (n : Int) (x : ByteArray) (n2 : Int) (x2 : ByteArray) : bothV n x n2 x2 = bothS n x n2 x2 := by
  unfold bothV bothS
  cases h : bothB n x n2 x2
  · rfl
  simp only [bothB, Bool.and_eq_true, beq_iff_eq] at h
  obtain ⟨⟨h1, h2⟩, rfl⟩ := h
  have e1 := filB_size h1
  have e2 := filB_size h2
  have f1 := filB_facts h1
  have l1 : x.data.toList.length = x.size := by simp
  have l2 : x2.data.toList.length = x2.size := by simp
  have p1 := padL_length x f1.2.2
  have p2 := padL_length x2 (by omega)
  have hm : (n / 8).toNat = x.size := by omega
  have E : bytesOf n (orBytes 32 (padL x) (padL x2)) = orS x x2 := by
    unfold bytesOf orS orBytes
    rw [hm, List.take_of_length_le (l := padL x) (by omega), List.take_of_length_le (l := padL x2) (by omega), show (padL x).drop 32 = [] from List.drop_eq_nil_of_le (by omega), List.append_nil, List.take_zipWith, show x.data.toList.drop x.size = [] from List.drop_eq_nil_of_le (by omega), List.append_nil]
    have g1 : (padL x).take x.size = x.data.toList.take x.size := by unfold padL; rw [List.take_append_of_le_length (by omega)]
    have g2 : (padL x2).take x.size = x2.data.toList.take x.size := by unfold padL; rw [List.take_append_of_le_length (by omega)]
    rw [g1, g2]
  simp only [E, if_true]
def bothN (n : Int) (x : ByteArray) (n2 : Int) (x2 : ByteArray) : Int := if bothB n x n2 x2 then n else 0
def bothT (n : Int) (x : ByteArray) (n2 : Int) (x2 : ByteArray) : ByteArray := if bothB n x n2 x2 then orS x x2 else ⟨#[]⟩
theorem both_form (n : Int) (x : ByteArray) (n2 : Int) (x2 : ByteArray) : bothS n x n2 x2 = .tuple #[.agg #[.int .i64 (bothN n x n2 x2), .string (bothT n x n2 x2)], .bool (bothB n x n2 x2)] := by
  unfold bothS bothN bothT
  cases bothB n x n2 x2 <;> rfl
end Go.Proofs.Ytbcdpgjjfllgjaa

namespace Go.Proofs.Ytbcdpgjjfllgjaa
open Go.RowKit
theorem orS_data {x x2 : ByteArray} (h : x2.size = x.size) : (orS x x2).data.toList = List.zipWith (· ||| ·) x.data.toList x2.data.toList := by
  have l1 : x.data.toList.length = x.size := by simp
  have l2 : x2.data.toList.length = x2.size := by simp
  unfold orS orBytes
  rw [List.take_of_length_le (by omega), List.take_of_length_le (by omega), List.drop_eq_nil_of_le (by omega), List.append_nil]
theorem ba_ext {a b : ByteArray} (h : a.data.toList = b.data.toList) : a = b := ByteArray.ext (Array.toList_inj.1 h)
theorem orS_size {x x2 : ByteArray} (h : x2.size = x.size) : (orS x x2).size = x.size := by
  have l0 : (orS x x2).data.toList.length = (orS x x2).size := by simp
  have l1 : x.data.toList.length = x.size := by simp
  have l2 : x2.data.toList.length = x2.size := by simp
  rw [← l0, orS_data h, List.length_zipWith]; omega
theorem orS_comm {x x2 : ByteArray} (h : x2.size = x.size) : orS x2 x = orS x x2 := by
  apply ba_ext
  rw [orS_data h.symm, orS_data h, List.zipWith_comm]
  congr 1
  funext a b
  exact UInt8.or_comm _ _
theorem orS_again {x x2 : ByteArray} (h : x2.size = x.size) : orS (orS x x2) x = orS x x2 := by
  have hs := orS_size h
  apply ba_ext
  rw [orS_data (x := orS x x2) (x2 := x) (by omega), orS_data h]
  apply List.ext_getElem
  · simp
  · intro i h1 h2
    simp only [List.getElem_zipWith]
    rw [UInt8.or_comm, ← UInt8.or_assoc, UInt8.or_self]
theorem orS_le {x x2 : ByteArray} (h : x2.size = x.size) : LeB x.data.toList (orS x x2).data.toList ∧ LeB x2.data.toList (orS x x2).data.toList := by
  have l1 : x.data.toList.length = x.size := by simp
  have l2 : x2.data.toList.length = x2.size := by simp
  rw [orS_data h]
  constructor
  · intro q
    simp only [List.getD]
    by_cases hq : q < x.size
    · rw [List.getElem?_eq_getElem (by omega), List.getElem?_eq_getElem (by rw [List.length_zipWith]; omega)]
      simp only [Option.getD_some, List.getElem_zipWith]
      rw [← UInt8.or_assoc, UInt8.or_self]
    · rw [List.getElem?_eq_none (by omega), List.getElem?_eq_none (by rw [List.length_zipWith]; omega)]; rfl
  · intro q
    simp only [List.getD]
    by_cases hq : q < x.size
    · rw [List.getElem?_eq_getElem (by omega), List.getElem?_eq_getElem (by rw [List.length_zipWith]; omega)]
      simp only [Option.getD_some, List.getElem_zipWith]
      rw [UInt8.or_comm (x.data.toList[q]'(by omega)), ← UInt8.or_assoc, UInt8.or_self]
    · rw [List.getElem?_eq_none (by omega), List.getElem?_eq_none (by rw [List.length_zipWith]; omega)]; rfl
theorem hasB_eq {n : Int} {x s : ByteArray} (h : filB n x = true) (hs : s.size ≤ 12) : hasB n x s = hasK n s x.data.toList := by
  obtain ⟨q0, q1, q4, q5, q2⟩ := filB_all h
  have l1 : x.data.toList.length = x.size := by simp
  rw [hasK_eq n s _ (by rw [l1]; exact plN_lt n s _ q0 q4 q5)]
  unfold hasB addOk
  rw [h, decide_eq_true hs, Bool.and_true, Bool.true_and, decide_eq_decide]
  constructor
  · intro e; have := congrArg (fun b : ByteArray => b.data.toList) e; exact this
  · intro e; unfold addS; rw [e]
theorem hasB_mono {n : Int} {x t s : ByteArray} (h : filB n x = true) (ht : filB n t = true) (hs : s.size ≤ 12) (hl : LeB x.data.toList t.data.toList) (hx : hasB n x s = true) : hasB n t s = true := by
  rw [hasB_eq h hs] at hx
  rw [hasB_eq ht hs]
  unfold hasK at *
  simp only [Bool.and_eq_true] at *
  exact ⟨⟨hasL_mono hl hx.1.1, hasL_mono hl hx.1.2⟩, hasL_mono hl hx.2⟩
theorem filB_or {n : Int} {x x2 : ByteArray} (h : filB n x = true) (h2 : x2.size = x.size) : filB n (orS x x2) = true := by
  unfold filB at *
  rw [orS_size h2]; exact h
theorem bothB_parts {n n2 : Int} {x x2 : ByteArray} (h : bothB n x n2 x2 = true) : n2 = n ∧ filB n x = true ∧ filB n x2 = true ∧ x2.size = x.size := by
  simp only [bothB, Bool.and_eq_true, beq_iff_eq] at h
  obtain ⟨⟨h1, h2⟩, rfl⟩ := h
  have := filB_size h1
  have := filB_size h2
  exact ⟨rfl, h1, h2, by omega⟩
theorem both_yes {n : Int} {x x2 : ByteArray} (h1 : filB n x = true) (h2 : filB n x2 = true) : bothB n x n x2 = true ∧ bothN n x n x2 = n ∧ bothT n x n x2 = orS x x2 := by
  have e : bothB n x n x2 = true := by simp [bothB, h1, h2]
  exact ⟨e, by simp [bothN, e], by simp [bothT, e]⟩
theorem bothT_size (n : Int) (x : ByteArray) (n2 : Int) (x2 : ByteArray) : (bothT n x n2 x2).size ≤ 32 := by
  unfold bothT
  split
  · rename_i h
    obtain ⟨_, h1, _, h3⟩ := bothB_parts h
    rw [orS_size h3]
    exact (filB_facts h1).2.2
  · decide
/-- The six keys that are asked for. -/
def sixK : List ByteArray := [⟨#[]⟩, ⟨#[97]⟩, ⟨#[98]⟩, ⟨#[97, 98]⟩, ⟨#[99]⟩, ⟨#[107, 101, 121]⟩]
theorem sixK_size (s : ByteArray) (h : s ∈ sixK) : s.size ≤ 12 := by
  simp only [sixK, List.mem_cons, List.not_mem_nil, or_false] at h
  rcases h with rfl | rfl | rfl | rfl | rfl | rfl <;> decide
theorem or_setL (l m : List UInt8) (i : Nat) (h : i / 8 < l.length) (hm : m.length = l.length) : List.zipWith (· ||| ·) (setL l i) m = setL (List.zipWith (· ||| ·) l m) i := by
  apply List.ext_getElem
  · simp [setL]
  · intro q h1 h2
    have hql : q < l.length := by simp [setL] at h1; omega
    simp only [setL, List.getElem_zipWith, List.getElem_set]
    by_cases e : i / 8 = q
    · subst e
      simp only [if_true, List.getD, List.getElem?_eq_getElem hql, List.getElem?_eq_getElem (show i / 8 < (List.zipWith (· ||| ·) l m).length by rw [List.length_zipWith]; omega), Option.getD_some, List.getElem_zipWith, bitC]
      generalize (1 : UInt8) <<< UInt8.ofNat (i % 8) = z
      rw [UInt8.or_assoc, UInt8.or_comm z, ← UInt8.or_assoc]
    · simp only [if_neg e]
theorem or_addL (n : Int) (s : ByteArray) (l m : List UInt8) (h : ∀ k, plN n s k / 8 < l.length) (hm : m.length = l.length) : List.zipWith (· ||| ·) (addL n s l) m = addL n s (List.zipWith (· ||| ·) l m) := by
  unfold addL
  have e1 : (setL l (plN n s 0)).length = l.length := setL_length _ _
  have e2 : (setL (setL l (plN n s 0)) (plN n s 1)).length = l.length := by rw [setL_length, e1]
  rw [or_setL _ _ _ (by rw [e2]; exact h 2) (by rw [e2]; exact hm), or_setL _ _ _ (by rw [e1]; exact h 1) (by rw [e1]; exact hm), or_setL _ _ _ (h 0) hm]
theorem or_ofL (n : Int) (rs : List RowV) (l m : List UInt8) (k : Nat) (h0 : 8 ≤ n) (h8 : n % 8 = 0) (hk : (k : Int) = n / 8) (hl : l.length = k) (hm : m.length = k) : List.zipWith (· ||| ·) (ofL n rs l) m = ofL n rs (List.zipWith (· ||| ·) l m) := by
  unfold ofL
  induction rs generalizing l with
  | nil => rfl
  | cons r rs ih =>
    rw [List.foldl_cons, List.foldl_cons, ih (addL n r.key l) (by rw [addL_length]; exact hl), or_addL n r.key l m (by rw [hl]; exact plN_lt n r.key k h0 h8 hk) (by omega)]
theorem zero_or (m : List UInt8) : List.zipWith (· ||| ·) (List.replicate m.length (0 : UInt8)) m = m := by
  apply List.ext_getElem
  · simp
  · intro q h1 h2; simp
theorem or_both (n : Int) (a b : List RowV) (h0 : 8 ≤ n) (h8 : n % 8 = 0) : List.zipWith (· ||| ·) (ofL n a (zeroL n)) (ofL n b (zeroL n)) = ofL n a (ofL n b (zeroL n)) := by
  have e : (ofL n b (zeroL n)).length = (n / 8).toNat := by rw [ofL_length]; simp [zeroL]
  rw [or_ofL n a (zeroL n) _ (n / 8).toNat h0 h8 (by omega) (by simp [zeroL]) e]
  congr 1
  have := zero_or (ofL n b (zeroL n))
  rw [e] at this
  exact this
theorem ofS_size (rs : List RowV) (n : Int) (h0 : 8 ≤ n) : ((ofS rs n).size : Int) = n / 8 := by
  have : (ofS rs n).size = (n / 8).toNat := by simp [ofS, ByteArray.size, ofL_length, zeroL]
  omega
theorem ofS_or (n : Int) (a b : List RowV) (h0 : 8 ≤ n) (h8 : n % 8 = 0) : orS (ofS a n) (ofS b n) = ofS (a ++ b) n := by
  have s1 := ofS_size a n h0
  have s2 := ofS_size b n h0
  apply ba_ext
  rw [orS_data (by omega)]
  show List.zipWith (· ||| ·) (ofL n a (zeroL n)) (ofL n b (zeroL n)) = ofL n (a ++ b) (zeroL n)
  rw [List.zipWith_comm]
  have e : (fun (x y : UInt8) => y ||| x) = (fun x y => x ||| y) := by funext x y; exact UInt8.or_comm _ _
  rw [e, or_both n b a h0 h8]
  unfold ofL
  rw [List.foldl_append]
theorem leB_addL (n : Int) (s : ByteArray) (l : List UInt8) (h : ∀ k, plN n s k / 8 < l.length) : LeB l (addL n s l) := by
  unfold addL
  have e1 : (setL l (plN n s 0)).length = l.length := setL_length _ _
  have e2 : (setL (setL l (plN n s 0)) (plN n s 1)).length = l.length := by rw [setL_length, e1]
  exact ((LeB.setL _ _ (h 0)).trans (LeB.setL _ _ (by rw [e1]; exact h 1))).trans (LeB.setL _ _ (by rw [e2]; exact h 2))
theorem hasK_addL (n : Int) (s : ByteArray) (l : List UInt8) (h : ∀ k, plN n s k / 8 < l.length) : hasK n s (addL n s l) = true := by
  have e1 : (setL l (plN n s 0)).length = l.length := setL_length _ _
  have e2 : (setL (setL l (plN n s 0)) (plN n s 1)).length = l.length := by rw [setL_length, e1]
  have g2 := hasL_setL (setL (setL l (plN n s 0)) (plN n s 1)) (plN n s 2) (by rw [e2]; exact h 2)
  have u2 := LeB.setL (setL (setL l (plN n s 0)) (plN n s 1)) (plN n s 2) (by rw [e2]; exact h 2)
  have u1 := LeB.setL (setL l (plN n s 0)) (plN n s 1) (by rw [e1]; exact h 1)
  have g1 := hasL_mono u2 (hasL_setL (setL l (plN n s 0)) (plN n s 1) (by rw [e1]; exact h 1))
  have g0 := hasL_mono (u1.trans u2) (hasL_setL l (plN n s 0) (h 0))
  unfold hasK
  unfold addL
  rw [g0, g1, g2]; rfl
theorem leB_ofL (n : Int) (rs : List RowV) (l : List UInt8) (k : Nat) (h0 : 8 ≤ n) (h8 : n % 8 = 0) (hk : (k : Int) = n / 8) (hl : l.length = k) : LeB l (ofL n rs l) := by
  unfold ofL
  induction rs generalizing l with
  | nil => exact LeB.refl _
  | cons r rs ih =>
    rw [List.foldl_cons]
    exact (leB_addL n r.key l (by rw [hl]; exact plN_lt n r.key k h0 h8 hk)).trans (ih (addL n r.key l) (by rw [addL_length]; exact hl))
theorem ofS_has (n : Int) (rs : List RowV) (i : Nat) (r : RowV) (hr : rs[i]? = some r) (h0 : 8 ≤ n) (h1 : n ≤ 256) (h8 : n % 8 = 0) (hs : r.key.size ≤ 12) : hasB n (ofS rs n) r.key = true := by
  have s1 := ofS_size rs n h0
  have hf : filB n (ofS rs n) = true := decide_eq_true ⟨h0, h1, h8, s1⟩
  rw [hasB_eq hf hs]
  obtain ⟨hi, e⟩ := List.getElem?_eq_some_iff.1 hr
  have e1 : rs = rs.take i ++ r :: rs.drop (i + 1) := by rw [← e, ← List.drop_eq_getElem_cons hi, List.take_append_drop]
  show hasK n r.key (ofL n rs (zeroL n)) = true
  have hk : (((n / 8).toNat : Nat) : Int) = n / 8 := by omega
  have e2 : ofL n rs (zeroL n) = ofL n (rs.drop (i + 1)) (addL n r.key (ofL n (rs.take i) (zeroL n))) := by
    conv => lhs; rw [e1]
    unfold ofL
    rw [List.foldl_append, List.foldl_cons]
  have hl : (ofL n (rs.take i) (zeroL n)).length = (n / 8).toNat := by rw [ofL_length]; simp [zeroL]
  have u := leB_ofL n (rs.drop (i + 1)) (addL n r.key (ofL n (rs.take i) (zeroL n))) _ h0 h8 hk (by rw [addL_length]; exact hl)
  have g := hasK_addL n r.key (ofL n (rs.take i) (zeroL n)) (by rw [hl]; exact plN_lt n r.key _ h0 h8 hk)
  rw [e2]
  unfold hasK at *
  simp only [Bool.and_eq_true] at *
  exact ⟨⟨hasL_mono u g.1.1, hasL_mono u g.1.2⟩, hasL_mono u g.2⟩
end Go.Proofs.Ytbcdpgjjfllgjaa

namespace Go.Proofs.Ytbcdpgjjfllgjaa
open Go.RowKit Go.Shelf
attribute [local go_sem] Oper.semAt_some
def rowV (r : RowV) : Value := .agg #[.string r.key, .int .i64 r.tag, .string r.val]
theorem abide_below {β : Type} {B : Nat} {J : β → World → Prop} (hJ : AbidesFrom B J) {s : β} {W W' : World} (h : J s W) (hb : Below W.heap.size W W') : J s W' :=
  hJ s W W' none h (gb_of_below hb none) (fun _ e => by cases e)
theorem filter_take_succ {rs : List RowV} {p : RowV → Bool} {k : Nat} {r : RowV} (h : rs[k]? = some r) (hp : p r = true) : (rs.take (k + 1)).filter p = (rs.take k).filter p ++ [r] := by
  obtain ⟨hk, rfl⟩ := List.getElem?_eq_some_iff.1 h
  rw [List.take_succ_eq_append_getElem hk, List.filter_append]; simp [hp]
theorem filter_take_skip {rs : List RowV} {p : RowV → Bool} {k : Nat} {r : RowV} (h : rs[k]? = some r) (hp : p r = false) : (rs.take (k + 1)).filter p = (rs.take k).filter p := by
  obtain ⟨hk, rfl⟩ := List.getElem?_eq_some_iff.1 h
  rw [List.take_succ_eq_append_getElem hk, List.filter_append]; simp [hp]
theorem filter_prefix {rs : List RowV} {p : RowV → Bool} (k : Nat) : (rs.take k).filter p <+: rs.filter p := by
  refine ⟨(rs.drop k).filter p, ?_⟩
  rw [← List.filter_append, List.take_append_drop]
set_option maxRecDepth 100000 in
set_option maxHeartbeats 2000000 in
theorem where1_in (n : Nat) (l Bl Bw n₀ Bc g : Nat) (a : Option Addr) (len cap : Nat) (rs : List RowV) (p : RowV → Bool) (hm : len ≤ 1048576) (J Jx : List RowV → World → Prop) (W : World) (hn₀ : n₀ ≤ W.heap.size)
    (hJ : AbidesFrom W.heap.size J)
    (hw : ∀ (k : Nat) (r : RowV) (W1 : World), rs[k]? = some r → Below n₀ W W1 → Calls Try.prog g #[rowV r, .pointer (some ⟨Bc, 0, none⟩)] W1 fun e W' => e = .returned (.bool (p r)) ∧ Below W1.heap.size W1 W')
    (eg : ∀ args w, (callFunc g args).run Try.prog w = .ok (.enter g args) w)
    (hY : ∀ pre x W1, J pre W1 → pre.length < rs.length → YieldAt Fence.wide (n - 1) Try.prog l #[rowV x] W1 fun e W' =>
      (e = .returned (.bool true) ∧ J (pre ++ [x]) W' ∧ Below n₀ W1 W') ∨ (e = .returned (.bool false) ∧ Jx (pre ++ [x]) W'))
    (hBl : W.cell? ⟨Bl, 0, none⟩ = some (.slice a len cap)) (hBw : W.cell? ⟨Bw, 0, none⟩ = some (.func (.func g) #[] #[.pointer (some ⟨Bc, 0, none⟩)])) (hlw : Bw < n₀) (hR : Rd W n₀ 3 a len (flat rs)) (h0 : J [] W) :
    CallsIn Fence.wide n Try.prog 93 #[.func (.yield l) #[] #[], .pointer (some ⟨Bl, 0, none⟩), .pointer (some ⟨Bw, 0, none⟩)] W fun e W' => (∃ v, e = .returned v) ∧
      ((∃ ys, ys = rs.filter p ∧ J ys W') ∨ (∃ pre, pre <+: rs.filter p ∧ Jx pre W')) := by
  have hl := Lib.hid hR.rows_length
  refine callsIn_of_wp Try.func93 rfl trivial ?_ rfl
  simp only [Try.ntmps93, List.size_toArray, List.length_cons, List.length_nil, Nat.reduceAdd, Nat.reduceSub, Array.replicate_succ, Array.replicate_zero, List.push_toArray, List.append_toArray, List.nil_append, List.cons_append]
  gi_wp2
  gi_loopw [8] (fun i wr => ∃ k : Nat, k ≤ len ∧ i = .int .i64 k ∧ J ((rs.take k).filter p) wr ∧ Below n₀ W wr)
    (fun i _ => len - (intOf i).toNat)
  case atStart => exact ⟨0, Nat.zero_le _, rfl, h0, Below.refl _ _⟩
  case round =>
    obtain ⟨k, hk, rfl, hJs, hnx⟩ := hrel
    by_cases hlt : k < len
    · obtain ⟨b, off, r, rfl, hB1, hrk, c0, c1, c2⟩ := (hR.below hnx (Nat.le_refl _)).row hlt
      have hcw := (hnx.cell (p := ⟨Bw, 0, none⟩) hlw).trans hBw
      have Hr := Lib.hid hrk
      clear hrk
      obtain ⟨key, tag, val⟩ := r
      have hsz : n₀ ≤ wr.heap.size := Nat.le_trans hn₀ hnx.size
      have hb1 := bl1 wr (.cells #[.string key, .int .i64 tag, .string val] 39)
      have hcw2 := (hb1.cell (p := ⟨Bw, 0, none⟩) (Nat.lt_of_lt_of_le hlw hsz)).trans hcw
      have C := hw k ⟨key, tag, val⟩ _ Hr.out (hnx.trans (hb1.mono hsz))
      have hr3 : (wr.alloc (.cells #[.string key, .int .i64 tag, .string val] 39)).heap[wr.heap.size]? = some (.cells #[.string key, .int .i64 tag, .string val] 39 (0, 0)) := World.alloc_heap_new _ _
      have hq : wr.heap.size < (wr.alloc (.cells #[.string key, .int .i64 tag, .string val] 39)).heap.size := by simp
      have hJ1 := abide_below hJ hJs hb1
      have hnx1 := hnx.trans (hb1.mono hsz)
      cases hp : p ⟨key, tag, val⟩
      · rw [hp] at C
        gi_wp2_with fail
        refine ⟨trivial, fun h => (by cases h), ?_⟩
        refine (callsIn_wide.2 C).mono ?_
        rintro e w2 ⟨rfl, hb2⟩
        have hJ2 := abide_below hJ hJ1 hb2
        have hnx2 := hnx1.trans (hb2.mono (Nat.le_of_lt (Nat.lt_of_le_of_lt hsz hq)))
        have Hp := Lib.hid hp
        clear C hr3 hq hJ1 hnx1 hb1 hcw2 hb2 hp
        gi_wp2_with fail
        refine ⟨fun _ h => (by cases h), ?_⟩
        gi_wp2_with fail
        go_roundw
        case rel => exact ⟨k + 1, by omega, by go_num, by rw [filter_take_skip Hr.out Hp.out]; exact hJ2, hnx2⟩
        case measure => simp [intOf]; omega
      · rw [hp] at C
        gi_wp2_with fail
        refine ⟨trivial, fun h => (by cases h), ?_⟩
        refine (callsIn_wide.2 C).mono ?_
        rintro e w2 ⟨rfl, hb2⟩
        have hJ2 := abide_below hJ hJ1 hb2
        have hnx2 := hnx1.trans (hb2.mono (Nat.le_of_lt (Nat.lt_of_le_of_lt hsz hq)))
        have hr4 := (hb2.block _ hq).trans hr3
        have z0 : w2.cell? ⟨wr.heap.size, 0, none⟩ = some (.string key) := by simp [World.cell?, hr4]
        have z1 : w2.cell? ⟨wr.heap.size, 1, none⟩ = some (.int .i64 tag) := by simp [World.cell?, hr4]
        have z2 : w2.cell? ⟨wr.heap.size, 2, none⟩ = some (.string val) := by simp [World.cell?, hr4]
        have Hp := Lib.hid hp
        clear C hr3 hJ1 hnx1 hb1 hcw2 hb2 hp hr4
        obtain ⟨fn, tmps, assign, body, hy, hRd⟩ := hY _ ⟨key, tag, val⟩ w2 hJ2 (by
          have := List.length_filter_le p (rs.take k)
          rw [List.length_take, hl.out] at this
          rw [hl.out]; omega)
        simp only [rowV] at hy
        gi_wp2_with fail
        refine ⟨fun h => (by cases h), ?_⟩
        refine hRd.mono ?_
        rintro e W3 (⟨rfl, hJ3, hk3⟩ | ⟨rfl, hJx3⟩)
        · rw [← filter_take_succ Hr.out Hp.out] at hJ3
          have hnx3 := hnx2.trans hk3
          clear z0 z1 z2 hJ2 hnx2 hk3
          gi_wp2_with fail
          go_roundw
          case rel => exact ⟨k + 1, by omega, by go_num, hJ3, hnx3⟩
          case measure => simp [intOf]; omega
        · rw [← filter_take_succ Hr.out Hp.out] at hJx3
          clear z0 z1 z2 hJ2 hnx2
          gi_wp2_with fail
          refine bodyPost_ret (results_none rfl _ _ _) rfl ?_
          exact ⟨⟨_, rfl⟩, .inr ⟨_, filter_prefix (k + 1), hJx3⟩⟩
    · obtain rfl : k = len := by omega
      gi_wp2
      go_end0
      refine ⟨⟨_, rfl⟩, .inl ⟨_, rfl, ?_⟩⟩
      rwa [List.take_of_length_le (by rw [hl.out]; omega)] at hJs
set_option maxRecDepth 100000 in
theorem where_any (a : Option Addr) (len cap : Nat) (f : Value) (w : World) (hf : ∃ g lb, f = .func (.func g) #[] lb) :
    Calls Try.prog 62 #[.slice a len cap, f] w fun e w' => e = .returned (.func (.func 93) #[] #[.pointer (some ⟨w.heap.size, 0, none⟩), .pointer (some ⟨w.heap.size + 1, 0, none⟩)]) ∧ w' = (w.alloc (.cells #[.slice a len cap] 27)).alloc (.cells #[f] 89) := by
  obtain ⟨g, lb, rfl⟩ := hf
  go_enter Try.func62, Try.ntmps62
  go_wp2_with fail
  go_ret
  exact ⟨rfl, rfl⟩
/-- What rowsWhere returns: the wanted rows, in their order. -/
theorem where_stops (n : Nat) (Bl Bw n₀ Bc g : Nat) (a : Option Addr) (len cap : Nat) (rs : List RowV) (p : RowV → Bool) (hm : len ≤ 1048576) (w : World) (hn₀ : n₀ ≤ w.heap.size)
    (hw : ∀ (k : Nat) (r : RowV) (W1 : World), rs[k]? = some r → Below n₀ w W1 → Calls Try.prog g #[rowV r, .pointer (some ⟨Bc, 0, none⟩)] W1 fun e W' => e = .returned (.bool (p r)) ∧ Below W1.heap.size W1 W')
    (eg : ∀ args w, (callFunc g args).run Try.prog w = .ok (.enter g args) w)
    (hBl : w.cell? ⟨Bl, 0, none⟩ = some (.slice a len cap)) (hBw : w.cell? ⟨Bw, 0, none⟩ = some (.func (.func g) #[] #[.pointer (some ⟨Bc, 0, none⟩)])) (hll : Bl < n₀) (hlw : Bw < n₀) (hR : Rd w n₀ 3 a len (flat rs)) :
    SeqStopsK Fence.wide n Try.prog 93 #[.pointer (some ⟨Bl, 0, none⟩), .pointer (some ⟨Bw, 0, none⟩)] (fun x : RowV => #[rowV x]) (Below n₀) (fun ys => ys = rs.filter p) (fun pre => pre <+: rs.filter p) rs.length w := fun l J Jx W hW hJ _ hY h0 =>
  where1_in n l Bl Bw n₀ Bc g a len cap rs p hm J Jx W (Nat.le_trans hn₀ hW.size) hJ (fun k r W1 hr hb => hw k r W1 hr ((hW.mono hn₀).trans hb)) eg hY ((hW.cell (p := ⟨Bl, 0, none⟩) (Nat.lt_of_lt_of_le hll hn₀)).trans hBl) ((hW.cell (p := ⟨Bw, 0, none⟩) (Nat.lt_of_lt_of_le hlw hn₀)).trans hBw) hlw (hR.below (hW.mono hn₀) (Nat.le_refl _)) h0
end Go.Proofs.Ytbcdpgjjfllgjaa

namespace Go.Proofs.Ytbcdpgjjfllgjaa
open Go.RowKit Go.Shelf
attribute [local go_sem] Oper.semAt_some
def Box3 (W : World) (B : Nat) (r : RowV) : Prop := W.heap[B]? = some (.cells #[.string r.key, .int .i64 r.tag, .string r.val] 39 (0, 0))
theorem Box3.c0 {W : World} {B : Nat} {r : RowV} (h : Box3 W B r) : W.cell? ⟨B, 0, none⟩ = some (.string r.key) := by simp [World.cell?, show W.heap[B]? = _ from h]
theorem Box3.c1 {W : World} {B : Nat} {r : RowV} (h : Box3 W B r) : W.cell? ⟨B, 1, none⟩ = some (.int .i64 r.tag) := by simp [World.cell?, show W.heap[B]? = _ from h]
theorem Box3.c2 {W : World} {B : Nat} {r : RowV} (h : Box3 W B r) : W.cell? ⟨B, 2, none⟩ = some (.string r.val) := by simp [World.cell?, show W.heap[B]? = _ from h]
theorem Box3.own {X Y : World} {B n : Nat} {r : RowV} {row : Option Nat} (h : Box3 X B r) (hg : X.grownBy Y row) (hr : ∀ q, row = some q → n ≤ q ∧ ∃ o : Obj, X.heap[q]? = some o ∧ o.isCells = false) : Box3 Y B r := by
  refine (hg.block B (Array.getElem?_eq_some_iff.1 h).1 (fun e => ?_)).trans h
  obtain ⟨_, o, ho, hc⟩ := hr B e.symm
  rw [show X.heap[B]? = _ from h] at ho; cases ho; cases hc
theorem cell_row_new (W : World) (r : RowV) (t : TypeId) : ∀ j u, [Value.string r.key, .int .i64 r.tag, .string r.val][j]? = some u → (W.alloc (.cells #[.string r.key, .int .i64 r.tag, .string r.val] t)).cell? ((⟨W.heap.size, 0, none⟩ : Addr).add j) = some u := by
  intro j u hu
  rw [Addr.add_mid, Nat.zero_add]
  rcases j with _ | _ | _ | j <;> simp at hu <;> subst hu <;> simp [go_sem]
theorem flat_snoc (l : List RowV) (r : RowV) : flat (l ++ [r]) = flat l ++ [.string r.key, .int .i64 r.tag, .string r.val] := by rw [flat_append]; rfl
def CollOut (w : World) (ys : List RowV) (e : Ending) (W' : World) : Prop := ∃ v, e = .returned v ∧ W'.ownsRow w.heap.size 39 3 v ys.length (flat ys) ∧ Below w.heap.size w W'
set_option maxRecDepth 100000 in
set_option maxHeartbeats 2000000 in
theorem appendSeq_any (gf : Nat) (lb : Array Value) (ys : List RowV) (N : Nat) (Sp : List RowV → Prop) (w : World) (hN : N ≤ 1048576)
    (eg : ∀ args w, (callFunc gf args).run Try.prog w = .ok (.enter gf args) w)
    (hseq : ∀ n, SeqStopsK Fence.wide n Try.prog gf lb (fun x : RowV => #[rowV x]) (Below w.heap.size) (fun xs => xs = ys) Sp N w) :
    Calls Try.prog 92 #[.slice none 0 0, .func (.func gf) #[] lb] w (CollOut w ys) := by
  obtain ⟨i0, hi, hz0, hz1, hz2⟩ := info_parts infoRow
  refine (callsIn_wide (n := 5)).1 ?_
  refine callsIn_of_wp_marks Try.func92 rfl trivial ?_ rfl
  simp only [Try.ntmps92, List.size_toArray, List.length_cons, List.length_nil, Nat.reduceAdd, Nat.reduceSub, Array.replicate_succ, Array.replicate_zero, List.push_toArray, List.append_toArray, List.nil_append, List.cons_append]
  gi_wp2_with fail
  have bO := Boxed.new w 27 (.slice none 0 0)
  have hB0 : Below w.heap.size w (w.alloc (.cells #[.slice none 0 0] 27)) := (Below.refl _ w).alloc (Nat.le_refl _) _
  refine wpIn_rangeFunc_ownH rfl (by omega) (gf := gf) (lb := lb) rfl trivial eg (hseq _) belowK_t (belowK_b (by simp)) hB0 (fun _ => rfl)
    (fun pre W => (∃ v, Boxed W w.heap.size 27 v ∧ W.ownsRow w.heap.size 39 3 v pre.length (flat pre) ∧ True) ∧ Below w.heap.size w W)
    (fun _ _ _ => False)
    (OwnFrom.and (Own.from (holdsRow_own w.heap.size w.heap.size 27 39 3 (fun pre : List RowV => pre.length) (fun pre => flat pre) (fun _ _ => True)) _) (ownFrom_below (Nat.le_refl _) (by simp)))
    (fun _ _ _ _ _ hs _ _ => hs)
    ⟨⟨_, bO, World.ownsRow_nil _ _ _ _, trivial⟩, hB0⟩
    (fun x a' W => ∃ Bx, w.heap.size < Bx ∧ Box3 W Bx x ∧ a' = { tmps := #[.slice none 0 0, .func (.func gf) #[] lb, .pointer (some ⟨w.heap.size, 0, none⟩), undef, .slice none 0 0, .pointer (some ⟨Bx, 0, none⟩), .func (.func gf) #[] lb, rowV x, undef, undef, undef, undef, undef], defers := [] })
    (fun x a' _ X Y row hs hg hr => by obtain ⟨Bx, h1, h2, h3⟩ := hs; exact ⟨Bx, h1, h2.own hg hr, h3⟩)
    ?assign ?body ?done ?stop
  case assign =>
    rintro l pre x W K ⟨⟨v, hv, hrow, _⟩, hB⟩ hK
    simp only [rowV] at *
    gi_wp2_with fail
    exact hK _ _ ((KeepsOthers.alloc _ _).from _) ((Below.refl _ W).alloc hB.size _) ⟨⟨v, hv.alloc _, hrow.alloc _, trivial⟩, hB.alloc hB.size _⟩ ⟨W.heap.size, hv.lt, World.alloc_heap_new _ _, rfl⟩
  case body =>
    rintro l pre x a' W hl _ ⟨⟨v, hv, hrow, _⟩, hB⟩ ⟨Bx, hBx, bX, rfl⟩ hlt
    have hc := hv.cell
    have z0 := bX.c0
    have z1 := bX.c1
    have z2 := bX.c2
    obtain ⟨key, tag, val⟩ := x
    simp only [rowV] at *
    gi_wp2_with (gi_at_builtin; refine wpListIn_append_own _ rfl _ _ 27 rfl w.heap.size 39 i0 (.agg #[.string ⟨#[]⟩, .int .i64 0, .string ⟨#[]⟩]) 3 40 Try.underlying27 hi hz0 hz1 hz2 rfl (by decide) _ _ _ rfl (hrow.alloc _) ⟨W.heap.size, 0, none⟩ 1 1 [.string key, .int .i64 tag, .string val] rfl rfl (cell_row_new W ⟨key, tag, val⟩ _) (by simp [Value.oneCell']) (by unfold maxLen; omega) (by omega) (by have := hB.size; simp; omega) ?_; intro v' w1 hown' hgrow _; obtain ⟨g', cap', rfl⟩ := ownsRow_succ hown'; obtain ⟨hv1, hv2, hr2, hk2, hb2⟩ := hv.appended (by decide) hrow hB.size (Nat.le_refl _) hown' hgrow; have hc1 := hv1.cell; have hf1 := hv1.frozen)
    exact ⟨hk2.from _, hb2, ⟨_, hv2, by rw [flat_snoc]; simpa using hr2, trivial⟩, hB.trans hb2⟩
  case done =>
    rintro D xs W hD rfl ⟨⟨v, hv, hrow, _⟩, hB⟩ hK
    have hc := hv.cell
    gi_wp2_with fail
    refine ⟨by simp, .inl ⟨_, _, rfl, run_takeDeferred hK, ?_⟩⟩
    exact ⟨_, results_tmp rfl _ _ _, v, rfl, ownsRow_putObj hrow _ hK rfl, hB.trans (belowK_b (w := w) (Nat.le_refl _) W D _ _ (by simp at hD; omega) hK rfl rfl)⟩
  case stop =>
    rintro D c pre W _ _ h _
    exact h.elim
set_option maxRecDepth 100000 in
theorem collect_any (gf : Nat) (lb : Array Value) (ys : List RowV) (N : Nat) (Sp : List RowV → Prop) (w : World) (hN : N ≤ 1048576)
    (eg : ∀ args w, (callFunc gf args).run Try.prog w = .ok (.enter gf args) w)
    (hseq : ∀ n, SeqStopsK Fence.wide n Try.prog gf lb (fun x : RowV => #[rowV x]) (Below w.heap.size) (fun xs => xs = ys) Sp N w) :
    Calls Try.prog 61 #[.func (.func gf) #[] lb] w (CollOut w ys) := by
  have C := appendSeq_any gf lb ys N Sp w hN eg hseq
  clear hseq
  go_enter Try.func61, Try.ntmps61
  go_wp2_with fail
  refine C.mono ?_
  clear C
  rintro e w1 ⟨v, rfl, h⟩
  go_wp2_with fail
  go_ret
  exact ⟨v, rfl, h⟩
end Go.Proofs.Ytbcdpgjjfllgjaa

namespace Go.Proofs.Ytbcdpgjjfllgjaa
open Go.RowKit Go.Shelf
def passedS (n : Int) (x : ByteArray) (rs : List RowV) : List RowV := if filB n x && rowsOk rs then rs.filter (fun r => decide (addS n r.key x = x)) else []
theorem passedS_le (n : Int) (x : ByteArray) (rs : List RowV) : (passedS n x rs).length ≤ 1048576 := by
  unfold passedS
  split
  · rename_i h
    have h1 := List.length_filter_le (fun r : RowV => decide (addS n r.key x = x)) rs
    have h2 := rowsOk_le (Bool.and_eq_true _ _ ▸ h).2
    omega
  · simp
set_option maxRecDepth 100000 in
theorem passed1_any (B : Nat) (n : Int) (l : List UInt8) (r : RowV) (w : World) (h : BS w B n l) (h0 : 8 ≤ n) (h1 : n ≤ 256) (hk : r.key.size ≤ 12) (p : Bool) (hp : hasK n r.key l = p) :
    Calls Try.prog 63 #[rowV r, .pointer (some ⟨B, 0, none⟩)] w fun e w' => e = .returned (.bool p) ∧ Below w.heap.size w w' := by
  obtain ⟨key, tag, val⟩ := r
  subst hp
  have hb := bl1 w (.cells #[.string key, .int .i64 tag, .string val] 39)
  replace h := h.below hb h.2.2.2
  have C := bitHasKey_any B n l key _ h h0 h1 hk
  unfold rowV
  go_enter Try.func63, Try.ntmps63
  go_wp2_with fail
  refine C.mono ?_
  clear C
  rintro e w1 ⟨rfl, hb1⟩
  replace hb := hb.trans (hb1.mono hb.size)
  clear hb1 h
  go_wp2_with fail
  go_ret
  exact ⟨rfl, hb⟩
set_option maxRecDepth 100000 in
set_option maxHeartbeats 1000000 in
theorem implPassed_any (n : Int) (x : ByteArray) (a : Option Addr) (len cap : Nat) (rs : List RowV) (w : World) (hx : x.size ≤ maxLen) (hm : len ≤ 1048576) (hok : ∀ r ∈ rs, r.Ok) (hR : Rd w w.heap.size 3 a len (flat rs)) :
    Calls Try.prog 32 #[.agg #[.int .i64 n, .string x], .slice a len cap] w (RowsOut w (passedS n x rs)) := by
  have c1 := At2.new w (.int .i64 n) (.string x) 44
  have hb := bl1 w (.cells #[.int .i64 n, .string x] 44)
  have hz : w.heap.size < (w.alloc (.cells #[.int .i64 n, .string x] 44)).heap.size := by simp
  replace hR := (hR.below hb (Nat.le_refl _)).more hb.size
  go_enter Try.func32, Try.ntmps32
  go_wp2_with fail
  generalize w.alloc (.cells #[.int .i64 n, .string x] 44) = w1 at *
  refine (implFilterOk_any n x _ hx).mono ?_
  rintro e w2 ⟨rfl, hb1⟩
  replace c1 := c1.keep hb1 (by omega)
  replace hb := hb.trans (hb1.mono (by omega))
  replace hR := (hR.below hb1 (Nat.le_refl _)).more hb1.size
  replace hz : w.heap.size < w2.heap.size := Nat.lt_of_lt_of_le hz hb1.size
  clear hb1
  cases hf1 : filB n x
  · have E := Lib.hid (show passedS n x rs = [] by simp [passedS, hf1])
    clear hf1
    go_wp2_with fail
    go_ret
    rw [E.out]
    exact RowsOut.none _ _ hb
  go_wp2_with fail
  refine (implRowsOk_any a len cap rs _ hm hok hR).mono ?_
  rintro e w3 ⟨rfl, hb1⟩
  replace c1 := c1.keep hb1 (by omega)
  replace hb := hb.trans (hb1.mono (by omega))
  replace hR := (hR.below hb1 (Nat.le_refl _)).more hb1.size
  replace hz : w.heap.size < w3.heap.size := Nat.lt_of_lt_of_le hz hb1.size
  clear hb1
  cases hf2 : rowsOk rs
  · have E := Lib.hid (show passedS n x rs = [] by simp [passedS, hf2])
    clear hf1 hf2
    go_wp2_with fail
    go_ret
    rw [E.out]
    exact RowsOut.none _ _ hb
  obtain ⟨q0, q1, q4, q5, q2⟩ := filB_all hf1
  have E := Lib.hid (show passedS n x rs = rs.filter (fun r => hasK n r.key (padL x)) by
    simp only [passedS, hf1, hf2, Bool.and_true, if_true]
    congr 1
    funext r
    rw [hasK_pad n x r.key q0 q4 q5])
  have K := Lib.hid hf2
  clear hf1 hf2
  have ⟨z0, z1⟩ := c1
  go_wp2_with fail
  refine (bitSetOf_any n x _ q2).mono ?_
  rintro e w4 ⟨rfl, hb1⟩
  clear z0 z1
  replace hb := hb.trans (hb1.mono (by omega))
  replace hR := (hR.below hb1 (Nat.le_refl _)).more hb1.size
  clear hb1 c1
  go_wp2_with (refine wpList_alloc_row rfl 82 rfl _ zero74 (stop ?_))
  have r := BS.new w4 0 zero32 82 rfl
  have hb1 := bl1 w4 (.cells (bsL 0 zero32).toArray 82)
  have hB : w.heap.size ≤ w4.heap.size := hb.size
  replace hb := hb.trans (hb1.mono (by omega))
  replace hR := hR.below hb1 (Nat.le_refl _)
  clear hb1
  generalize w4.alloc (.cells (bsL 0 zero32).toArray 82) = w5 at *
  generalize w4.heap.size = B at *
  refine unstop ?_
  refine wpList_store_bits rfl _ _ rfl B n (padL x) rfl rfl 0 zero32 r (padL_length x q2) fun w6 r6 hk => ?_
  have hb1 := hk B w5 (Nat.le_refl _) (Below.refl _ _)
  replace hb := hb.trans (hb1.mono (by omega))
  replace hR := hR.below hb1 (Nat.le_refl _)
  clear hb1 hk r
  go_wp2_with fail
  refine (where_any a len cap (.func (.func 63) #[] #[.pointer (some ⟨B, 0, none⟩)]) _ ⟨_, _, rfl⟩).mono ?_
  rintro e w7 ⟨rfl, hw7⟩
  have hb1 : Below w6.heap.size w6 w7 := by rw [hw7]; exact bl2 _ _ _
  have k0 : w7.cell? ⟨w6.heap.size, 0, none⟩ = some (.slice a len cap) := by rw [hw7]; simp [go_sem]
  have k1 : w7.cell? ⟨w6.heap.size + 1, 0, none⟩ = some (.func (.func 63) #[] #[.pointer (some ⟨B, 0, none⟩)]) := by rw [hw7]; simp [go_sem]
  have k2 : w7.heap.size = w6.heap.size + 1 + 1 := by rw [hw7]; simp
  have H7 := Lib.hid k2
  clear hw7 k2
  have hB6 := r6.2.2.2
  replace hb := hb.trans (hb1.mono (by omega))
  replace hR := (hR.below hb1 (by omega)).more (show B ≤ w7.heap.size by have := hb1.size; omega)
  replace r6 := r6.below hb1 hB6
  clear hb1
  have hl := Lib.hid hR.rows_length
  have S := fun m => where_stops m w6.heap.size (w6.heap.size + 1) w7.heap.size B 63 a len cap rs (fun r => hasK n r.key (padL x)) hm w7 (Nat.le_refl _)
    (fun k r W1 hr hbW => passed1_any B n (padL x) r W1 (r6.below hbW r6.2.2.2) q0 q1 (rowOk_key K.out hr) _ rfl)
    (enters_of Try.func63 (by kernel_rfl) rfl) k0 k1 (by have := H7.out; omega) (by have := H7.out; omega) hR
  have C := collect_any 93 _ _ rs.length _ w7 (by rw [hl.out]; exact hm) (enters_of Try.func93 (by kernel_rfl) rfl) S
  clear S k0 k1 hR r6
  have hs7 : w.heap.size ≤ w7.heap.size := hb.size
  go_wp2_with fail
  refine C.mono ?_
  clear C
  rintro e w8 ⟨v, rfl, hO, hb1⟩
  replace hb := hb.trans (hb1.mono hb.size)
  clear hb1
  go_wp2_with fail
  go_ret
  rw [E.out]
  exact RowsOut.of hb hO hs7
end Go.Proofs.Ytbcdpgjjfllgjaa

namespace Go.Proofs.Ytbcdpgjjfllgjaa
open Go.RowKit
set_option maxRecDepth 100000 in
theorem l6Has_any (n : Int) (x s : ByteArray) (w : World) (h0 : 8 ≤ n) (h1 : n ≤ 256) (h8 : n % 8 = 0) (hx : (x.size : Int) = n / 8) (hs : s.size ≤ 12) :
    Calls Try.prog 66 #[.agg #[.int .i64 n, .string x], .string s] w fun e w' => e = .returned (.bool (decide (addS n s x = x))) ∧ Below w.heap.size w w' := by
  have c1 := At2.new w (.int .i64 n) (.string x) 44
  have hb := bl1 w (.cells #[.int .i64 n, .string x] 44)
  have hz : w.heap.size < (w.alloc (.cells #[.int .i64 n, .string x] 44)).heap.size := by simp
  have C := fun w => l6Add_any n x s w h0 h1 h8 hx hs
  go_enter Try.func66, Try.ntmps66
  go_wp2_with fail
  generalize w.alloc (.cells #[.int .i64 n, .string x] 44) = w1 at *
  have ⟨u0, u1⟩ := c1
  have hC := Lib.hid (show ∀ w', Below w1.heap.size w1 w' → w'.cell? ⟨w.heap.size, 0, none⟩ = some (.int .i64 n) ∧ w'.cell? ⟨w.heap.size, 1, none⟩ = some (.string x) from fun w' h => ⟨(h.cell (p := ⟨w.heap.size, 0, none⟩) hz).trans u0, (h.cell (p := ⟨w.heap.size, 1, none⟩) hz).trans u1⟩)
  obtain ⟨t, ht0⟩ : ∃ t, addS n s x = t := ⟨_, rfl⟩
  have G := Lib.hid ht0
  rw [ht0] at C
  clear ht0
  by_cases ht : t = x
  · subst ht
    go_region_held3 (fun w' => (w'.cell? ⟨w.heap.size, 0, none⟩ = some (.int .i64 n) ∧ w'.cell? ⟨w.heap.size, 1, none⟩ = some (.string t)) ∧ Below w1.heap.size w1 w') (first | exact keepStart hC.out | exact keepCall hC.out hb' (by assumption))
      ((go_at_call 97; refine (C _).mono ?_; rintro e w' ⟨rfl, hb'⟩))
    go_wp2_with fail
    go_ret
    exact ⟨ret_bool (decide_eq_true G.out).symm, hb.trans ((keepBelow hC.out (by assumption)).mono hb.size)⟩
  · have hnl : (t.toList == x.toList) = false := beq_eq_false_iff_ne.2 (fun h => ht (by rw [ByteArray.toList_eq, ByteArray.toList_eq] at h; exact ByteArray.ext (Array.toList_inj.1 h)))
    have hne : (t == x) = false := by rw [beq_toListBytes]; exact hnl
    have E := Lib.hid (show decide (addS n s x = x) = false from decide_eq_false (by rw [G.out]; exact ht))
    clear ht
    go_region_held3 (fun w' => (w'.cell? ⟨w.heap.size, 0, none⟩ = some (.int .i64 n) ∧ w'.cell? ⟨w.heap.size, 1, none⟩ = some (.string x)) ∧ Below w1.heap.size w1 w') (first | exact keepStart hC.out | exact keepCall hC.out hb' (by assumption))
      ((go_at_call 97; refine (C _).mono ?_; rintro e w' ⟨rfl, hb'⟩))
    go_wp2_with fail
    go_ret
    exact ⟨ret_bool E.out.symm, hb.trans ((keepBelow hC.out (by assumption)).mono hb.size)⟩
end Go.Proofs.Ytbcdpgjjfllgjaa

namespace Go.Proofs.Ytbcdpgjjfllgjaa
open Go.RowKit
def passK (n : Int) (x : ByteArray) (rs : List RowV) (k : Nat) : List RowV := if filB n x && rowsOk rs then (rs.take k).filter (fun r => decide (addS n r.key x = x)) else []
theorem passK_zero (n : Int) (x : ByteArray) (rs : List RowV) : passK n x rs 0 = [] := by unfold passK; split <;> simp
theorem passK_all (n : Int) (x : ByteArray) (rs : List RowV) (k : Nat) (h : rs.length ≤ k) : passedS n x rs = passK n x rs k := by
  unfold passK passedS; rw [List.take_of_length_le h]
theorem passK_no (n : Int) (x : ByteArray) (rs : List RowV) (k : Nat) (h : (filB n x && rowsOk rs) = false) : passedS n x rs = passK n x rs k := by
  unfold passK passedS; rw [h]; rfl
theorem passK_hit {n : Int} {x : ByteArray} {rs : List RowV} {k : Nat} {r : RowV} (h1 : filB n x = true) (h2 : rowsOk rs = true) (hr : rs[k]? = some r) (hd : decide (addS n r.key x = x) = true) : passK n x rs (k + 1) = passK n x rs k ++ [r] := by
  simp only [passK, h1, h2, Bool.and_true, if_true]
  exact filter_take_succ (p := fun r => decide (addS n r.key x = x)) hr hd
theorem passK_miss {n : Int} {x : ByteArray} {rs : List RowV} {k : Nat} {r : RowV} (hr : rs[k]? = some r) (hd : decide (addS n r.key x = x) = false) : passK n x rs (k + 1) = passK n x rs k := by
  unfold passK
  split
  · exact filter_take_skip (p := fun r => decide (addS n r.key x = x)) hr hd
  · rfl
theorem passK_le (n : Int) (x : ByteArray) (rs : List RowV) (k : Nat) : (passK n x rs k).length ≤ k := by
  unfold passK
  split
  · have := List.length_filter_le (fun r : RowV => decide (addS n r.key x = x)) (rs.take k)
    rw [List.length_take] at this
    omega
  · simp
set_option maxRecDepth 100000 in
set_option maxHeartbeats 1000000 in
theorem specPassed_any (n : Int) (x : ByteArray) (a : Option Addr) (len cap : Nat) (rs : List RowV) (w : World) (hx : x.size ≤ maxLen) (hm : len ≤ 1048576) (hok : ∀ r ∈ rs, r.Ok) (hR : Rd w w.heap.size 3 a len (flat rs)) :
    Calls Try.prog 34 #[.agg #[.int .i64 n, .string x], .slice a len cap] w (RowsOut w (passedS n x rs)) := by
  have hl := Lib.hid hR.rows_length
  obtain ⟨i0, hi, hz0, hz1, hz2⟩ := info_parts infoRow
  have c1 := At2.new w (.int .i64 n) (.string x) 44
  have hb := bl1 w (.cells #[.int .i64 n, .string x] 44)
  have hz : w.heap.size < (w.alloc (.cells #[.int .i64 n, .string x] 44)).heap.size := by simp
  replace hR := hR.below hb (Nat.le_refl _)
  go_enter Try.func34, Try.ntmps34
  go_wp2_with fail
  generalize hW : w.alloc (.cells #[.int .i64 n, .string x] 44) = w1 at *
  have hO0 : (w1.alloc (.cells #[] 39)).ownsRow w1.heap.size 39 3 (.slice (some ⟨w1.heap.size, 0, none⟩) 0 0) 0 (flat (passK n x rs 0)) := by
    rw [passK_zero]
    exact World.ownsRow_lit (base := w1.heap.size) (size := 3) w1 #[] 0 (Nat.le_refl _) (Nat.zero_le _) rfl
  have hD : w.heap.size + 1 = w1.heap.size := by rw [← hW]; simp
  rw [hD]
  clear hW
  have hD' := Lib.hid hD
  clear hD
  go_loopw [5, 6] (fun v i wr => ∃ (k q : Nat) (b : Option Addr) (c : Nat), k ≤ len ∧ i = .int .i64 k ∧ v = .slice b q c ∧ q ≤ k ∧ Hid ((passK n x rs k).length = q) ∧ wr.ownsRow w1.heap.size 39 3 (.slice b q c) q (flat (passK n x rs k)) ∧ Below w1.heap.size w1 wr) (fun _ i _ => len - (intOf i).toNat)
  case atStart => exact ⟨0, 0, _, 0, Nat.zero_le _, rfl, rfl, Nat.le_refl _, Lib.hid (by rw [passK_zero]; rfl), hO0, bl1 _ _⟩
  case round =>
    obtain ⟨k, q, b, c, hk, rfl, rfl, hqk, HQ, hO, hbr⟩ := hrel
    clear hO0
    have hws : w1.heap.size ≤ wr.heap.size := hbr.size
    have hbw : Below w.heap.size w wr := hb.trans (hbr.mono hb.size)
    by_cases hlt : k < len
    · have hRr := (hR.below hbr (Nat.le_of_lt hz)).more (show w.heap.size ≤ wr.heap.size by omega)
      cases hf2 : rowsOk rs
      · have E := Lib.hid (passK_no n x rs k (by rw [hf2, Bool.and_false]))
        go_wp2_with fail
        refine (specRowsOk_any a len cap rs _ hm hok hRr).mono ?_
        rintro e w3 ⟨rfl, hb1⟩
        rw [hf2]
        clear hf2
        have hO1 := own_below hO hb1
        replace hbw := hbw.trans (hb1.mono hbw.size)
        clear hb1 hO hRr
        go_wp2_with fail
        go_ret
        rw [E.out]
        exact RowsOut.of hbw (by rw [HQ.out]; exact hO1) (Nat.le_of_lt hz)
      go_wp2_with fail
      refine (specRowsOk_any a len cap rs _ hm hok hRr).mono ?_
      rintro e w3 ⟨rfl, hb1⟩
      rw [hf2]
      replace hO := own_below hO hb1
      replace hbr := hbr.trans (hb1.mono hbr.size)
      replace hbw := hbw.trans (hb1.mono hbw.size)
      replace hws : w1.heap.size ≤ w3.heap.size := hbr.size
      clear hb1 hRr
      have K := Lib.hid hf2
      clear hf2
      have d := c1.below hbr hz
      have ⟨y0, y1⟩ := d
      cases hf1 : filB n x
      · have E := Lib.hid (passK_no n x rs k (by rw [hf1, Bool.false_and]))
        go_wp2_with fail
        refine (specFilterOk_any n x _ hx).mono ?_
        rintro e w4 ⟨rfl, hb1⟩
        rw [hf1]
        clear hf1 y0 y1 d
        have hO1 := own_below hO hb1
        replace hbw := hbw.trans (hb1.mono hbw.size)
        clear hb1 hO
        go_wp2_with fail
        go_ret
        rw [E.out]
        exact RowsOut.of hbw (by rw [HQ.out]; exact hO1) (Nat.le_of_lt hz)
      go_wp2_with fail
      refine (specFilterOk_any n x _ hx).mono ?_
      rintro e w4 ⟨rfl, hb1⟩
      rw [hf1]
      clear y0 y1 d
      replace hO := own_below hO hb1
      replace hbr := hbr.trans (hb1.mono hbr.size)
      replace hbw := hbw.trans (hb1.mono hbw.size)
      replace hws : w1.heap.size ≤ w4.heap.size := hbr.size
      clear hb1
      obtain ⟨q0, q1, q4, q5, q2⟩ := filB_all hf1
      have F1 := Lib.hid hf1
      clear hf1
      have ⟨y0, y1⟩ := c1.below hbr hz
      obtain ⟨b1, off, r, rfl, hB1, hrk, z0, z1, z2⟩ := (hR.below hbr (Nat.le_of_lt hz)).row hlt
      have hkey := rowOk_key K.out hrk
      have Hr := Lib.hid hrk
      clear hrk
      obtain ⟨key, tag, val⟩ := r
      go_wp2_with fail
      refine wp_region_still_tail 6 (by kernel_rfl) (by kernel_rfl) ?_
      simp only [List.take_succ_cons, List.take_zero, List.drop_succ_cons, List.drop_zero]
      change wpStill _ _ w4.drew _ _ _
      repeat still_step
      refine wpStill_nil ?_
      change wpList _ _ _ _ _ w4.drew
      go_wp2_with fail
      refine (l6Has_any n x key _ q0 q1 q4 q5 hkey).mono ?_
      rintro e w5 ⟨rfl, hb1⟩
      have hb2 : Below w4.heap.size w4 w5 := (Below.refl w4.heap.size w4).drew.trans hb1
      replace hO := own_below hO hb2
      replace hbr := hbr.trans (hb2.mono hbr.size)
      replace hbw := hbw.trans (hb2.mono hbw.size)
      clear y0 y1 z0 z1 z2 hb1 hb2
      cases hd : decide (addS n key x = x)
      · have M := Lib.hid (passK_miss (n := n) (x := x) Hr.out hd)
        clear hd
        go_wp2_with fail
        go_roundw
        case rel => exact ⟨k + 1, q, b, c, by omega, by go_num, rfl, by omega, Lib.hid (by rw [M.out]; exact HQ.out), by rw [M.out]; exact hO, hbr⟩
        case measure => simp [intOf]; omega
      · have M := Lib.hid (passK_hit F1.out K.out Hr.out hd)
        clear hd
        obtain ⟨b2, off2, r2, e2, hB2, hrk2, z0, z1, z2⟩ := (hR.below hbr (Nat.le_of_lt hz)).row hlt
        obtain rfl : (⟨key, tag, val⟩ : RowV) = r2 := by have := Hr.out; rw [hrk2] at this; injection this with h; exact h.symm
        cases e2
        clear hrk2
        go_wp2_with (at_builtin; refine wpList_append_own _ rfl _ _ 27 rfl w1.heap.size 39 i0 (.agg #[.string ⟨#[]⟩, .int .i64 0, .string ⟨#[]⟩]) 3 40 Try.underlying27 hi hz0 hz1 hz2 rfl (by decide) _ _ _ rfl (hO.alloc _) ⟨w5.heap.size, 0, none⟩ 1 1 [.string key, .int .i64 tag, .string val] rfl rfl (cell_row_new w5 ⟨key, tag, val⟩ _) (by simp [Value.oneCell']) (by unfold maxLen; omega) (by omega) (by have := hbr.size; simp; omega) ?_)
        intro v' w6 hO6 hg6 _
        obtain ⟨a', cap', rfl⟩ := own_slice' hO6
        have hb6 := (hbr.alloc hbr.size (.cells #[.string key, .int .i64 tag, .string val] 39)).grown hg6 (by have := hbr.size; simp; omega) (fun q e => (own_ge hO q e).1)
        rw [← flat_snoc _ ⟨key, tag, val⟩, ← M.out] at hO6
        clear hg6 hO z0 z1 z2
        go_wp2_with fail
        go_roundw
        case rel => exact ⟨k + 1, q + 1, a', cap', by omega, by go_num, rfl, by omega, Lib.hid (by rw [M.out, List.length_append, HQ.out]; rfl), hO6, hb6⟩
        case measure => simp [intOf]; omega
    · obtain rfl : k = len := by omega
      have E := Lib.hid (passK_all n x rs k (by rw [hl.out]; omega))
      go_wp2_with fail
      go_ret
      rw [E.out]
      exact RowsOut.of hbw (by rw [HQ.out]; exact hO) (Nat.le_of_lt hz)
end Go.Proofs.Ytbcdpgjjfllgjaa

namespace Go.Proofs.Ytbcdpgjjfllgjaa
open Go.RowKit
theorem IsBy.keep7 {w w' : World} {a : Option Addr} {n : Nat} (h : IsBy w w.heap.size a n) (hb : Below w.heap.size w w') : IsBy w' w'.heap.size a n := by
  obtain ⟨xs, h1, h2⟩ := h
  exact ⟨xs, (h1.below hb (Nat.le_refl _)).more hb.size, h2⟩
theorem passed_ok {N : Int} {x : ByteArray} {l : List RowV} (h : ∀ r ∈ l, r.Ok) : ∀ r ∈ passedS N x l, r.Ok := by
  unfold passedS
  split
  · exact fun r hr => h r ((List.mem_filter.1 hr).1)
  · simp
theorem passed_len (N : Int) (x : ByteArray) (l : List RowV) : (passedS N x l).length ≤ l.length := by
  unfold passedS
  split
  · exact List.length_filter_le _ _
  · simp
theorem of_filter {m : List RowV} {E : Int} (h : ofOk m E = true) : 8 ≤ E ∧ E ≤ 256 ∧ E % 8 = 0 ∧ rowsOk m = true ∧ filB E (ofS m E) = true := by
  unfold ofOk sizeB at h
  rw [Bool.and_eq_true, decide_eq_true_eq] at h
  obtain ⟨h1, h2, h3, h4⟩ := h
  exact ⟨h2, h3, h4, h1, decide_eq_true ⟨h2, h3, h4, ofS_size m E h2⟩⟩
theorem ofS_size32 {m : List RowV} {E : Int} (h : ofOk m E = true) : (ofS m E).size ≤ 32 := by
  have := ofT_size m E
  unfold ofT at this
  rwa [h, if_pos rfl] at this
theorem passed_join {n : Int} (hn : ∀ key v, oneK n key v [] = []) {a m : List RowV} {E : Int} (h : ofOk m E = true) (ha : rowsOk a = true) : l5J n (passedS E (ofS m E) a) m = l5J n a m := by
  obtain ⟨h1, h2, h3, h4, h5⟩ := of_filter h
  unfold passedS
  rw [h5, ha]
  refine join_passed hn fun r _ hq => ?_
  obtain ⟨q, hq, e⟩ := hq
  obtain ⟨i, hi⟩ := List.getElem?_of_mem hq
  have hk : q.key.size ≤ 12 := rowOk_key h4 hi
  have := ofS_has E m i q hi h1 h2 h3 hk
  unfold hasB at this
  rw [Bool.and_eq_true] at this
  rw [← e]
  exact this.2
theorem passed_rows {a : List RowV} {E : Int} {x : ByteArray} (h : rowsOk a = true) : rowsOk (passedS E x a) = true := by
  have hl := passed_len E x a
  unfold rowsOk at h ⊢
  rw [Bool.and_eq_true, decide_eq_true_eq, List.all_eq_true] at h ⊢
  refine ⟨by omega, fun r hr => h.2 r ?_⟩
  unfold passedS at hr
  split at hr
  · exact (List.mem_filter.1 hr).1
  · cases hr
set_option maxRecDepth 100000 in
set_option maxHeartbeats 4000000 in
theorem walk_Passed (a : Option Addr) (len cap : Nat) (xs : List Value) (w : World) (hI : IsCode w a len cap xs) :
    Calls Try.prog 12 #[.slice a len cap] w fun e w' => e = .returned (.bool true) ∧ Below w.heap.size w w' := by
  have hI0 := hI.by_
  obtain ⟨hlc, hcm, _, _⟩ := hI
  go_enter Try.func12, Try.ntmps12
  go_wp2_with fail
  refine (big_any a len cap w (by omega)).mono ?_
  rintro e w0 ⟨rfl, rfl⟩
  by_cases hbig : 1048576 < len
  · have hd : decide (1048576 < len) = true := by simpa using hbig
    rw [hd]
    go_wp2_with fail
    go_ret
    exact ⟨rfl, Below.refl _ _⟩
  have hd : decide (1048576 < len) = false := by simpa using hbig
  rw [hd]
  go_wp2_with fail
  refine (drawPassed_any a len cap w (by omega) hI0).mono ?_
  rintro e w1 ⟨N, x, l, lb, lc, hx, hll, hok, rfl, hO, hb⟩
  have B := hb
  clear hb
  have L := Rd.of_own hO
  clear hO
  have hxm : x.size ≤ maxLen := by unfold maxLen; omega
  have hb := bl1 w1 (.cells #[.int .i64 N, .string x] 44)
  replace B := B.trans (hb.mono B.size)
  replace L := (L.below hb (Nat.le_refl _)).more hb.size
  clear hb
  have F := FVar.new w1 N x 44
  go_wp2_with fail
  generalize w1.alloc (.cells #[.int .i64 N, .string x] 44) = w2 at *
  refine (implPassed_any N x _ l.length lc l w2 hxm (by omega) hok L).mono ?_
  rintro e w3 ⟨pa, pc, rfl, hb, hO⟩
  replace F := F.below hb F.2.2
  replace B := B.trans (hb.mono B.size)
  replace L := (L.below hb (Nat.le_refl _)).more hb.size
  clear hb
  have P := Rd.of_own hO
  clear hO
  have ⟨f0, f1⟩ := F.1
  go_wp2_with fail
  refine (specPassed_any N x _ l.length lc l w3 hxm (by omega) hok L).mono ?_
  rintro e w4 ⟨qa, qc, rfl, hb, hO⟩
  replace F := F.below hb F.2.2
  replace B := B.trans (hb.mono B.size)
  replace L := (L.below hb (Nat.le_refl _)).more hb.size
  replace P := (P.below hb (Nat.le_refl _)).more hb.size
  clear hb
  have Q := Rd.of_own hO
  clear hO f0 f1
  go_wp2_with fail
  refine (sameRows_same pa qa _ pc qc (passedS N x l) w4 (passedS_le N x l) P Q).mono ?_
  rintro e w5 ⟨rfl, hb⟩
  replace F := F.below hb F.2.2
  replace B := B.trans (hb.mono B.size)
  replace L := (L.below hb (Nat.le_refl _)).more hb.size
  replace P := (P.below hb (Nat.le_refl _)).more hb.size
  replace Q := (Q.below hb (Nat.le_refl _)).more hb.size
  clear hb
  clear P
  clear Q
  clear L
  clear F hok hll hx hxm
  go_wp2_with fail
  refine (drawJoinOf_any a len cap w5 (by omega) (hI0.keep7 B)).mono ?_
  rintro e w6 ⟨v, vb, vc, m, mb, mc, z, hvl, hvok, hml, hmok, rfl, hO, hP, hb⟩
  replace B := B.trans (hb.mono B.size)
  clear hb
  have A := Rd.of_own hO
  have M := Rd.of_own hP
  clear hO hP
  obtain ⟨E, hE⟩ : ∃ E, 8 * (1 + (len : Int) % 8) = E := ⟨_, rfl⟩
  have C := implFilterOf_any (some ⟨mb, 0, none⟩) m.length mc m E w6 (by omega) hmok M
  have HE := Lib.hid hE
  clear hE
  cases hq : ofOk m E
  · rw [ofV_no hq] at C
    clear hq
    go_wp2_with fail
    rw [HE.out]
    refine (C).mono ?_
    rintro e w7 ⟨rfl, hb⟩
    replace B := B.trans (hb.mono B.size)
    replace A := (A.below hb (Nat.le_refl _)).more hb.size
    replace M := (M.below hb (Nat.le_refl _)).more hb.size
    clear hb
    have hb := bl1 w7 (.cells #[.int .i64 0, .string ⟨#[]⟩] 44)
    replace B := B.trans (hb.mono B.size)
    go_wp2_with fail
    go_ret
    exact ⟨rfl, B⟩
  · rw [ofV_yes hq] at C
    have ht := ofS_size32 hq
    have htm : (ofS m E).size ≤ maxLen := by unfold maxLen; omega
    have HQ := Lib.hid hq
    clear hq
    go_wp2_with fail
    rw [HE.out]
    refine (C).mono ?_
    rintro e w7 ⟨rfl, hb⟩
    replace B := B.trans (hb.mono B.size)
    replace A := (A.below hb (Nat.le_refl _)).more hb.size
    replace M := (M.below hb (Nat.le_refl _)).more hb.size
    clear hb
    clear C
    have hPl := passed_len E (ofS m E) v
    have hPok := passed_ok (N := E) (x := ofS m E) hvok
    cases ha : rowsOk v
    · have hB : ∀ n, joinOfB v m n = false := fun n => by unfold joinOfB; rw [ha]; rfl
      have hS : ∀ n, joinOfS v m n = [] := fun n => joinOf_no (hB n)
      have CA1 : ∀ w : World, Rd w w.heap.size 3 (some ⟨vb, 0, none⟩) v.length (flat v) → Rd w w.heap.size 3 (some ⟨mb, 0, none⟩) m.length (flat m) → Calls Try.prog 18 #[.slice (some ⟨vb, 0, none⟩) v.length vc, .slice (some ⟨mb, 0, none⟩) m.length mc, .int .i64 1] w (fun e w' => ∃ a c, e = .returned (.tuple #[.slice a 0 c, .bool false]) ∧ Below w.heap.size w w' ∧ w'.ownsRow w.heap.size 41 5 (.slice a 0 c) 0 (flatP [])) := fun w h h2 => by
        have := implJoinOf_any (some ⟨vb, 0, none⟩) v.length vc v (some ⟨mb, 0, none⟩) m.length mc m 1 w (by omega) hvok h (by omega) hmok h2
        unfold PairsB at this
        rw [hS, hB] at this
        exact this
      have CP1 : ∀ (pa : Option Addr) (pc : Nat) (w : World), Rd w w.heap.size 3 pa (passedS E (ofS m E) v).length (flat (passedS E (ofS m E) v)) → Rd w w.heap.size 3 (some ⟨mb, 0, none⟩) m.length (flat m) → Calls Try.prog 18 #[.slice pa (passedS E (ofS m E) v).length pc, .slice (some ⟨mb, 0, none⟩) m.length mc, .int .i64 1] w (PairsB w (joinOfS (passedS E (ofS m E) v) m 1) (joinOfB (passedS E (ofS m E) v) m 1)) := fun pa pc w h h2 => implJoinOf_any pa (passedS E (ofS m E) v).length pc (passedS E (ofS m E) v) (some ⟨mb, 0, none⟩) m.length mc m 1 w (by omega) hPok h (by omega) hmok h2
      generalize joinOfS (passedS E (ofS m E) v) m 1 = T1 at *
      generalize joinOfB (passedS E (ofS m E) v) m 1 = b1 at *
      have CA5 : ∀ w : World, Rd w w.heap.size 3 (some ⟨vb, 0, none⟩) v.length (flat v) → Rd w w.heap.size 3 (some ⟨mb, 0, none⟩) m.length (flat m) → Calls Try.prog 18 #[.slice (some ⟨vb, 0, none⟩) v.length vc, .slice (some ⟨mb, 0, none⟩) m.length mc, .int .i64 5] w (fun e w' => ∃ a c, e = .returned (.tuple #[.slice a 0 c, .bool false]) ∧ Below w.heap.size w w' ∧ w'.ownsRow w.heap.size 41 5 (.slice a 0 c) 0 (flatP [])) := fun w h h2 => by
        have := implJoinOf_any (some ⟨vb, 0, none⟩) v.length vc v (some ⟨mb, 0, none⟩) m.length mc m 5 w (by omega) hvok h (by omega) hmok h2
        unfold PairsB at this
        rw [hS, hB] at this
        exact this
      have CP5 : ∀ (pa : Option Addr) (pc : Nat) (w : World), Rd w w.heap.size 3 pa (passedS E (ofS m E) v).length (flat (passedS E (ofS m E) v)) → Rd w w.heap.size 3 (some ⟨mb, 0, none⟩) m.length (flat m) → Calls Try.prog 18 #[.slice pa (passedS E (ofS m E) v).length pc, .slice (some ⟨mb, 0, none⟩) m.length mc, .int .i64 5] w (PairsB w (joinOfS (passedS E (ofS m E) v) m 5) (joinOfB (passedS E (ofS m E) v) m 5)) := fun pa pc w h h2 => implJoinOf_any pa (passedS E (ofS m E) v).length pc (passedS E (ofS m E) v) (some ⟨mb, 0, none⟩) m.length mc m 5 w (by omega) hPok h (by omega) hmok h2
      generalize joinOfS (passedS E (ofS m E) v) m 5 = T5 at *
      generalize joinOfB (passedS E (ofS m E) v) m 5 = b5 at *
      clear hS hB ha HQ
      have HP := Lib.hid (fun (w : World) (h : Rd w w.heap.size 3 (some ⟨vb, 0, none⟩) v.length (flat v)) => implPassed_any E (ofS m E) (some ⟨vb, 0, none⟩) v.length vc v w htm (by omega) hvok h)
      generalize passedS E (ofS m E) v = PS at *
      generalize ofS m E = T at *
      have hb := bl1 w7 (.cells #[.int .i64 E, .string T] 44)
      replace B := B.trans (hb.mono B.size)
      replace A := (A.below hb (Nat.le_refl _)).more hb.size
      replace M := (M.below hb (Nat.le_refl _)).more hb.size
      clear hb
      have F := FVar.new w7 E T 44
      go_wp2_with fail
      generalize w7.alloc (.cells #[.int .i64 E, .string T] 44) = w8 at *
      refine (CA1 w8 A M).mono ?_
      rintro e w9 ⟨ia, ic, rfl, hb, hO⟩
      replace F := F.below hb F.2.2
      replace B := B.trans (hb.mono B.size)
      replace A := (A.below hb (Nat.le_refl _)).more hb.size
      replace M := (M.below hb (Nat.le_refl _)).more hb.size
      clear hb
      clear hO
      have ⟨f0, f1⟩ := F.1
      go_wp2_with fail
      refine (HP.out w9 A).mono ?_
      rintro e w10 ⟨ra, rc, rfl, hb, hO⟩
      replace F := F.below hb F.2.2
      replace B := B.trans (hb.mono B.size)
      replace A := (A.below hb (Nat.le_refl _)).more hb.size
      replace M := (M.below hb (Nat.le_refl _)).more hb.size
      clear hb
      have R := Rd.of_own hO
      clear hO f0 f1
      go_wp2_with fail
      refine (CP1 ra rc w10 R M).mono ?_
      rintro e w11 ⟨ja, jc, rfl, hb, hO⟩
      replace F := F.below hb F.2.2
      replace B := B.trans (hb.mono B.size)
      replace A := (A.below hb (Nat.le_refl _)).more hb.size
      replace M := (M.below hb (Nat.le_refl _)).more hb.size
      replace R := (R.below hb (Nat.le_refl _)).more hb.size
      clear hb
      clear hO
      clear R
      go_wp2_with fail
      refine (CA5 w11 A M).mono ?_
      rintro e w12 ⟨sa, sc, rfl, hb, hO⟩
      replace F := F.below hb F.2.2
      replace B := B.trans (hb.mono B.size)
      replace A := (A.below hb (Nat.le_refl _)).more hb.size
      replace M := (M.below hb (Nat.le_refl _)).more hb.size
      clear hb
      clear hO
      have ⟨f0, f1⟩ := F.1
      go_wp2_with fail
      refine (HP.out w12 A).mono ?_
      rintro e w13 ⟨ta, tc, rfl, hb, hO⟩
      replace F := F.below hb F.2.2
      replace B := B.trans (hb.mono B.size)
      replace A := (A.below hb (Nat.le_refl _)).more hb.size
      replace M := (M.below hb (Nat.le_refl _)).more hb.size
      clear hb
      have R := Rd.of_own hO
      clear hO f0 f1
      go_wp2_with fail
      refine (CP5 ta tc w13 R M).mono ?_
      rintro e w14 ⟨ka, kc, rfl, hb, hO⟩
      replace F := F.below hb F.2.2
      replace B := B.trans (hb.mono B.size)
      replace A := (A.below hb (Nat.le_refl _)).more hb.size
      replace M := (M.below hb (Nat.le_refl _)).more hb.size
      replace R := (R.below hb (Nat.le_refl _)).more hb.size
      clear hb
      clear hO CA1 CP1 CA5 CP5 HP
      go_wp2_with fail
      go_ret
      exact ⟨rfl, B⟩
    · have hm2 := (of_filter HQ.out).2.2.2.1
      have hB : ∀ n, kindB n = true → joinOfB v m n = true := fun n h => by unfold joinOfB; rw [ha, hm2, h]; rfl
      have hBp : ∀ n, kindB n = true → joinOfB (passedS E (ofS m E) v) m n = true := fun n h => by unfold joinOfB; rw [passed_rows ha, hm2, h]; rfl
      have e1 : joinOfS v m 1 = l5J 1 v m := joinOf_yes (hB 1 rfl)
      have g1 : joinOfS (passedS E (ofS m E) v) m 1 = l5J 1 v m := by rw [joinOf_yes (hBp 1 rfl), passed_join inner_none HQ.out ha]
      obtain ⟨n1, hn1⟩ : ∃ k, (l5J 1 v m).length = k := ⟨_, rfl⟩
      have hl1 : n1 ≤ 4194304 := by rw [← hn1]; exact l5J_le (by omega) (by omega)
      have e5 : joinOfS v m 5 = l5J 5 v m := joinOf_yes (hB 5 rfl)
      have g5 : joinOfS (passedS E (ofS m E) v) m 5 = l5J 5 v m := by rw [joinOf_yes (hBp 5 rfl), passed_join semi_none HQ.out ha]
      obtain ⟨n5, hn5⟩ : ∃ k, (l5J 5 v m).length = k := ⟨_, rfl⟩
      have hl5 : n5 ≤ 4194304 := by rw [← hn5]; exact l5J_le (by omega) (by omega)
      have CA1 : ∀ w : World, Rd w w.heap.size 3 (some ⟨vb, 0, none⟩) v.length (flat v) → Rd w w.heap.size 3 (some ⟨mb, 0, none⟩) m.length (flat m) → Calls Try.prog 18 #[.slice (some ⟨vb, 0, none⟩) v.length vc, .slice (some ⟨mb, 0, none⟩) m.length mc, .int .i64 1] w (fun e w' => ∃ a c, e = .returned (.tuple #[.slice a n1 c, .bool true]) ∧ Below w.heap.size w w' ∧ w'.ownsRow w.heap.size 41 5 (.slice a n1 c) n1 (flatP (l5J 1 v m))) := fun w h h2 => by
        have := implJoinOf_any (some ⟨vb, 0, none⟩) v.length vc v (some ⟨mb, 0, none⟩) m.length mc m 1 w (by omega) hvok h (by omega) hmok h2
        unfold PairsB at this
        rw [e1, hB 1 rfl, hn1] at this
        exact this
      have CP1 : ∀ (pa : Option Addr) (pc : Nat) (w : World), Rd w w.heap.size 3 pa (passedS E (ofS m E) v).length (flat (passedS E (ofS m E) v)) → Rd w w.heap.size 3 (some ⟨mb, 0, none⟩) m.length (flat m) → Calls Try.prog 18 #[.slice pa (passedS E (ofS m E) v).length pc, .slice (some ⟨mb, 0, none⟩) m.length mc, .int .i64 1] w (fun e w' => ∃ a c, e = .returned (.tuple #[.slice a n1 c, .bool true]) ∧ Below w.heap.size w w' ∧ w'.ownsRow w.heap.size 41 5 (.slice a n1 c) n1 (flatP (l5J 1 v m))) := fun pa pc w h h2 => by
        have := implJoinOf_any pa (passedS E (ofS m E) v).length pc (passedS E (ofS m E) v) (some ⟨mb, 0, none⟩) m.length mc m 1 w (by omega) hPok h (by omega) hmok h2
        unfold PairsB at this
        rw [g1, hBp 1 rfl, hn1] at this
        exact this
      have CA5 : ∀ w : World, Rd w w.heap.size 3 (some ⟨vb, 0, none⟩) v.length (flat v) → Rd w w.heap.size 3 (some ⟨mb, 0, none⟩) m.length (flat m) → Calls Try.prog 18 #[.slice (some ⟨vb, 0, none⟩) v.length vc, .slice (some ⟨mb, 0, none⟩) m.length mc, .int .i64 5] w (fun e w' => ∃ a c, e = .returned (.tuple #[.slice a n5 c, .bool true]) ∧ Below w.heap.size w w' ∧ w'.ownsRow w.heap.size 41 5 (.slice a n5 c) n5 (flatP (l5J 5 v m))) := fun w h h2 => by
        have := implJoinOf_any (some ⟨vb, 0, none⟩) v.length vc v (some ⟨mb, 0, none⟩) m.length mc m 5 w (by omega) hvok h (by omega) hmok h2
        unfold PairsB at this
        rw [e5, hB 5 rfl, hn5] at this
        exact this
      have CP5 : ∀ (pa : Option Addr) (pc : Nat) (w : World), Rd w w.heap.size 3 pa (passedS E (ofS m E) v).length (flat (passedS E (ofS m E) v)) → Rd w w.heap.size 3 (some ⟨mb, 0, none⟩) m.length (flat m) → Calls Try.prog 18 #[.slice pa (passedS E (ofS m E) v).length pc, .slice (some ⟨mb, 0, none⟩) m.length mc, .int .i64 5] w (fun e w' => ∃ a c, e = .returned (.tuple #[.slice a n5 c, .bool true]) ∧ Below w.heap.size w w' ∧ w'.ownsRow w.heap.size 41 5 (.slice a n5 c) n5 (flatP (l5J 5 v m))) := fun pa pc w h h2 => by
        have := implJoinOf_any pa (passedS E (ofS m E) v).length pc (passedS E (ofS m E) v) (some ⟨mb, 0, none⟩) m.length mc m 5 w (by omega) hPok h (by omega) hmok h2
        unfold PairsB at this
        rw [g5, hBp 5 rfl, hn5] at this
        exact this
      clear e1 e5 g1 g5 hB hBp hm2 ha hn1 hn5 HQ
      generalize l5J 1 v m = S1 at *
      generalize l5J 5 v m = S5 at *
      have HP := Lib.hid (fun (w : World) (h : Rd w w.heap.size 3 (some ⟨vb, 0, none⟩) v.length (flat v)) => implPassed_any E (ofS m E) (some ⟨vb, 0, none⟩) v.length vc v w htm (by omega) hvok h)
      generalize passedS E (ofS m E) v = PS at *
      generalize ofS m E = T at *
      have hb := bl1 w7 (.cells #[.int .i64 E, .string T] 44)
      replace B := B.trans (hb.mono B.size)
      replace A := (A.below hb (Nat.le_refl _)).more hb.size
      replace M := (M.below hb (Nat.le_refl _)).more hb.size
      clear hb
      have F := FVar.new w7 E T 44
      go_wp2_with fail
      generalize w7.alloc (.cells #[.int .i64 E, .string T] 44) = w8 at *
      refine (CA1 w8 A M).mono ?_
      rintro e w9 ⟨ia, ic, rfl, hb, hO⟩
      replace F := F.below hb F.2.2
      replace B := B.trans (hb.mono B.size)
      replace A := (A.below hb (Nat.le_refl _)).more hb.size
      replace M := (M.below hb (Nat.le_refl _)).more hb.size
      clear hb
      have I := Rd.of_own hO
      clear hO
      have ⟨f0, f1⟩ := F.1
      go_wp2_with fail
      refine (HP.out w9 A).mono ?_
      rintro e w10 ⟨ra, rc, rfl, hb, hO⟩
      replace F := F.below hb F.2.2
      replace B := B.trans (hb.mono B.size)
      replace A := (A.below hb (Nat.le_refl _)).more hb.size
      replace M := (M.below hb (Nat.le_refl _)).more hb.size
      replace I := (I.below hb (Nat.le_refl _)).more hb.size
      clear hb
      have R := Rd.of_own hO
      clear hO f0 f1
      go_wp2_with fail
      refine (CP1 ra rc w10 R M).mono ?_
      rintro e w11 ⟨ja, jc, rfl, hb, hO⟩
      replace F := F.below hb F.2.2
      replace B := B.trans (hb.mono B.size)
      replace A := (A.below hb (Nat.le_refl _)).more hb.size
      replace M := (M.below hb (Nat.le_refl _)).more hb.size
      replace I := (I.below hb (Nat.le_refl _)).more hb.size
      replace R := (R.below hb (Nat.le_refl _)).more hb.size
      clear hb
      have J := Rd.of_own hO
      clear hO
      clear R
      go_wp2_with fail
      refine (CA5 w11 A M).mono ?_
      rintro e w12 ⟨sa, sc, rfl, hb, hO⟩
      replace F := F.below hb F.2.2
      replace B := B.trans (hb.mono B.size)
      replace A := (A.below hb (Nat.le_refl _)).more hb.size
      replace M := (M.below hb (Nat.le_refl _)).more hb.size
      replace I := (I.below hb (Nat.le_refl _)).more hb.size
      replace J := (J.below hb (Nat.le_refl _)).more hb.size
      clear hb
      have S := Rd.of_own hO
      clear hO
      have ⟨f0, f1⟩ := F.1
      go_wp2_with fail
      refine (HP.out w12 A).mono ?_
      rintro e w13 ⟨ta, tc, rfl, hb, hO⟩
      replace F := F.below hb F.2.2
      replace B := B.trans (hb.mono B.size)
      replace A := (A.below hb (Nat.le_refl _)).more hb.size
      replace M := (M.below hb (Nat.le_refl _)).more hb.size
      replace I := (I.below hb (Nat.le_refl _)).more hb.size
      replace J := (J.below hb (Nat.le_refl _)).more hb.size
      replace S := (S.below hb (Nat.le_refl _)).more hb.size
      clear hb
      have R := Rd.of_own hO
      clear hO f0 f1
      go_wp2_with fail
      refine (CP5 ta tc w13 R M).mono ?_
      rintro e w14 ⟨ka, kc, rfl, hb, hO⟩
      replace F := F.below hb F.2.2
      replace B := B.trans (hb.mono B.size)
      replace A := (A.below hb (Nat.le_refl _)).more hb.size
      replace M := (M.below hb (Nat.le_refl _)).more hb.size
      replace I := (I.below hb (Nat.le_refl _)).more hb.size
      replace J := (J.below hb (Nat.le_refl _)).more hb.size
      replace S := (S.below hb (Nat.le_refl _)).more hb.size
      replace R := (R.below hb (Nat.le_refl _)).more hb.size
      clear hb
      have K := Rd.of_own hO
      clear hO CA1 CP1 CA5 CP5 HP
      go_wp2_with fail
      refine (samePairs_same ia ja n1 ic jc S1 w14 hl1 I J).mono ?_
      rintro e w15 ⟨rfl, hb⟩
      replace F := F.below hb F.2.2
      replace B := B.trans (hb.mono B.size)
      replace A := (A.below hb (Nat.le_refl _)).more hb.size
      replace M := (M.below hb (Nat.le_refl _)).more hb.size
      replace I := (I.below hb (Nat.le_refl _)).more hb.size
      replace J := (J.below hb (Nat.le_refl _)).more hb.size
      replace S := (S.below hb (Nat.le_refl _)).more hb.size
      replace R := (R.below hb (Nat.le_refl _)).more hb.size
      replace K := (K.below hb (Nat.le_refl _)).more hb.size
      clear hb
      go_wp2_with fail
      refine (samePairs_same sa ka n5 sc kc S5 w15 hl5 S K).mono ?_
      rintro e w16 ⟨rfl, hb⟩
      replace F := F.below hb F.2.2
      replace B := B.trans (hb.mono B.size)
      replace A := (A.below hb (Nat.le_refl _)).more hb.size
      replace M := (M.below hb (Nat.le_refl _)).more hb.size
      replace I := (I.below hb (Nat.le_refl _)).more hb.size
      replace J := (J.below hb (Nat.le_refl _)).more hb.size
      replace S := (S.below hb (Nat.le_refl _)).more hb.size
      replace R := (R.below hb (Nat.le_refl _)).more hb.size
      replace K := (K.below hb (Nat.le_refl _)).more hb.size
      clear hb
      go_wp2_with fail
      go_ret
      exact ⟨rfl, B⟩
end Go.Proofs.Ytbcdpgjjfllgjaa

namespace Go.Proofs.Ytbcdpgjjfllgjaa
open Go.RowKit
theorem passed_again (N : Int) (x : ByteArray) (l : List RowV) : passedS N x (passedS N x l) = passedS N x l := by
  cases hf : filB N x
  · unfold passedS
    rw [hf]; rfl
  · cases hr : rowsOk l
    · have e : passedS N x l = [] := by unfold passedS; rw [hr, Bool.and_false]; rfl
      rw [e]
      unfold passedS
      split <;> rfl
    · have h2 := passed_rows (E := N) (x := x) hr
      have e : passedS N x l = l.filter (fun r => decide (addS N r.key x = x)) := by unfold passedS; rw [hf, hr]; rfl
      rw [e] at h2
      rw [e]
      unfold passedS
      rw [hf, h2]
      simp only [Bool.and_self, if_true]
      rw [List.filter_filter]
      refine List.filter_congr fun r _ => ?_
      simp
theorem of_has {m : List RowV} {E : Int} (h : ofOk m E = true) {r : RowV} (hr : r ∈ m) : hasB E (ofS m E) r.key = true := by
  obtain ⟨h1, h2, h3, h4, h5⟩ := of_filter h
  obtain ⟨i, hi⟩ := List.getElem?_of_mem hr
  exact ofS_has E m i r hi h1 h2 h3 (rowOk_key h4 hi)
theorem passed_own {m : List RowV} {E : Int} (h : ofOk m E = true) : passedS E (ofS m E) m = m := by
  obtain ⟨h1, h2, h3, h4, h5⟩ := of_filter h
  unfold passedS
  rw [h5, h4]
  refine List.filter_eq_self.2 fun r hr => ?_
  have := of_has h hr
  unfold hasB at this
  rw [Bool.and_eq_true] at this
  exact this.2
theorem stays_none {v m : List RowV} {E : Int} (h : ofOk m E = true) : joinOfS (v.filter fun r => !hasB E (ofS m E) r.key) m 1 = [] := by
  unfold joinOfS
  split
  · rw [by_right inner_none, List.flatMap_eq_nil_iff]
    intro key hkey
    obtain ⟨q, hq, e⟩ := (keysOf_mem _ _).1 hkey
    have hz : valsK (sortL (v.filter fun r => !hasB E (ofS m E) r.key)) key = [] := by
      apply Classical.byContradiction
      intro hne
      obtain ⟨r, hr, e2⟩ := valsK_mem.1 hne
      rw [(sortL_perm' _).mem_iff, List.mem_filter] at hr
      have h2 := of_has h ((sortL_perm' m).mem_iff.1 hq)
      rw [e, ← e2] at h2
      rw [h2] at hr
      simp at hr
    rw [hz, one_inner]
    rfl
  · rfl
theorem below_app7 {W e s n : Nat} {w w4 : World} {o : Obj} {v : Value} {xs : List Value} (hO : w.ownsRow W e s v n xs) (hW : W ≤ w.heap.size) (hg : (w.alloc o).grownBy w4 v.ownBlock) : Below W w w4 :=
  ((Below.refl W w).alloc hW o).grown hg (by simp; omega) (fun q e => (own_ge hO q e).1)
theorem stay_yes {v : List RowV} {q : RowV → Bool} {i : Nat} {r : RowV} (h : v[i]? = some r) (hq : q r = true) : (v.take (i + 1)).filter q = (v.take i).filter q ++ [r] := by
  rw [List.take_add_one, h, Option.toList_some, List.filter_append]
  simp [hq]
theorem stay_no {v : List RowV} {q : RowV → Bool} {i : Nat} {r : RowV} (h : v[i]? = some r) (hq : q r = false) : (v.take (i + 1)).filter q = (v.take i).filter q := by
  rw [List.take_add_one, h, Option.toList_some, List.filter_append]
  simp [hq]
set_option maxRecDepth 100000 in
set_option maxHeartbeats 4000000 in
theorem walk_PassedTwice (a : Option Addr) (len cap : Nat) (xs : List Value) (w : World) (hI : IsCode w a len cap xs) :
    Calls Try.prog 13 #[.slice a len cap] w fun e w' => e = .returned (.bool true) ∧ Below w.heap.size w w' := by
  have hI0 := hI.by_
  obtain ⟨hlc, hcm, _, _⟩ := hI
  go_enter Try.func13, Try.ntmps13
  go_wp2_with fail
  refine (big_any a len cap w (by omega)).mono ?_
  rintro e w0 ⟨rfl, rfl⟩
  by_cases hbig : 1048576 < len
  · have hd : decide (1048576 < len) = true := by simpa using hbig
    rw [hd]
    go_wp2_with fail
    go_ret
    exact ⟨rfl, Below.refl _ _⟩
  have hd : decide (1048576 < len) = false := by simpa using hbig
  rw [hd]
  go_wp2_with fail
  refine (drawPassed_any a len cap w (by omega) hI0).mono ?_
  rintro e w1 ⟨N, x, l, lb, lc, hx, hll, hok, rfl, hO, hb⟩
  have B := hb
  clear hb
  have L := Rd.of_own hO
  clear hO
  have hxm : x.size ≤ maxLen := by unfold maxLen; omega
  have hb := bl1 w1 (.cells #[.int .i64 N, .string x] 44)
  replace B := B.trans (hb.mono B.size)
  replace L := (L.below hb (Nat.le_refl _)).more hb.size
  clear hb
  have F := FVar.new w1 N x 44
  go_wp2_with fail
  generalize w1.alloc (.cells #[.int .i64 N, .string x] 44) = w2 at *
  refine (implPassed_any N x _ l.length lc l w2 hxm (by omega) hok L).mono ?_
  rintro e w3 ⟨pa, pc, rfl, hb, hO⟩
  replace F := F.below hb F.2.2
  replace B := B.trans (hb.mono B.size)
  replace L := (L.below hb (Nat.le_refl _)).more hb.size
  clear hb
  have P := Rd.of_own hO
  clear hO
  have ⟨f0, f1⟩ := F.1
  go_wp2_with fail
  refine (specPassed_any N x _ l.length lc l w3 hxm (by omega) hok L).mono ?_
  rintro e w4 ⟨qa, qc, rfl, hb, hO⟩
  replace F := F.below hb F.2.2
  replace B := B.trans (hb.mono B.size)
  replace L := (L.below hb (Nat.le_refl _)).more hb.size
  replace P := (P.below hb (Nat.le_refl _)).more hb.size
  clear hb
  have Q := Rd.of_own hO
  clear hO f0 f1
  have hple := passedS_le N x l
  have hpok := passed_ok (N := N) (x := x) hok
  have HA := Lib.hid (passed_again N x l)
  go_wp2_with fail
  refine (sameRows_same pa qa _ pc qc (passedS N x l) w4 hple P Q).mono ?_
  rintro e w5 ⟨rfl, hb⟩
  replace F := F.below hb F.2.2
  replace B := B.trans (hb.mono B.size)
  replace L := (L.below hb (Nat.le_refl _)).more hb.size
  replace P := (P.below hb (Nat.le_refl _)).more hb.size
  replace Q := (Q.below hb (Nat.le_refl _)).more hb.size
  clear hb
  clear Q
  clear L
  have C := implPassed_any N x pa (passedS N x l).length pc (passedS N x l) w5 hxm hple hpok P
  rw [HA.out] at C
  clear HA
  have ⟨f0, f1⟩ := F.1
  go_wp2_with fail
  refine (C).mono ?_
  rintro e w6 ⟨ra, rc, rfl, hb, hO⟩
  replace F := F.below hb F.2.2
  replace B := B.trans (hb.mono B.size)
  replace P := (P.below hb (Nat.le_refl _)).more hb.size
  clear hb
  have R := Rd.of_own hO
  clear hO f0 f1 C
  go_wp2_with fail
  refine (sameRows_same ra pa _ rc pc (passedS N x l) w6 hple R P).mono ?_
  rintro e w7 ⟨rfl, hb⟩
  replace F := F.below hb F.2.2
  replace B := B.trans (hb.mono B.size)
  replace P := (P.below hb (Nat.le_refl _)).more hb.size
  replace R := (R.below hb (Nat.le_refl _)).more hb.size
  clear hb
  clear P
  clear R
  clear F hok hll hx hxm hple hpok
  go_wp2_with fail
  refine (drawJoinOf_any a len cap w7 (by omega) (hI0.keep7 B)).mono ?_
  rintro e w8 ⟨v, vb, vc, m, mb, mc, z, hvl, hvok, hml, hmok, rfl, hO, hP, hb⟩
  replace B := B.trans (hb.mono B.size)
  clear hb
  have A := Rd.of_own hO
  have M := Rd.of_own hP
  clear hO hP
  have C := implFilterOf_any (some ⟨mb, 0, none⟩) m.length mc m 64 w8 (by omega) hmok M
  cases hq : ofOk m 64
  · rw [ofV_no hq] at C
    clear hq
    go_wp2_with fail
    refine (C).mono ?_
    rintro e w9 ⟨rfl, hb⟩
    replace B := B.trans (hb.mono B.size)
    replace A := (A.below hb (Nat.le_refl _)).more hb.size
    replace M := (M.below hb (Nat.le_refl _)).more hb.size
    clear hb
    have hb := bl1 w9 (.cells #[.int .i64 0, .string ⟨#[]⟩] 44)
    replace B := B.trans (hb.mono B.size)
    go_wp2_with fail
    go_ret
    exact ⟨rfl, B⟩
  · obtain ⟨i0, hi, hz0, hz1, hz2⟩ := info_parts infoRow
    rw [ofV_yes hq] at C
    have ht := ofS_size32 hq
    have htm : (ofS m 64).size ≤ maxLen := by unfold maxLen; omega
    have HO := Lib.hid (passed_own hq)
    have HN := Lib.hid (stays_none (v := v) hq)
    clear hq
    go_wp2_with fail
    refine (C).mono ?_
    rintro e w9 ⟨rfl, hb⟩
    replace B := B.trans (hb.mono B.size)
    replace A := (A.below hb (Nat.le_refl _)).more hb.size
    replace M := (M.below hb (Nat.le_refl _)).more hb.size
    clear hb
    clear C
    generalize ofS m 64 = T at *
    have HL := Lib.hid (show v.length = v.length from rfl)
    have hb := bl1 w9 (.cells #[.int .i64 64, .string T] 44)
    replace B := B.trans (hb.mono B.size)
    replace A := (A.below hb (Nat.le_refl _)).more hb.size
    replace M := (M.below hb (Nat.le_refl _)).more hb.size
    clear hb
    have F := FVar.new w9 64 T 44
    have hs1 : (w9.alloc (.cells #[.int .i64 64, .string T] 44)).heap.size = w9.heap.size + 1 := by simp
    have X0 := World.ownsRow_lit (base := (w9.alloc (.cells #[.int .i64 64, .string T] 44)).heap.size) (e := 39) (size := 3) (w9.alloc (.cells #[.int .i64 64, .string T] 44)) #[] 0 (Nat.le_refl _) (Nat.zero_le _) rfl
    have hb0 := bl1 (w9.alloc (.cells #[.int .i64 64, .string T] 44)) (.cells #[] 39)
    go_wp2_with fail
    have HS1 := Lib.hid hs1.symm
    rw [hs1] at X0
    clear hs1
    generalize w9.alloc (.cells #[.int .i64 64, .string T] 44) = w10 at *
    have hw1 : w9.heap.size + 1 = w10.heap.size := HS1.out
    rw [hw1] at X0 ⊢
    clear HS1 hw1
    generalize w10.alloc (.cells #[] 39) = v0 at *
    go_loopw [11, 12] (fun x i wr => ∃ (k q : Nat) (g : Option Addr) (c : Nat), k ≤ v.length ∧ i = .int .i64 k ∧ x = .slice g q c ∧ q ≤ k ∧ Hid (((v.take k).filter fun r => !hasB 64 T r.key).length = q) ∧ wr.ownsRow w10.heap.size 39 3 (.slice g q c) q (flat ((v.take k).filter fun r => !hasB 64 T r.key)) ∧ Below w10.heap.size w10 wr) (fun _ i _ => v.length - (intOf i).toNat)
    case atStart => exact ⟨0, 0, _, _, Nat.zero_le _, rfl, rfl, Nat.le_refl _, Lib.hid rfl, X0, hb0⟩
    case round =>
      clear X0 hb0
      obtain ⟨k, q, g, c, hk, rfl, rfl, hqk, HC, X, hb⟩ := hrel
      by_cases hlt : k < v.length
      · obtain ⟨b1, o1, r, e1, hB1, hr, c0, c1, c2⟩ := (A.below hb (Nat.le_refl _)).row hlt
        injection e1 with e1
        injection e1 with e2 e3
        subst e2 e3
        simp only [Nat.zero_add] at c0 c1 c2
        have hkm : r.key.size ≤ maxLen := (hvok r (List.mem_of_getElem? hr)).1
        have ⟨f0, f1⟩ := (F.below hb F.2.2).1
        have HY := Lib.hid (fun h => stay_yes (q := fun r => !hasB 64 T r.key) hr h)
        have HX := Lib.hid (fun h => stay_no (q := fun r => !hasB 64 T r.key) hr h)
        have HR := Lib.hid hr
        clear hr
        obtain ⟨rk, rt, rv⟩ := r
        go_wp2_with fail
        refine wp_region_still_tail 6 (by kernel_rfl) (by kernel_rfl) ?_
        simp only [List.take_succ_cons, List.take_zero, List.drop_succ_cons, List.drop_zero]
        change wpStill _ _ wr.drew _ _ _
        repeat still_step
        refine wpStill_nil ?_
        change wpList _ _ _ _ _ wr.drew
        go_wp2_with fail
        refine (implFilterHas_any 64 T rk _ htm hkm).mono ?_
        rintro e w9 ⟨rfl, hb9⟩
        have hb8 : Below wr.heap.size wr w9 := (Below.refl wr.heap.size wr).drew.trans hb9
        have X9 := own_below X hb8
        have hbw := hb.trans (hb8.mono hb.size)
        clear c0 c1 c2 f0 f1 hb9 hb8 X hb
        cases hh : hasB 64 T rk
        · have E1 := Lib.hid (HY.out (by simp [hh]))
          obtain ⟨b1, o1, r, e1, hB1, hr, c0, c1, c2⟩ := (A.below hbw (Nat.le_refl _)).row hlt
          injection e1 with e1
          injection e1 with e2 e3
          subst e2 e3
          simp only [Nat.zero_add] at c0 c1 c2
          obtain rfl : (⟨rk, rt, rv⟩ : RowV) = r := by rw [HR.out] at hr; injection hr
          have h9 : w10.heap.size ≤ (w9.alloc (.cells #[.string rk, .int .i64 rt, .string rv] 39)).heap.size := Nat.le_trans hbw.size (bl1 w9 _).size
          have hm1 : q + 1 ≤ maxLen := by unfold maxLen; omega
          have hm2 : (q + 1) * 40 ≤ 140737488355328 := by omega
          clear hr HY HX hh
          go_wp2_with (at_builtin; refine wpList_append_own _ rfl _ _ 27 rfl w10.heap.size 39 i0 (.agg #[.string ⟨#[]⟩, .int .i64 0, .string ⟨#[]⟩]) 3 40 Try.underlying27 hi hz0 hz1 hz2 rfl (by decide) (.slice g q c) _ _ rfl (X9.alloc _) ⟨w9.heap.size, 0, none⟩ 1 1 [.string rk, .int .i64 rt, .string rv] rfl rfl (cell_row_new w9 ⟨rk, rt, rv⟩ _) (by simp [Value.oneCell']) hm1 hm2 h9 ?_)
          intro v' w10 hO10 hg10 _
          obtain ⟨a', cap', rfl⟩ := own_slice' hO10
          have hb10 := hbw.trans (below_app7 X9 hbw.size hg10)
          rw [← flat_snoc _ ⟨rk, rt, rv⟩, ← E1.out] at hO10
          have HC2 := Lib.hid (show ((v.take (k + 1)).filter fun r => !hasB 64 T r.key).length = q + 1 by rw [E1.out, List.length_append, HC.out]; rfl)
          clear hg10 X9 hbw c0 c1 c2 HC
          go_wp2_with fail
          go_roundw
          case rel => exact ⟨k + 1, q + 1, a', cap', by omega, by go_num, rfl, by omega, HC2, hO10, hb10⟩
          case measure => simp [intOf]; omega
        · have E1 := Lib.hid (HX.out (by simp [hh]))
          have HC2 := Lib.hid (show ((v.take (k + 1)).filter fun r => !hasB 64 T r.key).length = q by rw [E1.out, HC.out])
          rw [← E1.out] at X9
          have HX9 := Lib.hid X9
          clear X9 HC HY HX hh
          go_wp2_with fail
          go_roundw
          case rel => exact ⟨k + 1, q, g, c, by omega, by go_num, rfl, by omega, HC2, HX9.out, hbw⟩
          case measure => simp [intOf]; omega
      · have tk : v.take k = v := List.take_of_length_le (by omega)
        have hc := HC.out
        rw [tk] at X hc
        subst hc
        have hSok : ∀ r ∈ v.filter (fun r => !hasB 64 T r.key), r.Ok := fun r hr => hvok r (List.mem_filter.1 hr).1
        have hSl : (v.filter fun r => !hasB 64 T r.key).length ≤ 1048576 := by have := List.length_filter_le (fun r : RowV => !hasB 64 T r.key) v; omega
        have B2 := B.trans (hb.mono B.size)
        have M2 := (M.below hb (Nat.le_refl _)).more hb.size
        have F2 := F.below hb F.2.2
        have S2 := Rd.of_own X
        have C := implJoinOf_any g (v.filter fun r => !hasB 64 T r.key).length c (v.filter fun r => !hasB 64 T r.key) (some ⟨mb, 0, none⟩) m.length mc m 1 wr hSl hSok S2 (by omega) hmok M2
        unfold PairsB at C
        rw [HN.out] at C
        generalize joinOfB (v.filter fun r => !hasB 64 T r.key) m 1 = ok at *
        clear tk X HC hb B M A F HN S2 hSok hSl
        go_wp2_with fail
        refine C.mono ?_
        rintro e t1 ⟨ja, jc, rfl, hb, hO⟩
        have B3 := B2.trans (hb.mono B2.size)
        have M3 := (M2.below hb (Nat.le_refl _)).more hb.size
        have ⟨f0, f1⟩ := (F2.below hb F2.2.2).1
        have C2 := implPassed_any 64 T (some ⟨mb, 0, none⟩) m.length mc m t1 htm (by omega) hmok M3
        rw [HO.out] at C2
        clear hO hb B2 M2 C HO
        go_wp2_with fail
        refine C2.mono ?_
        rintro e t2 ⟨ra, rc, rfl, hb, hO⟩
        have B4 := B3.trans (hb.mono B3.size)
        have M4 := (M3.below hb (Nat.le_refl _)).more hb.size
        have R4 := Rd.of_own hO
        clear hO hb B3 M3 C2 f0 f1
        go_wp2_with fail
        refine (sameRows_same ra (some ⟨mb, 0, none⟩) m.length rc mc m t2 (by omega) R4 M4).mono ?_
        rintro e t3 ⟨rfl, hb⟩
        have B5 := B4.trans (hb.mono B4.size)
        clear hb B4 R4 M4
        cases ok
        all_goals
          go_wp2_with fail
          go_ret
          exact ⟨rfl, B5⟩
end Go.Proofs.Ytbcdpgjjfllgjaa

namespace Go.Proofs.Ytbcdpgjjfllgjaa
open Go.ChangeShapes Go.WideShapes Go.ChangeAt Go.RowKit Go.Joins
open Go.ChangeMaps (open_string shut_string)
namespace PassedTwice

set_option maxRecDepth 100000 in
theorem lifted (os : Os) (started : os.Started) (H : Type) (enc : TypeId × Value → H) :
    ReturnsInHanded {} Try.checked os 13 .any (Rows.fnPassedTwiceSpec.pre6 enc Try.prog Try.f13 Rows.fnPassedTwiceRow.domain false) (Rows.fnPassedTwiceSpec.post enc Try.prog Try.f13 false true false false) := by
  refine returnsInHanded_of_change (C := Try.checked) own started (by kernel_rfl) Try.func13
    (ChangeSpec.witness6 (enc := enc) (C := Try.checked) false ⟨#[], #[.slice none 0 0], []⟩ 8 (by kernel_rfl) (by kernel_rfl) (by kernel_rfl) (by kernel_rfl)) ?_
  intro W base args ds gs before hval0 hW _ _
  have hval : ∀ (j : Nat) t v, Try.f13.params[j]? = some t → args[j]? = some v → Value.okWide Try.prog W .any base t v := hval0
  have hW' := hW
  obtain ⟨p, q, hA0, hV, rfl, _, _⟩ := hW
  have hA : DataW.TrodAll enc Try.prog W 0 (fun _ => true) true Try.f13.params.toList args.toList ds p := hA0
  rw [Try.params13] at hA hval
  obtain ⟨v0, vs0, d0, ds0, p0, q0, hargs, rfl, rfl, h0, r0⟩ := trodAll_cons hA
  obtain ⟨rfl, rfl, rfl⟩ := trodAll_nil r0
  obtain rfl : args = #[v0] := by cases args; simp_all
  obtain ⟨rfl, rfl⟩ := trodVars_none hV
  have k0 := h0
  have lt0 : ∀ x ∈ p0, x.block < W.heap.size := by obtain ⟨m, hm⟩ := k0; exact DataW.trod_lt m _ _ _ hm
  obtain ⟨a0, len0, cap0, z0, rfl, w0⟩ := open_Bytes (hval 0 34 v0 rfl rfl) h0
  clear hA0 hval0
  refine (walk_PassedTwice a0 len0 cap0 z0 W w0).mono fun e W' ⟨he, bel⟩ => ?_
  subst he
  exact ⟨_, rfl, _, _, _, [], _, [], hW', trodAll_mk1 (shut_bool Try.underlying4 _), (trodAll_cons_mk (Below.trod laidOut (by kernel_rfl) (of_decide_eq_true (by kernel_rfl)) k0 bel lt0) trodAll_mk0), rfl, bel.frame _, fun h => by cases h⟩

theorem over : Rows.fnPassedTwiceRow.holds Try.pinned (OpenSpec.ofChange Rows.fnPassedTwiceSpec) :=
  OpenClaim.holds_of_wide 13 Try.f13 rfl rfl rfl rfl rfl rfl rfl ⟨rfl, rfl, rfl, rfl, rfl⟩ rfl rfl rfl rfl rfl (by kernel_rfl) Try.func13 (by kernel_rfl)
    (of_decide_eq_true (by kernel_rfl)) (by unfold Func.isWrapper; first | (rw [if_pos (by decide +kernel)]; kernel_rfl) | (rw [if_neg (by decide +kernel)]; exact ⟨rfl, rfl⟩))
    (fun os started H enc _ => lifted os started H enc)
end PassedTwice
theorem fnPassedTwice_holds : Rows.FnPassedTwiceSaid := PassedTwice.over
end Go.Proofs.Ytbcdpgjjfllgjaa
