
/-
  impl.FilterBoth by its contract. Conditions: texts have at most maxLen bytes.
-/
import Derived.Test.YtpnbbedfbglekaaBitUnite
import Derived.Test.YtpnbbedfbglekaaExactFilterOk
import Derived.Laws.ResultCell
namespace Go.Proofs.Ytpnbbedfbglekaa
open Go.RowKit
/-- A variable of type impl.Filter in block b that may be written. -/
def FV (w : World) (b : Nat) : Prop := w.there b 0 2 ∧ b < w.heap.size
theorem FV.below {w w' : World} {B b : Nat} (h : FV w b) (hb : Below B w w') (hB : b < B) : FV w' b :=
  ⟨fun j hj => ⟨by rw [hb.cell (p := ⟨b, 0 + j, none⟩) hB]; exact (h.1 j hj).1, by rw [hb.frozen (p := ⟨b, 0 + j, none⟩) hB]; exact (h.1 j hj).2⟩, Nat.lt_of_lt_of_le h.2 hb.size⟩
theorem FV.new (w : World) (n : Int) (x : ByteArray) (t : TypeId) : FV (w.alloc (.cells #[.int .i64 n, .string x] t)) w.heap.size := by
  refine ⟨fun j hj => ?_, by simp⟩
  rcases (show j = 0 ∨ j = 1 by omega) with rfl | rfl <;> simp [go_sem]
/-- A filter is stored into such a variable. -/
theorem wpList_store_fil {ops : Array Oper} {rest : List Oper} {op : Oper} {a : Act} {w : World} {Q : Exit → Act → World → Prop} (hgd : op.guard = none) (x y : Operand) (ho : op.op = .store 66 x y)
    (b : Nat) (n : Int) (s : ByteArray) (hx : a.eval x = .pointer (some ⟨b, 0, none⟩)) (hy : a.eval y = .agg #[.int .i64 n, .string s]) (hN : FV w b)
    (h : ∀ w', w'.rangeAt b 0 [.int .i64 n, .string s] → (∀ B W, B ≤ b → Below B W w → Below B W w') → wpList Try.prog ops Q rest (a.put op.dst undef) w') : wpList Try.prog ops Q (op :: rest) a w :=
  wpList_store_mid hgd 66 x y ho b 0 #[.int .i64 n, .string s] hx hy hN.1 (by kernel_rfl) (by simp [Value.oneCell'])
    (h _ (World.rangeAt_setCells_same _ _ _ _ hN.1) fun _ _ hB hb => below_setCells hB _ _ _ hb)
/-- A set of bits is stored into a variable that holds one. -/
theorem wpList_store_bits {ops : Array Oper} {rest : List Oper} {op : Oper} {a : Act} {w : World} {Q : Exit → Act → World → Prop} (hgd : op.guard = none) (x y : Operand) (ho : op.op = .store 127 x y)
    (b : Nat) (n : Int) (l : List UInt8) (hx : a.eval x = .pointer (some ⟨b, 0, none⟩)) (hy : a.eval y = .agg (bsL n l).toArray) (n0 : Int) (l0 : List UInt8) (r : BS w b n0 l0) (hl : l.length = 32)
    (h : ∀ w', BS w' b n l → (∀ B W, B ≤ b → Below B W w → Below B W w') → wpList Try.prog ops Q rest (a.put op.dst undef) w') : wpList Try.prog ops Q (op :: rest) a w :=
  wpList_store_mid hgd 127 x y ho b 0 (bsL n l).toArray hx hy (by simpa [bsL_length, hl] using r.2.1) (info74l n l hl) (allOne n l)
    (h _ (r.put_all hl) fun _ _ hB hb => below_setCells hB _ _ _ hb)
theorem load_fil {w : World} {b : Nat} {n : Int} {s : ByteArray} (h : w.rangeAt b 0 [.int .i64 n, .string s]) : (loadVar 66 ⟨b, 0, none⟩).run Try.prog w = .ok (.agg #[.int .i64 n, .string s]) w :=
  run_loadVar_mid (P := Try.prog) w b 0 66 [.int .i64 n, .string s] _ h Try.underlying66 rfl (by kernel_rfl)
def bothB (n : Int) (x : ByteArray) (n2 : Int) (x2 : ByteArray) : Bool := filB n x && filB n2 x2 && n == n2
def noFil : Value := .agg #[.int .i64 0, .string ⟨#[]⟩]
def bothV (n : Int) (x : ByteArray) (n2 : Int) (x2 : ByteArray) : Value := if bothB n x n2 x2 then .tuple #[.agg #[.int .i64 n, .string (bytesOf n (orBytes 32 (padL x) (padL x2)))], .bool true] else .tuple #[noFil, .bool false]
theorem ret_val {a b : Value} (h : a = b) : Ending.returned a = .returned b := by rw [h]
theorem filB_facts {n : Int} {x : ByteArray} (h : filB n x = true) : 8 ≤ n ∧ n ≤ 256 ∧ x.size ≤ 32 := by
  have := of_decide_eq_true h
  omega
end Go.Proofs.Ytpnbbedfbglekaa
