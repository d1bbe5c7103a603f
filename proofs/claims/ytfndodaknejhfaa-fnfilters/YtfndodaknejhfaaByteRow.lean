/-
  A new row of bytes made of a string, and a string made of it: steps of the walk. No conditions but those of each statement.
-/
import Derived.Test.YtfndodaknejhfaaBothImpl
import Derived.Lib.ConvBytes
namespace Go.Proofs.Ytfndodaknejhfaa
open Go.RowKit
/-- A row of bytes in block b. -/
def BY (w : World) (b : Nat) (l : List UInt8) : Prop := w.rangeAt b 0 (l.map u8v) ∧ w.there b 0 l.length ∧ b < w.heap.size
theorem BY.below {w w' : World} {B b : Nat} {l : List UInt8} (h : BY w b l) (hb : Below B w w') (hB : b < B) : BY w' b l :=
  ⟨fun j v hv => (hb.cell (p := ⟨b, 0 + j, none⟩) hB).trans (h.1 j v hv), fun j hj => ⟨by rw [hb.cell (p := ⟨b, 0 + j, none⟩) hB]; exact (h.2.1 j hj).1, by rw [hb.frozen (p := ⟨b, 0 + j, none⟩) hB]; exact (h.2.1 j hj).2⟩, Nat.lt_of_lt_of_le h.2.2 hb.size⟩
theorem BY.set {w : World} {b : Nat} {l : List UInt8} (h : BY w b l) (i : Nat) (c : UInt8) (hi : i < l.length) : BY (w.setCell ⟨b, i, none⟩ (u8v c)) b (l.set i c) := by
  refine ⟨?_, ?_, ?_⟩
  · have := rangeAt_splice (o := i) (vs := [u8v c]) h.1 (by simpa using h.2.1) (by simp; omega)
    simp only [List.length_cons, List.length_nil, Nat.zero_add] at this
    rw [List.map_set, List.set_eq_take_append_cons_drop, if_pos (by simpa using hi)]
    exact this
  · rw [List.length_set]; exact World.there_setCells h.2.1 b i [u8v c]
  · have := size_setCells b [u8v c] i w
    exact this ▸ h.2.2
theorem BY.cell {w : World} {b : Nat} {l : List UInt8} (h : BY w b l) (i : Nat) (c : UInt8) (hc : l[i]? = some c) : w.cell? ⟨b, i, none⟩ = some (.int .u8 (c.toNat : Int)) := by
  have := h.1 i (u8v c) (by simp [hc])
  rwa [Nat.zero_add] at this
theorem BY.frozen {w : World} {b : Nat} {l : List UInt8} (h : BY w b l) (i : Nat) (hi : i < l.length) : w.frozen? ⟨b, i, none⟩ = false := by
  simpa using (h.2.1 i hi).2
theorem BY.text {w : World} {b : Nat} {l : List UInt8} (h : BY w b l) (cap : Nat) : (convert 22 9 (.slice (some ⟨b, 0, none⟩) l.length cap)).run Try.prog w = .ok (.string ⟨l.toArray⟩) w :=
  run_convert_bytes_back (P := Try.prog) w 22 9 5 ⟨b, 0, none⟩ cap l Try.underlying22 Try.underlying5 Try.underlying9 (fun j hj => by
    rw [Addr.add_mid, Nat.zero_add]
    exact h.cell j _ (List.getElem?_eq_getElem hj))
theorem BY.new (w : World) (s : ByteArray) : BY (Lib.bytesWorld w 5 s) w.heap.size s.data.toList ∧ ∀ B W, B ≤ w.heap.size → Below B W w → Below B W (Lib.bytesWorld w 5 s) := by
  have hsz := Lib.bytesWorld_size w 5 s
  have e : s.data.toList.length = s.size := by simp
  refine ⟨⟨fun j v hv => ?_, fun j hj => ⟨?_, ?_⟩, by omega⟩, fun B W hB hb => hb.trans ⟨?_, ?_, ?_, by omega, fun k hk => Lib.bytesWorld_at_old w 5 s k (by omega)⟩⟩
  · rw [List.getElem?_map] at hv
    obtain ⟨c, hc, rfl⟩ := Option.map_eq_some_iff.1 hv
    have hj := (List.getElem?_eq_some_iff.1 hc).1
    rw [Nat.zero_add, Lib.bytesWorld_cell w 5 s j (by omega)]
    simp only [List.getD, hc]; rfl
  · rw [Nat.zero_add, Lib.bytesWorld_cell w 5 s j (by omega)]; rfl
  · simp only [World.frozen?, Lib.bytesWorld_at_new]
    have : j < (Lib.bytesCells w 5 s).size := by simp [Lib.bytesCells]; omega
    simp; omega
  · simp [Lib.bytesWorld, World.freeze]; rfl
  · simp [Lib.bytesWorld, World.freeze]
  · simp [Lib.bytesWorld, World.freeze]; rfl
theorem wpList_bytes {ops : Array Oper} {rest : List Oper} {op : Oper} {a : Act} {w : World} {Q : Exit → Act → World → Prop} (hgd : op.guard = none) (x : Operand) (ho : op.op = .convert 9 22 x)
    (s : ByteArray) (hx : a.eval x = .string s)
    (h : ∀ w' cap, BY w' w.heap.size s.data.toList → (∀ B W, B ≤ w.heap.size → Below B W w → Below B W w') → wpList Try.prog ops Q rest (a.put op.dst (.slice (some ⟨w.heap.size, 0, none⟩) s.size cap)) w') : wpList Try.prog ops Q (op :: rest) a w :=
  wpList_plain hgd fun _ hK => by
    have := Lib.run_convert_string_bytes (P := Try.prog) w 9 22 5 s Try.underlying9 Try.underlying22 Try.underlying5
    obtain ⟨h1, h2⟩ := BY.new w s
    unfold Oper.wp execOp
    simp only [ho, hx, this, Sem.run_bind, Sem.run_pure, Result.andThen_ok]
    exact hK _ _ (h _ _ h1 h2)
end Go.Proofs.Ytfndodaknejhfaa
