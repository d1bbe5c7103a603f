/-
  impl.FilterBoth by its contract. Conditions: texts have at most maxLen bytes.
-/
import Derived.Test.YtohiecppakiliaaBitUnite
import Derived.Test.YtohiecppakiliaaExactFilterOk
import Derived.Laws.ResultCell
namespace Go.Proofs.Ytohiecppakiliaa
open Go.RowKit
/-- A variable of type impl.Filter in block b that may be written. -/
def FV (w : World) (b : Nat) : Prop := w.there b 0 2 ∧ b < w.heap.size
theorem FV.below {w w' : World} {B b : Nat} (h : FV w b) (hb : Below B w w') (hB : b < B) : FV w' b :=
  ⟨fun j hj => ⟨by rw [hb.cell (p := ⟨b, 0 + j, none⟩) hB]; exact (h.1 j hj).1, by rw [hb.frozen (p := ⟨b, 0 + j, none⟩) hB]; exact (h.1 j hj).2⟩, Nat.lt_of_lt_of_le h.2 hb.size⟩
theorem FV.new (w : World) (n : Int) (x : ByteArray) (t : TypeId) : FV (w.alloc (.cells #[.int .i64 n, .string x] t)) w.heap.size := by
  refine ⟨fun j hj => ?_, by simp⟩
  rcases (show j = 0 ∨ j = 1 by omega) with rfl | rfl <;> simp [go_sem]
/-- A filter is stored into such a variable. -/
theorem wpList_store_fil {ops : Array Oper} {rest : List Oper} {op : Oper} {a : Act} {w : World} {Q : Exit → Act → World → Prop} (hgd : op.guard = none) (x y : Operand) (ho : op.op = .store 25 x y)
    (b : Nat) (n : Int) (s : ByteArray) (hx : a.eval x = .pointer (some ⟨b, 0, none⟩)) (hy : a.eval y = .agg #[.int .i64 n, .string s]) (hN : FV w b)
    (h : ∀ w', w'.rangeAt b 0 [.int .i64 n, .string s] → (∀ B W, B ≤ b → Below B W w → Below B W w') → wpList Try.prog ops Q rest (a.put op.dst undef) w') : wpList Try.prog ops Q (op :: rest) a w :=
  wpList_store_mid hgd 25 x y ho b 0 #[.int .i64 n, .string s] hx hy hN.1 (by kernel_rfl) (by simp [Value.oneCell'])
    (h _ (World.rangeAt_setCells_same _ _ _ _ hN.1) fun _ _ hB hb => below_setCells hB _ _ _ hb)
/-- A set of bits is stored into a variable that holds one. -/
theorem wpList_store_bits {ops : Array Oper} {rest : List Oper} {op : Oper} {a : Act} {w : World} {Q : Exit → Act → World → Prop} (hgd : op.guard = none) (x y : Operand) (ho : op.op = .store 69 x y)
    (b : Nat) (n : Int) (l : List UInt8) (hx : a.eval x = .pointer (some ⟨b, 0, none⟩)) (hy : a.eval y = .agg (bsL n l).toArray) (n0 : Int) (l0 : List UInt8) (r : BS w b n0 l0) (hl : l.length = 32)
    (h : ∀ w', BS w' b n l → (∀ B W, B ≤ b → Below B W w → Below B W w') → wpList Try.prog ops Q rest (a.put op.dst undef) w') : wpList Try.prog ops Q (op :: rest) a w :=
  wpList_store_mid hgd 69 x y ho b 0 (bsL n l).toArray hx hy (by simpa [bsL_length, hl] using r.2.1) (info74l n l hl) (allOne n l)
    (h _ (r.put_all hl) fun _ _ hB hb => below_setCells hB _ _ _ hb)
theorem load_fil {w : World} {b : Nat} {n : Int} {s : ByteArray} (h : w.rangeAt b 0 [.int .i64 n, .string s]) : (loadVar 25 ⟨b, 0, none⟩).run Try.prog w = .ok (.agg #[.int .i64 n, .string s]) w :=
  run_loadVar_mid (P := Try.prog) w b 0 25 [.int .i64 n, .string s] _ h Try.underlying25 rfl (by kernel_rfl)
def bothB (n : Int) (x : ByteArray) (n2 : Int) (x2 : ByteArray) : Bool := filB n x && filB n2 x2 && n == n2
def noFil : Value := .agg #[.int .i64 0, .string ⟨#[]⟩]
def bothV (n : Int) (x : ByteArray) (n2 : Int) (x2 : ByteArray) : Value := if bothB n x n2 x2 then .tuple #[.agg #[.int .i64 n, .string (bytesOf n (orBytes 32 (padL x) (padL x2)))], .bool true] else .tuple #[noFil, .bool false]
theorem ret_val {a b : Value} (h : a = b) : Ending.returned a = .returned b := by rw [h]
theorem filB_facts {n : Int} {x : ByteArray} (h : filB n x = true) : 8 ≤ n ∧ n ≤ 256 ∧ x.size ≤ 32 := by
  have := of_decide_eq_true h
  omega
set_option maxRecDepth 100000 in
theorem implFilterBoth_any (n : Int) (x : ByteArray) (n2 : Int) (x2 : ByteArray) (w : World) (hx : x.size ≤ maxLen) (hx2 : x2.size ≤ maxLen) :
    Calls Try.prog 22 #[.agg #[.int .i64 n, .string x], .agg #[.int .i64 n2, .string x2]] w fun e w' => e = .returned (bothV n x n2 x2) ∧ Below w.heap.size w w' := by
  have c1 := ((At2.new w (.int .i64 n) (.string x) 25).keep (bl1 _ (.cells #[.int .i64 n2, .string x2] 25)) (by simp)).keep (bl1 _ (.cells #[.int .i64 0, .string ⟨#[]⟩] 25)) (by simp; omega)
  have c2 := (At2.new (w.alloc (.cells #[.int .i64 n, .string x] 25)) (.int .i64 n2) (.string x2) 25).keep (bl1 _ (.cells #[.int .i64 0, .string ⟨#[]⟩] 25)) (by simp)
  have hb := bl3 w (.cells #[.int .i64 n, .string x] 25) (.cells #[.int .i64 n2, .string x2] 25) (.cells #[.int .i64 0, .string ⟨#[]⟩] 25)
  have hN := FV.new ((w.alloc (.cells #[.int .i64 n, .string x] 25)).alloc (.cells #[.int .i64 n2, .string x2] 25)) 0 ⟨#[]⟩ 25
  simp only [World.size_alloc] at c2 hN
  go_enter Try.func22, Try.ntmps22
  go_wp2_with fail
  generalize (((w.alloc (.cells #[.int .i64 n, .string x] 25)).alloc (.cells #[.int .i64 n2, .string x2] 25)).alloc (.cells #[.int .i64 0, .string ⟨#[]⟩] 25)) = w1 at *
  refine (implFilterOk_any n x _ hx).mono ?_
  rintro e w2 ⟨rfl, hb1⟩
  have hz := hN.2
  replace c1 := c1.keep hb1 (by omega)
  replace c2 := c2.keep hb1 (by omega)
  replace hN := hN.below hb1 hz
  replace hb := hb.trans (hb1.mono (by omega))
  replace hz := hN.2
  clear hb1
  cases hf1 : filB n x
  · have E := Lib.hid (show bothV n x n2 x2 = .tuple #[noFil, .bool false] by simp [bothV, bothB, hf1])
    clear hf1
    have ⟨y0, y1⟩ := c2
    go_wp2_with (refine wpList_store_fil rfl _ _ rfl (w.heap.size + 1 + 1) 0 ⟨#[]⟩ ?_ ?_ hN fun w3 hR hk => stop ?_)
    · rfl
    · rfl
    refine unstop ?_
    have hld := load_fil hR
    go_wp2_with fail
    refine bodyPost_ret (v := .tuple #[noFil, .bool false]) ?_ rfl ⟨ret_val E.out.symm, hk _ _ (by omega) hb⟩
    rw [results_cell_tmp rfl]
    simp [asAddr, Result.andThen, hld, noFil]
  have ⟨y0, y1⟩ := c2
  go_wp2_with fail
  refine (implFilterOk_any n2 x2 _ hx2).mono ?_
  rintro e w3 ⟨rfl, hb1⟩
  clear y0 y1
  replace c1 := c1.keep hb1 (by omega)
  replace c2 := c2.keep hb1 (by omega)
  replace hN := hN.below hb1 hz
  replace hb := hb.trans (hb1.mono (by omega))
  replace hz := hN.2
  clear hb1
  cases hf2 : filB n2 x2
  · have E := Lib.hid (show bothV n x n2 x2 = .tuple #[noFil, .bool false] by simp [bothV, bothB, hf2])
    clear hf1 hf2
    have ⟨y0, y1⟩ := c2
    have ⟨z0, z1⟩ := c1
    go_wp2_with (refine wpList_store_fil rfl _ _ rfl (w.heap.size + 1 + 1) 0 ⟨#[]⟩ ?_ ?_ hN fun w3 hR hk => stop ?_)
    · rfl
    · rfl
    refine unstop ?_
    have hld := load_fil hR
    go_wp2_with fail
    refine bodyPost_ret (v := .tuple #[noFil, .bool false]) ?_ rfl ⟨ret_val E.out.symm, hk _ _ (by omega) hb⟩
    rw [results_cell_tmp rfl]
    simp [asAddr, Result.andThen, hld, noFil]
  have ⟨y0, y1⟩ := c2
  have ⟨z0, z1⟩ := c1
  by_cases hn : n = n2
  case neg =>
    have E := Lib.hid (show bothV n x n2 x2 = .tuple #[noFil, .bool false] by simp [bothV, bothB, hn])
    have hne : (n != n2) = true := by simpa using hn
    clear hf1 hf2 hn
    go_wp2_with (refine wpList_store_fil rfl _ _ rfl (w.heap.size + 1 + 1) 0 ⟨#[]⟩ ?_ ?_ hN fun w3 hR hk => stop ?_)
    · rfl
    · rfl
    refine unstop ?_
    have hld := load_fil hR
    go_wp2_with fail
    refine bodyPost_ret (v := .tuple #[noFil, .bool false]) ?_ rfl ⟨ret_val E.out.symm, hk _ _ (by omega) hb⟩
    rw [results_cell_tmp rfl]
    simp [asAddr, Result.andThen, hld, noFil]
  subst hn
  have E := Lib.hid (show bothV n x n x2 = .tuple #[.agg #[.int .i64 n, .string (bytesOf n (orBytes 32 (padL x) (padL x2)))], .bool true] by simp [bothV, bothB, hf1, hf2])
  obtain ⟨q0, q1, q2⟩ := filB_facts hf1
  obtain ⟨_, _, q3⟩ := filB_facts hf2
  clear hf1 hf2
  go_wp2_with fail
  refine (bitSetOf_any n x _ q2).mono ?_
  rintro e w4 ⟨rfl, hb1⟩
  clear z0 z1 y0 y1
  replace c2 := c2.keep hb1 (by omega)
  replace hN := hN.below hb1 hz
  replace hb := hb.trans (hb1.mono (by omega))
  replace hz := hN.2
  clear hb1 c1
  go_wp2_with (refine wpList_alloc_row rfl 69 rfl _ zero74 (stop ?_))
  have r := BS.new w4 0 zero32 69 rfl
  have hb1 := bl1 w4 (.cells (bsL 0 zero32).toArray 69)
  replace c2 := c2.keep hb1 (by omega)
  replace hN := hN.below hb1 hz
  replace hb := hb.trans (hb1.mono (by omega))
  clear hb1
  generalize w4.alloc (.cells (bsL 0 zero32).toArray 69) = w5 at *
  generalize w4.heap.size = B at *
  refine unstop ?_
  refine wpList_store_bits rfl _ _ rfl B n (padL x) rfl rfl 0 zero32 r (padL_length x q2) fun w6 r6 hk => ?_
  have hb1 := hk B w5 (Nat.le_refl _) (Below.refl _ _)
  have c3 : At2 w6 (w.heap.size + 1) (.int .i64 n) (.string x2) := ⟨(hb1.cell (p := ⟨_, 0, none⟩) (by show w.heap.size + 1 < B; omega)).trans c2.1, (hb1.cell (p := ⟨_, 1, none⟩) (by show w.heap.size + 1 < B; omega)).trans c2.2⟩
  replace hN := hN.below hb1 (by omega)
  replace hb := hb.trans (hb1.mono (by omega))
  clear hb1 hk r c2
  have ⟨y0, y1⟩ := c3
  go_wp2_with fail
  refine (bitSetOf_any n x2 _ q3).mono ?_
  rintro e w7 ⟨rfl, hb1⟩
  replace r6 := r6.below hb1 r6.2.2.2
  replace hN := hN.below hb1 hN.2
  replace hb := hb.trans (hb1.mono (hb.size))
  clear hb1 y0 y1 c3
  go_wp2_with fail
  refine (unite_any B n n (padL x) (padL x2) _ r6 (padL_length x2 q3)).mono ?_
  rintro e w8 ⟨rfl, hb1, r8⟩
  replace hN := hN.below hb1 (by omega)
  replace hb := hb.trans (hb1.mono (by omega))
  clear hb1 r6
  go_wp2_with fail
  refine (bitFilter_any B n (orBytes 32 (padL x) (padL x2)) _ r8 q0 q1).mono ?_
  rintro e w9 ⟨rfl, hb1⟩
  replace hN := hN.below hb1 hN.2
  replace hb := hb.trans (hb1.mono hb.size)
  clear hb1 r8
  generalize bytesOf n (orBytes 32 (padL x) (padL x2)) = s at *
  go_wp2_with (refine wpList_store_fil rfl _ _ rfl (w.heap.size + 1 + 1) n s ?_ ?_ hN fun w3 hR hk => stop ?_)
  · rfl
  · rfl
  refine unstop ?_
  have hld := load_fil hR
  go_wp2_with fail
  refine bodyPost_ret (v := .tuple #[.agg #[.int .i64 n, .string s], .bool true]) ?_ rfl ⟨ret_val E.out.symm, hk _ _ (by omega) hb⟩
  rw [results_cell_tmp rfl]
  simp [asAddr, Result.andThen, hld]
end Go.Proofs.Ytohiecppakiliaa
