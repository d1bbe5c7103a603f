/-
  spec.FilterOf by its contract. Conditions: at most 1048576 rows, texts have at most maxLen bytes.
-/
import Derived.Test.YtfndodaknejhfaaFilterNewSpec
namespace Go.Proofs.Ytfndodaknejhfaa
open Go.RowKit
theorem wpList_store_fil2 {ops : Array Oper} {rest : List Oper} {op : Oper} {a : Act} {w : World} {Q : Exit → Act → World → Prop} (hgd : op.guard = none) (x y : Operand) (ho : op.op = .store 36 x y)
    (b : Nat) (n : Int) (s : ByteArray) (hx : a.eval x = .pointer (some ⟨b, 0, none⟩)) (hy : a.eval y = .agg #[.int .i64 n, .string s]) (hN : FV w b)
    (h : ∀ w', At2 w' b (.int .i64 n) (.string s) → FV w' b → Below b w w' → wpList Try.prog ops Q rest (a.put op.dst undef) w') : wpList Try.prog ops Q (op :: rest) a w := by
  refine wpList_store_mid hgd 36 x y ho b 0 #[.int .i64 n, .string s] hx hy hN.1 (by kernel_rfl) (by simp [Value.oneCell']) ?_
  have hr := World.rangeAt_setCells_same w b 0 [.int .i64 n, .string s] hN.1
  exact h _ ⟨hr 0 _ rfl, hr 1 _ rfl⟩ ⟨World.there_setCells hN.1 b 0 _, by rw [size_setCells]; exact hN.2⟩ (below_setCells (Nat.le_refl _) _ _ _ (Below.refl _ _))
def ofB (n : Int) (rs : List RowV) (k : Nat) : ByteArray := ⟨(ofL n (rs.take k) (zeroL n)).toArray⟩
theorem ofB_size (n : Int) (rs : List RowV) (k : Nat) (h0 : 8 ≤ n) : ((ofB n rs k).size : Int) = n / 8 := by
  have : (ofB n rs k).size = (n / 8).toNat := by
    simp [ofB, ByteArray.size, ofL_length, zeroL]
  omega
theorem ofB_succ (n : Int) (rs : List RowV) (k : Nat) (r : RowV) (h : rs[k]? = some r) : addS n r.key (ofB n rs k) = ofB n rs (k + 1) := by
  unfold addS ofB
  rw [ofL_succ n rs _ k r h]
theorem ofB_all (n : Int) (rs : List RowV) (k : Nat) (h : rs.length ≤ k) : ofS rs n = ofB n rs k := by
  unfold ofS ofB
  rw [List.take_of_length_le h]
set_option maxRecDepth 100000 in
set_option maxHeartbeats 1000000 in
theorem specFilterOf_any (a : Option Addr) (len cap : Nat) (rs : List RowV) (n : Int) (w : World) (hm : len ≤ 1048576) (hok : ∀ r ∈ rs, r.Ok) (hR : Rd w w.heap.size 3 a len (flat rs)) :
    Calls Try.prog 142 #[.slice a len cap, .int .i64 n] w fun e w' => e = .returned (ofV rs n) ∧ Below w.heap.size w w' := by
  have hl := Lib.hid hR.rows_length
  have hb := bl1 w (.cells #[.int .i64 0, .string ⟨#[]⟩] 36)
  have hN := FV.new w 0 ⟨#[]⟩ 36
  replace hR := (hR.below hb (Nat.le_refl _)).more hb.size
  have C := fun w => specFilterNew_any n w
  cases hs : sizeB n
  · have E0 := ofV_no (show ofOk [] n = false by simp [ofOk, hs])
    rw [E0] at C
    have E := Lib.hid (ofV_no (show ofOk rs n = false by simp [ofOk, hs]))
    clear hs E0
    go_enter Try.func142, Try.ntmps142
    go_wp2_with fail
    generalize w.alloc (.cells #[.int .i64 0, .string ⟨#[]⟩] 36) = w1 at *
    refine (C _).mono ?_
    rintro e w2 ⟨rfl, hb1⟩
    replace hN := hN.below hb1 hN.2
    replace hb := hb.trans (hb1.mono hb.size)
    have hb2 := bl1 w2 (.cells #[.int .i64 0, .string ⟨#[]⟩] 36)
    replace hN := hN.below hb2 hN.2
    replace hb := hb.trans (hb2.mono hb.size)
    clear hb1 C hb2
    go_wp2_with (refine wpList_store_fil rfl _ _ rfl w.heap.size 0 ⟨#[]⟩ (by rfl) (by rfl) hN fun w3 hR hk => stop ?_)
    refine unstop ?_
    have hld := load_fil hR
    go_wp2_with fail
    refine bodyPost_ret (v := .tuple #[noFil, .bool false]) ?_ rfl ⟨ret_val E.out.symm, hk _ _ (by omega) hb⟩
    rw [results_cell_tmp rfl]
    simp [asAddr, Result.andThen, hld, noFil]
  have E0 := ofV_yes (show ofOk [] n = true by simp [ofOk, hs, rowsOk])
  rw [E0] at C
  obtain ⟨t0, ht0⟩ : ∃ t, ofS [] n = t := ⟨_, rfl⟩
  have hS0 := Lib.hid (show t0 = ofB n rs 0 from ht0.symm)
  rw [ht0] at C
  clear ht0
  obtain ⟨q0, q1, q8⟩ := sizeB_all hs
  clear E0
  go_enter Try.func142, Try.ntmps142
  go_wp2_with fail
  generalize w.alloc (.cells #[.int .i64 0, .string ⟨#[]⟩] 36) = w1 at *
  refine (C _).mono ?_
  rintro e w2 ⟨rfl, hb1⟩
  have hz := hN.2
  replace hN := hN.below hb1 hz
  replace hb := hb.trans (hb1.mono hb.size)
  replace hR := (hR.below hb1 (Nat.le_refl _)).more hb1.size
  replace hz := hN.2
  clear hb1 C
  have FD := FV.new w2 n t0 36
  have d := At2.new w2 (.int .i64 n) (.string t0) 36
  have hb2 := bl1 w2 (.cells #[.int .i64 n, .string t0] 36)
  replace hN := hN.below hb2 hz
  replace hb := hb.trans (hb2.mono hb.size)
  replace hR := (hR.below hb2 (Nat.le_refl _))
  go_wp2_with fail
  clear hb2
  generalize w2.alloc (.cells #[.int .i64 n, .string t0] 36) = w3 at *
  generalize w2.heap.size = D at *
  have hD := FD.2
  refine (specRowsOk_any a len cap rs _ hm hok (hR.more (by omega))).mono ?_
  rintro e w4 ⟨rfl, hb1⟩
  replace hN := hN.below hb1 hN.2
  replace hb := hb.trans (hb1.mono hb.size)
  replace hR := (hR.below hb1 (by omega))
  replace FD := FD.below hb1 hD
  replace d := d.below hb1 hD
  clear hb1 hD
  cases hf1 : rowsOk rs
  · have E := Lib.hid (ofV_no (show ofOk rs n = false by simp [ofOk, hf1]))
    clear hf1 hs
    go_wp2_with (refine wpList_store_fil rfl _ _ rfl w.heap.size 0 ⟨#[]⟩ (by rfl) (by rfl) hN fun w3 hR hk => stop ?_)
    refine unstop ?_
    have hld := load_fil hR
    go_wp2_with fail
    refine bodyPost_ret (v := .tuple #[noFil, .bool false]) ?_ rfl ⟨ret_val E.out.symm, hk _ _ (by omega) hb⟩
    rw [results_cell_tmp rfl]
    simp [asAddr, Result.andThen, hld, noFil]
  have E := Lib.hid (ofV_yes (show ofOk rs n = true by simp [ofOk, hf1, hs]))
  have K := Lib.hid hf1
  clear hf1 hs
  rw [hS0.out] at d
  clear hS0
  go_wp2_with fail
  go_loopw [8] (fun i wr => ∃ k : Nat, k ≤ len ∧ i = .int .i64 k ∧ Below w.heap.size w wr ∧ Rd wr D 3 a len (flat rs) ∧ FV wr w.heap.size ∧ FV wr D ∧ At2 wr D (.int .i64 n) (.string (ofB n rs k))) (fun i _ => len - (intOf i).toNat)
  case atStart => exact ⟨0, Nat.zero_le _, rfl, hb, hR, hN, FD, d⟩
  case round =>
    obtain ⟨k, hk, rfl, hbr, hRr, hNr, FDr, dr⟩ := hrel
    clear hb hR hN FD d
    have hsz := ofB_size n rs k q0
    by_cases hlt : k < len
    · obtain ⟨b, off, r, rfl, hB1, hrk, c0, c1, c2⟩ := hRr.row hlt
      have hkey := rowOk_key K.out hrk
      have O := Lib.hid (ofB_succ n rs k r hrk)
      clear hrk
      obtain ⟨key, tag, val⟩ := r
      generalize ofB n rs k = t at *
      have ⟨x0, x1⟩ := dr
      go_wp2_with fail
      refine wp_region_still_tail 6 (by kernel_rfl) (by kernel_rfl) ?_
      simp only [List.take_succ_cons, List.take_zero, List.drop_succ_cons, List.drop_zero]
      change wpStill _ _ wr.drew _ _ _
      repeat still_step
      refine wpStill_nil ?_
      change wpList _ _ _ _ _ wr.drew
      go_wp2_with fail
      refine (l6Add_any n t key _ q0 q1 q8 hsz hkey).mono ?_
      rintro e w8 ⟨rfl, hb1⟩
      rw [O.out]
      have hb2 : Below wr.heap.size wr w8 := (Below.refl wr.heap.size wr).drew.trans hb1
      replace hbr := hbr.trans (hb2.mono hbr.size)
      replace hNr := hNr.below hb2 hNr.2
      replace hRr := hRr.below hb2 (Nat.le_of_lt FDr.2)
      replace FDr := FDr.below hb2 FDr.2
      clear hb1 hb2 c0 c1 c2 x0 x1 dr
      go_wp2_with (refine wpList_store_fil2 rfl _ _ rfl D n (ofB n rs (k + 1)) (by rfl) (by rfl) FDr fun w9 d9 F9 hb9 => stop ?_)
      refine unstop ?_
      replace hbr := hbr.trans (hb9.mono (by omega))
      replace hNr := hNr.below hb9 hz
      replace hRr := hRr.below hb9 (Nat.le_refl _)
      clear FDr hb9
      go_wp2_with fail
      go_roundw
      case rel => exact ⟨k + 1, by omega, by go_num, hbr, hRr, hNr, F9, d9⟩
      case measure => simp [intOf]; omega
    · obtain rfl : k = len := by omega
      have E2 := Lib.hid (ofB_all n rs k (by rw [hl.out]; omega))
      generalize ofB n rs k = t at *
      have ⟨x0, x1⟩ := dr
      go_wp2_with (refine wpList_store_fil rfl _ _ rfl w.heap.size n t (by rfl) (by rfl) hNr fun w3 hR hk => stop ?_)
      refine unstop ?_
      have hld := load_fil hR
      go_wp2_with fail
      refine bodyPost_ret (v := .tuple #[.agg #[.int .i64 n, .string t], .bool true]) ?_ rfl ⟨ret_val (by rw [E.out, E2.out]), hk _ _ (by omega) hbr⟩
      rw [results_cell_tmp rfl]
      simp [asAddr, Result.andThen, hld]
end Go.Proofs.Ytfndodaknejhfaa
