/-
  impl.FilterOf and impl.FilterNew by their contracts. Conditions: at most 1048576 rows, texts have at most maxLen bytes.
-/
import Derived.Test.YtfndodaknejhfaaFilterAddImpl
import Derived.Test.YtfndodaknejhfaaRowsFns
namespace Go.Proofs.Ytfndodaknejhfaa
open Go.RowKit
def ofOk (rs : List RowV) (n : Int) : Bool := rowsOk rs && sizeB n
/-- The bits of the keys of rows, set. -/
def ofL (n : Int) (rs : List RowV) (l : List UInt8) : List UInt8 := rs.foldl (fun acc r => addL n r.key acc) l
def zeroL (n : Int) : List UInt8 := List.replicate (n / 8).toNat 0
def ofS (rs : List RowV) (n : Int) : ByteArray := ⟨(ofL n rs (zeroL n)).toArray⟩
def ofN (rs : List RowV) (n : Int) : Int := if ofOk rs n then n else 0
def ofT (rs : List RowV) (n : Int) : ByteArray := if ofOk rs n then ofS rs n else ⟨#[]⟩
def ofV (rs : List RowV) (n : Int) : Value := .tuple #[.agg #[.int .i64 (ofN rs n), .string (ofT rs n)], .bool (ofOk rs n)]
theorem ofV_no {n : Int} {rs : List RowV} (h : ofOk rs n = false) : ofV rs n = .tuple #[.agg #[.int .i64 0, .string ⟨#[]⟩], .bool false] := by
  unfold ofV ofN ofT; rw [h]; rfl
theorem ofV_yes {n : Int} {rs : List RowV} (h : ofOk rs n = true) : ofV rs n = .tuple #[.agg #[.int .i64 n, .string (ofS rs n)], .bool true] := by
  unfold ofV ofN ofT; rw [h]; rfl
theorem ofL_length (n : Int) (rs : List RowV) (l : List UInt8) : (ofL n rs l).length = l.length := by
  unfold ofL
  induction rs generalizing l with
  | nil => rfl
  | cons r rs ih => rw [List.foldl_cons, ih, addL_length]
theorem take_ofL (n : Int) (rs : List RowV) (l : List UInt8) (m : Nat) (h0 : 8 ≤ n) (h8 : n % 8 = 0) (hm : (m : Int) = n / 8) : (ofL n rs l).take m = ofL n rs (l.take m) := by
  unfold ofL
  induction rs generalizing l with
  | nil => rfl
  | cons r rs ih => rw [List.foldl_cons, List.foldl_cons, ih, take_addL n r.key l m (plN_lt n r.key m h0 h8 hm)]
theorem ofL_succ (n : Int) (rs : List RowV) (l : List UInt8) (k : Nat) (r : RowV) (h : rs[k]? = some r) : ofL n (rs.take (k + 1)) l = addL n r.key (ofL n (rs.take k) l) := by
  unfold ofL
  obtain ⟨hk, rfl⟩ := List.getElem?_eq_some_iff.1 h
  rw [List.take_succ_eq_append_getElem hk, List.foldl_append]; rfl
theorem of_bytes (n : Int) (rs : List RowV) (h0 : 8 ≤ n) (h1 : n ≤ 256) (h8 : n % 8 = 0) : bytesOf n (ofL n rs zero32) = ofS rs n := by
  unfold bytesOf ofS zeroL
  rw [take_ofL n rs zero32 _ h0 h8 (by omega), zero32, List.take_replicate, Nat.min_eq_left (by omega)]
theorem sizeB_all {n : Int} (h : sizeB n = true) : 8 ≤ n ∧ n ≤ 256 ∧ n % 8 = 0 := of_decide_eq_true h
theorem rowOk_key {rs : List RowV} {k : Nat} {r : RowV} (h : rowsOk rs = true) (hr : rs[k]? = some r) : r.key.size ≤ 12 := by
  unfold rowsOk at h
  have := List.all_eq_true.1 (Bool.and_eq_true _ _ ▸ h).2 r (List.mem_of_getElem? hr)
  exact (of_decide_eq_true this).1
set_option maxRecDepth 100000 in
set_option maxHeartbeats 1000000 in
theorem implFilterOf_any (a : Option Addr) (len cap : Nat) (rs : List RowV) (n : Int) (w : World) (hm : len ≤ 1048576) (hok : ∀ r ∈ rs, r.Ok) (hR : Rd w w.heap.size 3 a len (flat rs)) :
    Calls Try.prog 91 #[.slice a len cap, .int .i64 n] w fun e w' => e = .returned (ofV rs n) ∧ Below w.heap.size w w' := by
  have hl := Lib.hid hR.rows_length
  have hb := bl1 w (.cells #[.int .i64 0, .string ⟨#[]⟩] 36)
  have hN := FV.new w 0 ⟨#[]⟩ 36
  replace hR := (hR.below hb (Nat.le_refl _)).more hb.size
  go_enter Try.func91, Try.ntmps91
  go_wp2_with fail
  generalize w.alloc (.cells #[.int .i64 0, .string ⟨#[]⟩] 36) = w1 at *
  refine (implRowsOk_any a len cap rs _ hm hok hR).mono ?_
  rintro e w2 ⟨rfl, hb1⟩
  have hz := hN.2
  replace hN := hN.below hb1 hz
  replace hb := hb.trans (hb1.mono (by omega))
  replace hR := (hR.below hb1 (Nat.le_refl _)).more hb1.size
  replace hz := hN.2
  clear hb1
  cases hf1 : rowsOk rs
  · have E := Lib.hid (ofV_no (show ofOk rs n = false by simp [ofOk, hf1]))
    clear hf1
    go_wp2_with (refine wpList_store_fil rfl _ _ rfl w.heap.size 0 ⟨#[]⟩ ?_ ?_ hN fun w3 hR hk => stop ?_)
    · rfl
    · rfl
    refine unstop ?_
    have hld := load_fil hR
    go_wp2_with fail
    refine bodyPost_ret (v := .tuple #[noFil, .bool false]) ?_ rfl ⟨ret_val E.out.symm, hk _ _ (by omega) hb⟩
    rw [results_cell_tmp rfl]
    simp [asAddr, Result.andThen, hld, noFil]
  cases hs : sizeB n
  · have E := Lib.hid (ofV_no (show ofOk rs n = false by simp [ofOk, hs]))
    clear hf1
    go_wp2_with fail
    refine (implFilterSize_any n _).mono ?_
    rintro e w3 ⟨rfl, rfl⟩
    rw [hs]
    clear hs
    go_wp2_with (refine wpList_store_fil rfl _ _ rfl w.heap.size 0 ⟨#[]⟩ ?_ ?_ hN fun w3 hR hk => stop ?_)
    · rfl
    · rfl
    refine unstop ?_
    have hld := load_fil hR
    go_wp2_with fail
    refine bodyPost_ret (v := .tuple #[noFil, .bool false]) ?_ rfl ⟨ret_val E.out.symm, hk _ _ (by omega) hb⟩
    rw [results_cell_tmp rfl]
    simp [asAddr, Result.andThen, hld, noFil]
  have E := Lib.hid (ofV_yes (show ofOk rs n = true by simp [ofOk, hf1, hs]))
  obtain ⟨q0, q1, q8⟩ := sizeB_all hs
  have E2 := Lib.hid (of_bytes n rs q0 q1 q8)
  have K := Lib.hid hf1
  clear hf1
  go_wp2_with fail
  refine (implFilterSize_any n _).mono ?_
  rintro e w3 ⟨rfl, rfl⟩
  rw [hs]
  clear hs
  go_wp2_with (refine wpList_build_row rfl 109 _ rfl (.int .i64 n) ?_ _ (build74 n _) (stop ?_))
  · rfl
  refine unstop ?_
  refine wpList_alloc_row rfl 109 rfl _ zero74 ?_
  have r := BS.new w2 0 zero32 109 rfl
  have hb1 := bl1 w2 (.cells (bsL 0 zero32).toArray 109)
  replace hN := hN.below hb1 hz
  replace hb := hb.trans (hb1.mono (by omega))
  replace hR := hR.below hb1 (Nat.le_refl _)
  clear hb1
  generalize w2.alloc (.cells (bsL 0 zero32).toArray 109) = w5 at *
  generalize w2.heap.size = B at *
  refine wpList_store_bits rfl _ _ rfl B n zero32 rfl rfl 0 zero32 r rfl fun w6 r6 hk => ?_
  have hb1 := hk B w5 (Nat.le_refl _) (Below.refl _ _)
  replace hN := hN.below hb1 (by omega)
  replace hb := hb.trans (hb1.mono (by omega))
  replace hR := hR.below hb1 (Nat.le_refl _)
  clear hb1 hk r
  go_wp2_with fail
  go_loopw [22] (fun i wr => ∃ k : Nat, k ≤ len ∧ i = .int .i64 k ∧ Below w.heap.size w wr ∧ Rd wr B 3 a len (flat rs) ∧ FV wr w.heap.size ∧ BS wr B n (ofL n (rs.take k) zero32)) (fun i _ => len - (intOf i).toNat)
  case atStart => exact ⟨0, Nat.zero_le _, rfl, hb, hR, hN, r6⟩
  case round =>
    obtain ⟨k, hk, rfl, hbr, hRr, hNr, hr⟩ := hrel
    clear hb hR hN r6
    by_cases hlt : k < len
    · obtain ⟨b, off, r, rfl, hB1, hrk, c0, c1, c2⟩ := hRr.row hlt
      have hkey := rowOk_key K.out hrk
      have O := Lib.hid (ofL_succ n rs zero32 k r hrk)
      clear hrk
      obtain ⟨key, tag, val⟩ := r
      have hb1 := bl1 wr (.cells #[.string key, .int .i64 tag, .string val] 32)
      replace hbr := hbr.trans (hb1.mono hbr.size)
      replace hNr := hNr.below hb1 hNr.2
      replace hRr := hRr.below hb1 (Nat.le_of_lt hr.2.2.2)
      replace hr := hr.below hb1 hr.2.2.2
      clear hb1
      go_wp2_with fail
      generalize wr.alloc (.cells #[.string key, .int .i64 tag, .string val] 32) = w7 at *
      refine (bitAdd_any B n _ key _ hr q0 q1 hkey).mono ?_
      rintro e w8 ⟨rfl, hb1, r8⟩
      replace hbr := hbr.trans (hb1.mono (by omega))
      replace hNr := hNr.below hb1 (by omega)
      replace hRr := hRr.below hb1 (Nat.le_refl _)
      rw [← O.out] at r8
      clear hb1 hr c0 c1 c2
      go_wp2_with fail
      go_roundw
      case rel => exact ⟨k + 1, by omega, by go_num, hbr, hRr, hNr, r8⟩
      case measure => simp [intOf]; omega
    · obtain rfl : k = len := by omega
      rw [List.take_of_length_le (by rw [hl.out]; omega)] at hr
      go_wp2_with fail
      refine (bitFilter_any B n _ _ hr q0 q1).mono ?_
      rintro e w9 ⟨rfl, hb1⟩
      rw [E2.out]
      replace hNr := hNr.below hb1 hNr.2
      replace hbr := hbr.trans (hb1.mono hbr.size)
      clear hb1 hr
      generalize ofS rs n = t at *
      go_wp2_with (refine wpList_store_fil rfl _ _ rfl w.heap.size n t ?_ ?_ hNr fun w3 hR hk => stop ?_)
      · rfl
      · rfl
      refine unstop ?_
      have hld := load_fil hR
      go_wp2_with fail
      refine bodyPost_ret (v := .tuple #[.agg #[.int .i64 n, .string t], .bool true]) ?_ rfl ⟨ret_val E.out.symm, hk _ _ (by omega) hbr⟩
      rw [results_cell_tmp rfl]
      simp [asAddr, Result.andThen, hld]
set_option maxRecDepth 100000 in
theorem implFilterNew_any (n : Int) (w : World) :
    Calls Try.prog 25 #[.int .i64 n] w fun e w' => e = .returned (ofV [] n) ∧ Below w.heap.size w w' := by
  have C := fun w => implFilterOf_any none 0 0 [] n w (by omega) (by simp) ⟨rfl, fun h => absurd h (by omega)⟩
  have hb := bl1 w (.cells #[.int .i64 0, .string ⟨#[]⟩] 36)
  have hN := FV.new w 0 ⟨#[]⟩ 36
  go_enter Try.func25, Try.ntmps25
  go_wp2_with fail
  generalize w.alloc (.cells #[.int .i64 0, .string ⟨#[]⟩] 36) = w1 at *
  refine (C _).mono ?_
  rintro e w2 ⟨rfl, hb1⟩
  replace hb := hb.trans (hb1.mono hb.size)
  replace hN := hN.below hb1 hN.2
  clear C hb1
  have E := Lib.hid (show Ending.returned (ofV [] n) = .returned (.tuple #[.agg #[.int .i64 (ofN [] n), .string (ofT [] n)], .bool (ofOk [] n)]) from rfl)
  unfold ofV
  generalize ofN [] n = m at *
  generalize ofT [] n = t at *
  generalize ofOk [] n = ok at *
  go_wp2_with (refine wpList_store_fil rfl _ _ rfl w.heap.size m t ?_ ?_ hN fun w3 hR hk => stop ?_)
  · rfl
  · rfl
  refine unstop ?_
  have hld := load_fil hR
  go_wp2_with fail
  refine bodyPost_ret (v := .tuple #[.agg #[.int .i64 m, .string t], .bool ok]) ?_ rfl ⟨E.out.symm, hk _ _ (by omega) hb⟩
  rw [results_cell_tmp rfl]
  simp [asAddr, Result.andThen, hld]
end Go.Proofs.Ytfndodaknejhfaa
