/-
  spec.l6Add by its contract. Conditions: a filter of size 8..256 with as many bytes as that asks for, a key of at most 12 bytes.
-/
import Derived.Test.YtfndodaknejhfaaSpecAt
import Derived.Test.YtfndodaknejhfaaBothSpec
namespace Go.Proofs.Ytfndodaknejhfaa
open Go.RowKit
def addS (n : Int) (s x : ByteArray) : ByteArray := ⟨(addL n s x.data.toList).toArray⟩
theorem setL_length (l : List UInt8) (i : Nat) : (setL l i).length = l.length := by simp [setL]
theorem addTo_length (a0 a1 a2 k : Nat) (l : List UInt8) : (addTo a0 a1 a2 k l).length = l.length := by
  unfold addTo
  generalize [a0, a1, a2].take k = q
  induction q generalizing l with
  | nil => rfl
  | cons a q ih => rw [List.foldl_cons, ih, setL_length]
theorem A3.other {w : World} {B b q : Nat} {l : List Int} {v : Value} (h : A3 w B l) (hne : B ≠ b) : A3 (w.setCell ⟨b, q, none⟩ v) B l :=
  ⟨World.rangeAt_setCells_apart h.1 b q [v] (Or.inl hne), World.there_setCells h.2.1 b q [v], by have := size_setCells b [v] q w; exact this ▸ h.2.2.1, h.2.2.2⟩
set_option maxRecDepth 100000 in
set_option maxHeartbeats 1000000 in
theorem l6Add_any (n : Int) (x s : ByteArray) (w : World) (h0 : 8 ≤ n) (h1 : n ≤ 256) (h8 : n % 8 = 0) (hx : (x.size : Int) = n / 8) (hs : s.size ≤ 12) :
    Calls Try.prog 88 #[.agg #[.int .i64 n, .string x], .string s] w fun e w' => e = .returned (.agg #[.int .i64 n, .string (addS n s x)]) ∧ Below w.heap.size w w' := by
  have b0 := (place_bd n s 0 h0).2
  have b1 := (place_bd n s 1 h0).2
  have b2 := (place_bd n s 2 h0).2
  have e0 := (place_bd n s 0 h0).1
  have e1 := (place_bd n s 1 h0).1
  have e2 := (place_bd n s 2 h0).1
  have E : Hid (addS n s x = ⟨(addTo (plN n s 0) (plN n s 1) (plN n s 2) 3 x.data.toList).toArray⟩) := Lib.hid rfl
  have C := fun w => l6At_any n x s w h0 h1 hs
  rw [e0, e1, e2] at C
  clear e0 e1 e2
  generalize plN n s 0 = a0 at *
  generalize plN n s 1 = a1 at *
  generalize plN n s 2 = a2 at *
  have c := (At2.new w (.int .i64 n) (.string x) 36).keep (bl1 _ (.cells #[.int .i64 0, .string ⟨#[]⟩] 36)) (by simp)
  have hN := FV.new (w.alloc (.cells #[.int .i64 n, .string x] 36)) 0 ⟨#[]⟩ 36
  have hb := bl2 w (.cells #[.int .i64 n, .string x] 36) (.cells #[.int .i64 0, .string ⟨#[]⟩] 36)
  simp only [World.size_alloc] at hN
  go_enter Try.func88, Try.ntmps88
  go_wp2_with (refine wpList_bytes rfl _ rfl x ?_ fun w4 cap r4 hk => stop ?_)
  · rfl
  have hw1 : ((w.alloc (.cells #[.int .i64 n, .string x] 36)).alloc (.cells #[.int .i64 0, .string ⟨#[]⟩] 36)).heap.size = w.heap.size + 1 + 1 := by simp
  generalize (w.alloc (.cells #[.int .i64 n, .string x] 36)).alloc (.cells #[.int .i64 0, .string ⟨#[]⟩] 36) = w1 at *
  have hb1 := hk w1.heap.size w1 (Nat.le_refl _) (Below.refl _ _)
  replace c := c.keep hb1 (by omega)
  replace hN := hN.below hb1 hN.2
  replace hb := hk _ _ hb.size hb
  rw [hw1] at r4
  clear hk hb1 hw1
  refine unstop ?_
  have ⟨y0, y1⟩ := c
  go_wp2_with fail
  refine (C _).mono ?_
  rintro e w5 ⟨B, rfl, hb5, hB5, r5⟩
  have hz := r4.2.2
  replace r4 := r4.below hb5 hz
  replace c := c.keep hb5 (by omega)
  replace hN := hN.below hb5 hN.2
  replace hb := hb.trans (hb5.mono hb.size)
  have hBB : w.heap.size + 1 + 1 < B := by omega
  clear C y0 y1 hb5 hz hB5
  have hsz : x.data.toList.length = x.size := by simp
  go_wp2_with fail
  go_loopw [7] (fun i wr => ∃ k : Nat, k ≤ 3 ∧ i = .int .i64 k ∧ Below w.heap.size w wr ∧ BY wr (w.heap.size + 1 + 1) (addTo a0 a1 a2 k x.data.toList) ∧ A3 wr B [(a0 : Int), (a1 : Int), (a2 : Int)] ∧ At2 wr w.heap.size (.int .i64 n) (.string x) ∧ FV wr (w.heap.size + 1)) (fun i _ => 3 - (intOf i).toNat)
  case atStart => exact ⟨0, by omega, rfl, hb, r4, r5, c, hN⟩
  case round =>
    obtain ⟨k, hk, rfl, hbr, hr, hr5, d, dN⟩ := hrel
    clear hb r4 r5 c hN
    have hl := addTo_length a0 a1 a2 k x.data.toList
    rw [hsz] at hl
    by_cases hk3 : k < 3
    · obtain ⟨i, hi, hib⟩ := pick3 a0 a1 a2 k hk3 n b0 b1 b2
      have x0 := hr5.cell k (i : Int) (by
        have := congrArg (Option.map (fun (z : Nat) => (z : Int))) hi
        simpa [← List.getElem?_map] using this)
      have A := Lib.hid (addTo_succ a0 a1 a2 k i x.data.toList hi)
      obtain ⟨q, hq0⟩ : ∃ q, i / 8 = q := ⟨_, rfl⟩
      obtain ⟨r, hr0⟩ : ∃ r, i % 8 = r := ⟨_, rfl⟩
      have hq1 : q < x.size := by omega
      have hr1 : r < 8 := by omega
      obtain ⟨c, hc⟩ : ∃ c, (addTo a0 a1 a2 k x.data.toList)[q]? = some c := ⟨_, List.getElem?_eq_getElem (by omega)⟩
      have x1 := hr.cell q c hc
      have f1 := hr.frozen q (by omega)
      have hor := bitC_val i r c hr0
      have hBs := hr5.2.2.1
      have R := Lib.hid (show ∀ W, W = (wr.setCell ⟨w.heap.size + 1 + 1, q, none⟩ (.int .u8 ((bitC i c).toNat : Int))).drew → Below w.heap.size w W ∧ BY W (w.heap.size + 1 + 1) (addTo a0 a1 a2 (k + 1) x.data.toList) ∧ A3 W B [(a0 : Int), (a1 : Int), (a2 : Int)] ∧ At2 W w.heap.size (.int .i64 n) (.string x) ∧ FV W (w.heap.size + 1) by
        rintro W rfl
        have s1 := hr.set q (bitC i c) (by omega)
        rw [A.out]
        unfold setL
        rw [hq0, List.getD, hc]
        have g0 : Below (w.heap.size + 1 + 1) wr (wr.setCell ⟨w.heap.size + 1 + 1, q, none⟩ (.int .u8 ((bitC i c).toNat : Int))).drew := ((Below.refl (w.heap.size + 1 + 1) wr).setCell (p := ⟨w.heap.size + 1 + 1, q, none⟩) (Nat.le_refl _) _).drew
        refine ⟨hbr.trans (g0.mono (by omega)), s1, ?_, d.below g0 (by omega), dN.below g0 (by omega)⟩
        exact hr5.other (q := q) (v := .int .u8 ((bitC i c).toNat : Int)) (Nat.ne_of_gt hBB))
      clear hr hr5 hc hi d dN hbr
      go_wp2_with fail
      go_region
      replace R := Lib.hid (R.out _ rfl)
      generalize (wr.setCell ⟨w.heap.size + 1 + 1, q, none⟩ (.int .u8 ((bitC i c).toNat : Int))).drew = w6 at *
      clear x0 x1 f1
      go_wp2_with fail
      go_roundw
      case rel => exact ⟨k + 1, by omega, by go_num, R.out.1, R.out.2.1, R.out.2.2.1, R.out.2.2.2.1, R.out.2.2.2.2⟩
      case measure => simp [intOf]; omega
    · obtain rfl : k = 3 := by omega
      have ⟨z0, z1⟩ := d
      have hcv := hr.text cap
      rw [hl] at hcv
      generalize (⟨(addTo a0 a1 a2 3 x.data.toList).toArray⟩ : ByteArray) = t at *
      clear hr hl hsz hr5
      go_wp2_with (refine wpList_store_fil rfl _ _ rfl (w.heap.size + 1) n t ?_ ?_ dN fun w6 hR hk => stop ?_)
      · rfl
      · rfl
      refine unstop ?_
      have hld := load_fil hR
      go_wp2_with fail
      refine bodyPost_ret (v := .agg #[.int .i64 n, .string t]) ?_ rfl ⟨by rw [E.out], hk _ _ (by omega) hbr⟩
      simp [results, Try.results88, asAddr, hld]
end Go.Proofs.Ytfndodaknejhfaa
