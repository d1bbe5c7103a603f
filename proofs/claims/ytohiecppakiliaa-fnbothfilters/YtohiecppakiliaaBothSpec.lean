/-
  spec.FilterBoth by its contract. Conditions: texts have at most maxLen bytes.
-/
import Derived.Test.YtohiecppakiliaaByteRow
namespace Go.Proofs.Ytohiecppakiliaa
open Go.RowKit
theorem At2.below {w w' : World} {B b : Nat} {x y : Value} (h : At2 w b x y) (hb : Below B w w') (hB : b < B) : At2 w' b x y :=
  ⟨(hb.cell (p := ⟨b, 0, none⟩) hB).trans h.1, (hb.cell (p := ⟨b, 1, none⟩) hB).trans h.2⟩
def orS (x x2 : ByteArray) : ByteArray := ⟨(orBytes x.size x.data.toList x2.data.toList).toArray⟩
def bothS (n : Int) (x : ByteArray) (n2 : Int) (x2 : ByteArray) : Value := if bothB n x n2 x2 then .tuple #[.agg #[.int .i64 n, .string (orS x x2)], .bool true] else .tuple #[noFil, .bool false]
theorem filB_size {n : Int} {x : ByteArray} (h : filB n x = true) : (x.size : Int) = n / 8 := (of_decide_eq_true h).2.2.2
set_option maxRecDepth 100000 in
theorem specFilterBoth_any (n : Int) (x : ByteArray) (n2 : Int) (x2 : ByteArray) (w : World) (hx : x.size ≤ maxLen) (hx2 : x2.size ≤ maxLen) :
    Calls Try.prog 23 #[.agg #[.int .i64 n, .string x], .agg #[.int .i64 n2, .string x2]] w fun e w' => e = .returned (bothS n x n2 x2) ∧ Below w.heap.size w w' := by
  have c1 := ((At2.new w (.int .i64 n) (.string x) 25).keep (bl1 _ (.cells #[.int .i64 n2, .string x2] 25)) (by simp)).keep (bl1 _ (.cells #[.int .i64 0, .string ⟨#[]⟩] 25)) (by simp; omega)
  have c2 := (At2.new (w.alloc (.cells #[.int .i64 n, .string x] 25)) (.int .i64 n2) (.string x2) 25).keep (bl1 _ (.cells #[.int .i64 0, .string ⟨#[]⟩] 25)) (by simp)
  have hb := bl3 w (.cells #[.int .i64 n, .string x] 25) (.cells #[.int .i64 n2, .string x2] 25) (.cells #[.int .i64 0, .string ⟨#[]⟩] 25)
  have hN := FV.new ((w.alloc (.cells #[.int .i64 n, .string x] 25)).alloc (.cells #[.int .i64 n2, .string x2] 25)) 0 ⟨#[]⟩ 25
  simp only [World.size_alloc] at c2 hN
  go_enter Try.func23, Try.ntmps23
  go_wp2_with fail
  generalize (((w.alloc (.cells #[.int .i64 n, .string x] 25)).alloc (.cells #[.int .i64 n2, .string x2] 25)).alloc (.cells #[.int .i64 0, .string ⟨#[]⟩] 25)) = w1 at *
  refine (specFilterOk_any n x _ hx).mono ?_
  rintro e w2 ⟨rfl, hb1⟩
  have hz := hN.2
  replace c1 := c1.keep hb1 (by omega)
  replace c2 := c2.keep hb1 (by omega)
  replace hN := hN.below hb1 hz
  replace hb := hb.trans (hb1.mono (by omega))
  replace hz := hN.2
  clear hb1
  cases hf1 : filB n x
  · have E := Lib.hid (show bothS n x n2 x2 = .tuple #[noFil, .bool false] by simp [bothS, bothB, hf1])
    clear hf1
    have ⟨y0, y1⟩ := c2
    go_wp2_with (refine wpList_store_fil rfl _ _ rfl (w.heap.size + 1 + 1) 0 ⟨#[]⟩ ?_ ?_ hN fun w3 hR hk => stop ?_)
    · rfl
    · rfl
    refine unstop ?_
    have hld := load_fil hR
    go_wp2_with fail
    refine bodyPost_ret (v := .tuple #[noFil, .bool false]) ?_ rfl ⟨ret_val E.out.symm, hk _ _ (by omega) hb⟩
    rw [results_cell_tmp rfl]
    simp [asAddr, Result.andThen, hld, noFil]
  have ⟨y0, y1⟩ := c2
  go_wp2_with fail
  refine (specFilterOk_any n2 x2 _ hx2).mono ?_
  rintro e w3 ⟨rfl, hb1⟩
  clear y0 y1
  replace c1 := c1.keep hb1 (by omega)
  replace c2 := c2.keep hb1 (by omega)
  replace hN := hN.below hb1 hz
  replace hb := hb.trans (hb1.mono (by omega))
  replace hz := hN.2
  clear hb1
  cases hf2 : filB n2 x2
  · have E := Lib.hid (show bothS n x n2 x2 = .tuple #[noFil, .bool false] by simp [bothS, bothB, hf2])
    clear hf1 hf2
    have ⟨y0, y1⟩ := c2
    have ⟨z0, z1⟩ := c1
    go_wp2_with (refine wpList_store_fil rfl _ _ rfl (w.heap.size + 1 + 1) 0 ⟨#[]⟩ ?_ ?_ hN fun w3 hR hk => stop ?_)
    · rfl
    · rfl
    refine unstop ?_
    have hld := load_fil hR
    go_wp2_with fail
    refine bodyPost_ret (v := .tuple #[noFil, .bool false]) ?_ rfl ⟨ret_val E.out.symm, hk _ _ (by omega) hb⟩
    rw [results_cell_tmp rfl]
    simp [asAddr, Result.andThen, hld, noFil]
  have ⟨y0, y1⟩ := c2
  have ⟨z0, z1⟩ := c1
  by_cases hn : n = n2
  case neg =>
    have E := Lib.hid (show bothS n x n2 x2 = .tuple #[noFil, .bool false] by simp [bothS, bothB, hn])
    have hne : (n != n2) = true := by simpa using hn
    clear hf1 hf2 hn
    go_wp2_with (refine wpList_store_fil rfl _ _ rfl (w.heap.size + 1 + 1) 0 ⟨#[]⟩ ?_ ?_ hN fun w3 hR hk => stop ?_)
    · rfl
    · rfl
    refine unstop ?_
    have hld := load_fil hR
    go_wp2_with fail
    refine bodyPost_ret (v := .tuple #[noFil, .bool false]) ?_ rfl ⟨ret_val E.out.symm, hk _ _ (by omega) hb⟩
    rw [results_cell_tmp rfl]
    simp [asAddr, Result.andThen, hld, noFil]
  subst hn
  have E := Lib.hid (show bothS n x n x2 = .tuple #[.agg #[.int .i64 n, .string (orS x x2)], .bool true] by simp [bothS, bothB, hf1, hf2])
  obtain ⟨q0, q1, q2⟩ := filB_facts hf1
  obtain ⟨_, _, q3⟩ := filB_facts hf2
  have q4 : x2.size = x.size := by have := filB_size hf1; have := filB_size hf2; omega
  clear hf1 hf2
  go_wp2_with (refine wpList_bytes rfl _ rfl x ?_ fun w4 cap r4 hk => stop ?_)
  · rfl
  have hb1 := hk w3.heap.size w3 (Nat.le_refl _) (Below.refl _ _)
  replace c1 := c1.keep hb1 (by omega)
  replace c2 := c2.keep hb1 (by omega)
  replace hN := hN.below hb1 hz
  replace hb := hk _ _ hb.size hb
  clear hk hb1 y0 y1 z0 z1
  generalize w3.heap.size = B at *
  refine unstop ?_
  have hsz : x.data.toList.length = x.size := by simp
  have hsz2 : x2.data.toList.length = x2.size := by simp
  go_wp2_with fail
  go_loopw [7] (fun i wr => ∃ k : Nat, k ≤ x.size ∧ i = .int .i64 k ∧ Below w.heap.size w wr ∧ BY wr B (orBytes k x.data.toList x2.data.toList) ∧ At2 wr w.heap.size (.int .i64 n) (.string x) ∧ At2 wr (w.heap.size + 1) (.int .i64 n) (.string x2) ∧ FV wr (w.heap.size + 1 + 1)) (fun i _ => x.size - (intOf i).toNat)
  case atStart => exact ⟨0, by omega, rfl, hb, by simpa [orBytes] using r4, c1, c2, hN⟩
  case round =>
    obtain ⟨k, hk, rfl, hbr, hr, d1, d2, dN⟩ := hrel
    clear hb r4 c1 c2 hN
    by_cases hlt : k < x.size
    · have ⟨y0, y1⟩ := d2
      obtain ⟨c, hc⟩ : ∃ c, x.data.toList[k]? = some c := ⟨_, List.getElem?_eq_getElem (by omega)⟩
      obtain ⟨d, hd⟩ : ∃ d, x2.data.toList[k]? = some d := ⟨_, List.getElem?_eq_getElem (by omega)⟩
      have hlo : (orBytes k x.data.toList x2.data.toList).length = x.size := by simp [orBytes]; omega
      have x0 := hr.cell k c (by
        have e : (List.zipWith (· ||| ·) (x.data.toList.take k) (x2.data.toList.take k)).length = k := by simp; omega
        unfold orBytes
        rw [List.getElem?_append_right (by omega), e, Nat.sub_self, List.getElem?_drop, Nat.add_zero, hc])
      have f0 := hr.frozen k (by omega)
      have hor := u8_or_nat c.toNat d.toNat (by have := c.toNat_lt; omega) (by have := d.toNat_lt; omega)
      have hk2 : k < x2.size := by omega
      have hdx : x2[k]'hk2 = d := by
        have := (List.getElem?_eq_some_iff.1 hd).2
        rw [Array.getElem_toList] at this
        exact this
      have R := Lib.hid (show BY (wr.setCell ⟨B, k, none⟩ (.int .u8 ((c.toNat ||| d.toNat : Nat) : Int))).drew B (orBytes (k + 1) x.data.toList x2.data.toList) by
        refine (show BY (wr.setCell ⟨B, k, none⟩ (.int .u8 ((c.toNat ||| d.toNat : Nat) : Int))) B (orBytes (k + 1) x.data.toList x2.data.toList) from ?_)
        have := hr.set k (c ||| d) (by omega)
        rw [or_step x.data.toList x2.data.toList k c d hc hd] at this
        simpa [u8v] using this)
      have HB := Lib.hid (show ∀ B' W, B' ≤ B → Below B' W wr → Below B' W (wr.setCell ⟨B, k, none⟩ (.int .u8 ((c.toNat ||| d.toNat : Nat) : Int))).drew from fun _ _ h h' => (h'.setCell h _).drew)
      have D1 := Lib.hid d1
      have D2 := Lib.hid d2
      have DN := Lib.hid dN
      have HR := Lib.hid hbr
      clear hr hc hd d1 d2 dN hbr hsz hsz2
      go_wp2_with fail
      go_region
      generalize (wr.setCell ⟨B, k, none⟩ (.int .u8 ((c.toNat ||| d.toNat : Nat) : Int))).drew = w5 at *
      have hbB := HB.out B wr (Nat.le_refl _) (Below.refl _ _)
      have HB2 := Lib.hid (HB.out w.heap.size w (by omega) HR.out)
      replace D1 := Lib.hid (D1.out.below hbB (by omega))
      replace D2 := Lib.hid (D2.out.below hbB (by omega))
      replace DN := Lib.hid (DN.out.below hbB (by omega))
      clear x0 f0 y0 y1 HB HR hbB
      go_wp2_with fail
      go_roundw
      case rel => exact ⟨k + 1, by omega, by go_num, HB2.out, R.out, D1.out, D2.out, DN.out⟩
      case measure => simp [intOf]; omega
    · obtain rfl : k = x.size := by omega
      have ⟨z0, z1⟩ := d1
      have hlo : (orBytes x.size x.data.toList x2.data.toList).length = x.size := by simp [orBytes]; omega
      have hcv := hr.text cap
      rw [hlo] at hcv
      have E2 := Lib.hid (show orS x x2 = ⟨(orBytes x.size x.data.toList x2.data.toList).toArray⟩ from rfl)
      generalize (⟨(orBytes x.size x.data.toList x2.data.toList).toArray⟩ : ByteArray) = s at *
      clear hr hlo hsz hsz2
      go_wp2_with (refine wpList_store_fil rfl _ _ rfl (w.heap.size + 1 + 1) n s ?_ ?_ dN fun w5 hR hk => stop ?_)
      · rfl
      · rfl
      refine unstop ?_
      have hld := load_fil hR
      go_wp2_with fail
      refine bodyPost_ret (v := .tuple #[.agg #[.int .i64 n, .string s], .bool true]) ?_ rfl ⟨ret_val (by rw [E.out, E2.out]), hk _ _ (by omega) hbr⟩
      rw [results_cell_tmp rfl]
      simp [asAddr, Result.andThen, hld]
end Go.Proofs.Ytohiecppakiliaa
