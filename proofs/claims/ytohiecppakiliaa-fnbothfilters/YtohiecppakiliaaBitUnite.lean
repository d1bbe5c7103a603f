/-
  The method unite of impl.bitSet by its contract. Conditions: two sets of 32 bytes.
-/
import Derived.Test.YtohiecppakiliaaBitFilter
namespace Go.Proofs.Ytohiecppakiliaa
open Go.RowKit
def orBytes (k : Nat) (l m : List UInt8) : List UInt8 := List.zipWith (· ||| ·) (l.take k) (m.take k) ++ l.drop k
theorem or_step (l m : List UInt8) (k : Nat) (c d : UInt8) (hc : l[k]? = some c) (hd : m[k]? = some d) : (orBytes k l m).set k (c ||| d) = orBytes (k + 1) l m := by
  obtain ⟨h1, rfl⟩ := List.getElem?_eq_some_iff.1 hc
  obtain ⟨h2, rfl⟩ := List.getElem?_eq_some_iff.1 hd
  have e : (List.zipWith (· ||| ·) (l.take k) (m.take k)).length = k := by simp; omega
  unfold orBytes
  rw [List.set_append_right _ _ (by omega), e, Nat.sub_self, List.drop_eq_getElem_cons h1, List.set_cons_zero, List.take_succ_eq_append_getElem h1, List.take_succ_eq_append_getElem h2, List.zipWith_append (by simp; omega)]
  simp
set_option maxRecDepth 100000 in
theorem index_bits (m : List UInt8) (k : Nat) (d : UInt8) (hm : m.length = 32) (hd : m[k]? = some d) (W : World) : (Instr.index 67 (.agg (List.map u8v m).toArray) (.int .i64 (k : Int))).run Try.prog W = .ok (.int .u8 (d.toNat : Int)) W := by
  have hk := (List.getElem?_eq_some_iff.1 hd).1
  simp [Instr.index, go_sem, Try.sizeOf5, hd]
  rw [if_pos (by omega)]
  rfl
set_option maxRecDepth 100000 in
theorem unite_any (b : Nat) (n n2 : Int) (l l2 : List UInt8) (w : World) (h : BS w b n l) (h2 : l2.length = 32) :
    Calls Try.prog 59 #[.pointer (some ⟨b, 0, none⟩), .agg (bsL n2 l2).toArray] w fun e w' => e = .returned (.tuple #[]) ∧ Below b w w' ∧ BS w' b n (orBytes 32 l l2) := by
  go_enter Try.func59, Try.ntmps59
  go_wp2_with (refine wpList_box_row rfl 69 _ rfl (bsL n2 l2).toArray ?_ (stop ?_))
  · rfl
  have r := BS.new w n2 l2 69 h2
  have hb := bl1 w (.cells (bsL n2 l2).toArray 69)
  have hlt : b < w.heap.size := h.2.2.2
  replace h := h.below hb hlt
  replace hb := hb.mono (Nat.le_of_lt hlt)
  generalize w.alloc (.cells (bsL n2 l2).toArray 69) = w1 at *
  have r2 : w1.rangeAt w.heap.size 1 (l2.map u8v) := fun j v hv => by
    have := r.1 (j + 1) v (by simpa [bsL] using hv)
    rwa [show 0 + (j + 1) = 1 + j by omega] at this
  refine unstop ?_
  go_wp2_with (refine wpList_load_mid rfl 67 _ rfl w.heap.size 1 ?_ (l2.map u8v) _ r2 Try.underlying67 rfl (by rw [info72]; simp [h2]) (stop ?_))
  · rfl
  refine unstop ?_
  go_wp2_with fail
  go_loopw [8] (fun i wr => ∃ k : Nat, k ≤ 32 ∧ i = .int .i64 k ∧ Below b w wr ∧ BS wr b n (orBytes k l l2)) (fun i _ => 32 - (intOf i).toNat)
  case atStart => exact ⟨0, by omega, rfl, hb, by simpa [orBytes] using h⟩
  case round =>
    obtain ⟨k, hk, rfl, hbr, hr⟩ := hrel
    clear hb r
    by_cases hlt2 : k < 32
    · have hl1 := h.2.2.1
      obtain ⟨c, hc⟩ : ∃ c, l[k]? = some c := ⟨_, List.getElem?_eq_getElem (by omega)⟩
      obtain ⟨d, hd⟩ : ∃ d, l2[k]? = some d := ⟨_, List.getElem?_eq_getElem (by omega)⟩
      have x0 : wr.cell? ⟨b, 1 + k, none⟩ = some (.int .u8 (c.toNat : Int)) := by
        have := hr.1 (k + 1) (u8v c) (by
          have e : (List.zipWith (· ||| ·) (l.take k) (l2.take k)).length = k := by simp; omega
          simp only [bsL, List.getElem?_cons_succ, List.getElem?_map, orBytes]
          rw [List.getElem?_append_right (by omega), e, Nat.sub_self, List.getElem?_drop, Nat.add_zero, hc]; rfl)
        rwa [show 0 + (k + 1) = 1 + k by omega] at this
      have f0 : wr.frozen? ⟨b, 1 + k, none⟩ = false := by
        have := (hr.2.1 (k + 1) (by omega)).2
        rwa [show 0 + (k + 1) = 1 + k by omega] at this
      have y0 : (List.map u8v l2).toArray[k]? = some (.int .u8 (d.toNat : Int)) := by simp [hd, u8v]
      have hix := index_bits l2 k d h2 hd
      have hor := u8_or_nat c.toNat d.toNat (by have := c.toNat_lt; omega) (by have := d.toNat_lt; omega)
      have R := Lib.hid (show BS (wr.setCell ⟨b, 1 + k, none⟩ (.int .u8 ((c.toNat ||| d.toNat : Nat) : Int))).drew b n (orBytes (k + 1) l l2) by
        refine (show BS (wr.setCell ⟨b, 1 + k, none⟩ (.int .u8 ((c.toNat ||| d.toNat : Nat) : Int))) b n (orBytes (k + 1) l l2) from ?_)
        have := hr.set k (c ||| d) hlt2
        rw [or_step l l2 k c d hc hd] at this
        simpa [u8v] using this)
      have HB := Lib.hid (show Below b w (wr.setCell ⟨b, 1 + k, none⟩ (.int .u8 ((c.toNat ||| d.toNat : Nat) : Int))).drew from (hbr.setCell (Nat.le_refl _) _).drew)
      clear hr hbr hc hd y0
      go_wp2_with fail
      go_region
      generalize (wr.setCell ⟨b, 1 + k, none⟩ (.int .u8 ((c.toNat ||| d.toNat : Nat) : Int))).drew = w2 at *
      clear x0 f0
      go_wp2_with fail
      go_roundw
      case rel => exact ⟨k + 1, by omega, by go_num, HB.out, R.out⟩
      case measure => simp [intOf]; omega
    · go_wp2_with fail
      go_end0
      obtain rfl : k = 32 := by omega
      exact ⟨rfl, hbr, hr⟩
end Go.Proofs.Ytohiecppakiliaa
