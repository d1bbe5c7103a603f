/-
  laws.szRowS, laws.toRowS and laws.eqRowS by their contracts: a copy of the rows in new memory that the call owns. Conditions: at most 1048576 rows.
-/
import Derived.Test.YtallcholbbfkdaaDoorRowsFns
import Derived.Test.YtallcholbbfkdaaDoorGrow
import Derived.Test.YtallcholbbfkdaaDoorEqRow
import Derived.StillTailTactics
namespace Go.Proofs.YtallcholbbfkdaaDoor
open Go.RowKit
/-- What szRowS returns: -1, or a number from 0 to 'left', and then there are no more rows than that. -/
def SzOut (left : Int) (len : Nat) (w : World) (e : Ending) (w' : World) : Prop := ∃ z : Int, e = .returned (.int .i64 z) ∧ Below w.heap.size w w' ∧ (z = -1 ∨ 0 ≤ z ∧ z ≤ left ∧ (len : Int) ≤ left)
set_option maxRecDepth 100000 in
set_option maxHeartbeats 1000000 in
theorem szRowS_any (a : Option Addr) (len cap : Nat) (rs : List RowV) (left : Int) (w : World) (hm : len ≤ maxLen) (hok : ∀ r ∈ rs, r.Ok) (hR : Rd w w.heap.size 3 a len (flat rs)) (h0 : 0 ≤ left) (h1 : left ≤ 1048576) :
    Calls Tryd.prog 9 #[.slice a len cap, .int .i64 left] w (SzOut left len w) := by
  unfold maxLen at hm
  by_cases hs : left < len
  · go_enter Tryd.func9, Tryd.ntmps9
    go_wp2
    go_ret
    exact ⟨-1, rfl, Below.refl _ _, .inl rfl⟩
  go_enter Tryd.func9, Tryd.ntmps9
  go_wp2
  go_loopw [1, 5] (fun l i wr => ∃ (k : Nat) (z : Int), k ≤ len ∧ i = .int .i64 k ∧ l = .int .i64 z ∧ 0 ≤ z ∧ z ≤ left ∧ Below w.heap.size w wr) (fun _ i _ => len - (intOf i).toNat)
  case atStart => exact ⟨0, left - len, Nat.zero_le _, rfl, rfl, by omega, by omega, Below.refl _ _⟩
  case round =>
    obtain ⟨k, z, hk, rfl, rfl, hz0, hz1, hb⟩ := hrel
    by_cases hlt : k < len
    · obtain ⟨b, off, r, rfl, hB, hr, c0, c1, c2⟩ := (hR.below hb (Nat.le_refl _)).row hlt
      have hro := RowV.Ok.of hok hr
      clear hr
      obtain ⟨key, tag, val⟩ := r
      obtain ⟨hkk, _, hvv⟩ := hro
      have hz2 := szV_le key val z hz0 (by omega)
      go_wp2_with fail
      refine (szRow_any key val tag z _ hkk hvv (by omega) (by omega)).mono ?_
      rintro e w1 ⟨rfl, hb1⟩
      clear c0 c1 c2
      generalize szV key val z = z' at *
      rcases hz2 with rfl | ⟨hz20, hz21⟩
      · go_wp2_with fail
        go_ret
        exact ⟨-1, rfl, hb.trans (hb1.mono hb.size), .inl rfl⟩
      go_wp2_with fail
      go_roundw
      case rel => exact ⟨k + 1, z', by omega, by go_num, rfl, hz20, by omega, hb.trans (hb1.mono hb.size)⟩
      case measure => simp [intOf]; omega
    · go_wp2_with fail
      go_ret
      exact ⟨z, rfl, hb, .inr ⟨hz0, hz1, by omega⟩⟩

theorem take_set3 {xs A : List Value} {k : Nat} (a b c : Value) (h : xs.take (k * 3) = A) (hl : k * 3 + 2 < xs.length) : (((xs.set (k * 3) a).set (k * 3 + 1) b).set (k * 3 + 2) c).take ((k + 1) * 3) = A ++ [a, b, c] := by
  subst h
  apply List.ext_getElem?
  intro j
  have hlen : (xs.take (k * 3)).length = k * 3 := by simp; omega
  rcases Nat.lt_or_ge j (k * 3) with h1 | h1
  · rw [List.getElem?_append_left (by omega), List.getElem?_take_of_lt (by omega), List.getElem?_take_of_lt h1, List.getElem?_set_ne (by omega), List.getElem?_set_ne (by omega), List.getElem?_set_ne (by omega)]
  · rw [List.getElem?_append_right (by omega), hlen]
    rcases (show j = k * 3 ∨ j = k * 3 + 1 ∨ j = k * 3 + 2 ∨ k * 3 + 3 ≤ j by omega) with e | e | e | e
    · rw [List.getElem?_take_of_lt (by omega), List.getElem?_set_ne (by omega), List.getElem?_set_ne (by omega), e, List.getElem?_set_self (by omega), Nat.sub_self]; rfl
    · rw [List.getElem?_take_of_lt (by omega), List.getElem?_set_ne (by omega), e, List.getElem?_set_self (by simp; omega), show k * 3 + 1 - k * 3 = 1 by omega]; rfl
    · rw [List.getElem?_take_of_lt (by omega), e, List.getElem?_set_self (by simp; omega), show k * 3 + 2 - k * 3 = 2 by omega]; rfl
    · rw [List.getElem?_eq_none (by simp; omega), List.getElem?_eq_none (by simp; omega)]
theorem flat_take_succ {rs : List RowV} {k : Nat} {r : RowV} (h : rs[k]? = some r) : flat (rs.take (k + 1)) = flat (rs.take k) ++ [.string r.key, .int .i64 r.tag, .string r.val] := by
  have hk := (List.getElem?_eq_some_iff.1 h).1
  rw [List.take_succ_eq_append_getElem hk, flat_append]
  have : rs[k] = r := by rw [List.getElem?_eq_getElem hk] at h; injection h
  rw [this]; rfl
/-- A store of a row into an owned row. -/
theorem own_store3 {w : World} {base e n g cap k : Nat} {xs : List Value} (h : w.ownsRow base e 3 (.slice (some ⟨g, 0, none⟩) n cap) n xs) (a b c : Value) :
    (((w.setCell ⟨g, k * 3, none⟩ a).setCell ⟨g, k * 3 + 1, none⟩ b).setCell ⟨g, k * 3 + 2, none⟩ c).ownsRow base e 3 (.slice (some ⟨g, 0, none⟩) n cap) n (((xs.set (k * 3) a).set (k * 3 + 1) b).set (k * 3 + 2) c) :=
  (((h.stored (k * 3) a).1.stored (k * 3 + 1) b).1.stored (k * 3 + 2) c).1
theorem below_store3 {w W : World} {B g o o1 o2 : Nat} (h : Below B w W) (hg : B ≤ g) (a b c : Value) : Below B w (((W.setCell ⟨g, o, none⟩ a).setCell ⟨g, o1, none⟩ b).setCell ⟨g, o2, none⟩ c) :=
  ((h.setCell (p := ⟨g, o, none⟩) hg a).setCell (p := ⟨g, o1, none⟩) hg b).setCell (p := ⟨g, o2, none⟩) hg c
theorem infoRow : (Tryd.prog.info? 68).map (fun i => (i.zero, i.size, i.bytes)) = some (some (.agg #[.string ⟨#[]⟩, .int .i64 0, .string ⟨#[]⟩]), 3, 40) := by kernel_rfl
set_option maxRecDepth 100000 in
set_option maxHeartbeats 1000000 in
theorem toRowS_any (a : Option Addr) (len cap : Nat) (rs : List RowV) (w : World) (hm : len ≤ 1048576) (hR : Rd w w.heap.size 3 a len (flat rs)) :
    Calls Tryd.prog 11 #[.slice a len cap] w fun e w' => e = .returned (.slice (some ⟨w.heap.size, 0, none⟩) len len) ∧ Below w.heap.size w w' ∧ w'.ownsRow w.heap.size 68 3 (.slice (some ⟨w.heap.size, 0, none⟩) len len) len (flat rs) := by
  obtain ⟨i0, hi, hz0, hz1, hz2⟩ := info_parts infoRow
  go_enter Tryd.func11, Tryd.ntmps11
  go_wp2_with (at_make; refine wpList_make_full _ rfl _ _ 27 rfl w.heap.size 68 i0 (.agg #[.string ⟨#[]⟩, .int .i64 0, .string ⟨#[]⟩]) 3 Tryd.underlying27 hi hz0 hz1 .i64 .i64 _ _ len rfl rfl (by omega) (by omega) (by rw [hz2]; omega) (by unfold maxLen; omega) (Nat.le_refl _) ?_; intro w1 hown hgrow)
  have hb1 := (Below.refl w.heap.size w).grown hgrow (Nat.le_refl _) (by simp)
  clear hgrow
  go_loopw [4] (fun i wr => ∃ (k : Nat) (xs : List Value), k ≤ len ∧ i = .int .i64 k ∧ Below w.heap.size w wr ∧ wr.ownsRow w.heap.size 68 3 (.slice (some ⟨w.heap.size, 0, none⟩) len len) len xs ∧ xs.take (k * 3) = flat (rs.take k)) (fun i _ => len - (intOf i).toNat)
  case atStart => exact ⟨0, _, Nat.zero_le _, rfl, hb1, hown, by simp [flat]⟩
  case round =>
    obtain ⟨k, xs, hk, rfl, hb, hO, hx⟩ := hrel
    have Hx := Lib.hid hx
    clear hx hown hb1
    by_cases hlt : k < len
    · obtain ⟨b, off, r, rfl, hB, hr, c0, c1, c2⟩ := (hR.below hb (Nat.le_refl _)).row hlt
      have Hr := Lib.hid hr
      clear hr
      go_wp2_with fail
      refine (toRow_any r.key r.val r.tag _).mono ?_
      rintro e w2 ⟨rfl, hb2⟩
      have hO2 := own_below hO hb2
      have f0 := hO2.frozenAt (k * 3)
      have f1 := hO2.frozenAt (k * 3 + 1)
      have f2 := hO2.frozenAt (k * 3 + 2)
      obtain ⟨u0, e0⟩ := own_cell hO2 (j := k * 3) (by omega)
      obtain ⟨u1, e1⟩ := own_cell hO2 (j := k * 3 + 1) (by omega)
      obtain ⟨u2, e2⟩ := own_cell hO2 (j := k * 3 + 2) (by omega)
      have hB2 : Below w.heap.size w w2 := hb.trans (hb2.mono hb.size)
      have hxl : k * 3 + 2 < xs.length := by rw [hO.1]; omega
      clear c0 c1 c2 hb2 hO
      go_wp2_with fail
      go_roundw
      case rel => exact ⟨k + 1, _, by omega, by go_num, below_store3 hB2 (Nat.le_refl _) _ _ _, own_store3 hO2 _ _ _, (take_set3 _ _ _ Hx.out hxl).trans (flat_take_succ Hr.out).symm⟩
      case measure => simp [intOf]; omega
    · obtain rfl : k = len := by omega
      have hx := Hx.out
      rw [List.take_of_length_le (by rw [hO.1]; omega), List.take_of_length_le (by rw [hR.rows_length]; omega)] at hx
      subst hx
      go_wp2_with fail
      go_ret
      exact ⟨rfl, hb, hO⟩
set_option maxRecDepth 100000 in
set_option maxHeartbeats 1000000 in
theorem eqRowS_same (a b : Option Addr) (n ca cb : Nat) (rs : List RowV) (w : World) (hm : n ≤ 1048576) (hA : Rd w w.heap.size 3 a n (flat rs)) (hB : Rd w w.heap.size 3 b n (flat rs)) :
    Calls Tryd.prog 14 #[.slice a n ca, .slice b n cb] w fun e w' => e = .returned (.bool true) ∧ Below w.heap.size w w' := by
  go_enter Tryd.func14, Tryd.ntmps14
  go_wp2
  go_loopw [5] (fun i wr => ∃ k : Nat, k ≤ n ∧ i = .int .i64 k ∧ Below w.heap.size w wr) (fun i _ => n - (intOf i).toNat)
  case atStart => exact ⟨0, Nat.zero_le _, rfl, Below.refl _ _⟩
  case round =>
    obtain ⟨k, hk, rfl, hb⟩ := hrel
    by_cases hlt : k < n
    · obtain ⟨b1, o1, r, rfl, hB1, hr, c0, c1, c2⟩ := (hA.below hb (Nat.le_refl _)).row hlt
      obtain ⟨b2, o2, r', rfl, hB2, hr', d0, d1, d2⟩ := (hB.below hb (Nat.le_refl _)).row hlt
      obtain rfl : r = r' := by rw [hr] at hr'; injection hr'
      clear hr hr'
      go_wp2_with fail
      refine wp_region_still_tail 8 (by kernel_rfl) (by kernel_rfl) ?_
      simp only [List.take_succ_cons, List.take_zero, List.drop_succ_cons, List.drop_zero]
      change wpStill _ _ wr.drew _ _ _
      repeat still_step
      refine wpStill_nil ?_
      change wpList _ _ _ _ _ wr.drew
      go_wp2_with fail
      refine (eqRow_same r _).mono ?_
      rintro e w1 ⟨rfl, hb1⟩
      clear c0 c1 c2 d0 d1 d2
      go_wp2_with fail
      go_roundw
      case rel => exact ⟨k + 1, by omega, by go_num, hb.drew.trans (hb1.mono hb.size)⟩
      case measure => simp [intOf]; omega
    · go_wp2_with fail
      go_ret
      exact ⟨rfl, hb⟩
end Go.Proofs.YtallcholbbfkdaaDoor
