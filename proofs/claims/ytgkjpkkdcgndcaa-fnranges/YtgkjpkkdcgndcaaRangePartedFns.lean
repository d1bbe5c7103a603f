/-
  impl.RangeParted and spec.RangeParted by their contracts. Conditions: at most 1048576 rows and cuts.
-/
import Derived.Test.YtgkjpkkdcgndcaaDealtR
import Derived.Test.YtgkjpkkdcgndcaaPartedFns
import Derived.Test.YtgkjpkkdcgndcaaRangeFns
namespace Go.Proofs.Ytgkjpkkdcgndcaa
open Go.RowKit

def rangeF (ss : List ByteArray) (r : RowV) : Nat := rangeN ss r.key
def rangePartedB (rs : List RowV) (ss : List ByteArray) : Bool := rowsOk rs && cutsB ss
def rangePartedS (rs : List RowV) (ss : List ByteArray) : List (List RowV) := if rangePartedB rs ss = true then partsL (rangeF ss) (ss.length + 1) rs else []
/-- What RangeParted returns. -/
def RangePartedOut (rs : List RowV) (ss : List ByteArray) (w : World) (e : Ending) (w' : World) : Prop :=
  ∃ a c vs, e = .returned (.tuple #[.slice a (rangePartedS rs ss).length c, .bool (rangePartedB rs ss)]) ∧ Below w.heap.size w w' ∧ POwn w' w.heap.size a (rangePartedS rs ss).length c vs (rangePartedS rs ss)
theorem rangeF_lt (ss : List ByteArray) (r : RowV) : rangeF ss r < ss.length + 1 := Nat.lt_succ_of_le (rangeN_le ss r.key)
theorem placeR_any (B : Nat) (a : Option Addr) (n cap : Nat) (ss : List ByteArray) (r : RowV) (w : World) (hm : n ≤ 1048576) (hR : Rd w w.heap.size 1 a n (strC ss)) (hB : w.cell? ⟨B, 0, none⟩ = some (.slice a n cap)) :
    Calls Try.prog 80 #[.string r.key, .pointer (some ⟨B, 0, none⟩)] w fun e w' => e = .returned (.int .i64 (rangeF ss r)) ∧ w = w' := by
  go_enter Try.func80, Try.ntmps80
  go_wp2_with fail
  refine (cutsUpTo_any a n cap ss r.key _ hm hR).mono ?_
  rintro e w1 ⟨rfl, rfl⟩
  go_wp2_with fail
  go_ret
  exact ⟨rfl, rfl⟩
set_option maxRecDepth 100000 in
set_option maxHeartbeats 1000000 in
theorem implRangeParted_any (a : Option Addr) (n cap : Nat) (rs : List RowV) (b : Option Addr) (k kc : Nat) (ss : List ByteArray) (w : World) (hm : n ≤ 1048576) (hok : ∀ r ∈ rs, r.Ok) (hR : Rd w w.heap.size 3 a n (flat rs)) (hk : k ≤ 1048576) (hS : ∀ s ∈ ss, s.size ≤ maxLen) (hQ : Rd w w.heap.size 1 b k (strC ss)) :
    Calls Try.prog 16 #[.slice a n cap, .slice b k kc] w (RangePartedOut rs ss w) := by
  have hb0 := bl1 w (.cells #[.slice b k kc] 25)
  have d0 : (w.alloc (.cells #[.slice b k kc] 25)).cell? ⟨w.heap.size, 0, none⟩ = some (.slice b k kc) := by simp [go_sem]
  have s0 : w.heap.size < (w.alloc (.cells #[.slice b k kc] 25)).heap.size := by simp
  have hQ0 := (hQ.below hb0 (Nat.le_refl _)).more hb0.size
  have hkl := Lib.hid hQ.strs_length
  unfold RangePartedOut
  cases hq : cutsB ss
  case false =>
    have C0 := cutsOk_any b k kc ss (w.alloc (.cells #[.slice b k kc] 25)) hk hS hQ0
    rw [hq] at C0
    have E : rangePartedB rs ss = false := by unfold rangePartedB; rw [hq, Bool.and_false]
    have E2 : rangePartedS rs ss = [] := by unfold rangePartedS; rw [E]; rfl
    rw [E2, E]
    clear hq E E2
    go_enter Try.func16, Try.ntmps16
    go_wp2_with fail
    refine C0.mono ?_
    rintro e w1 ⟨rfl, rfl⟩
    go_wp2_with fail
    go_ret2
    exact ⟨none, 0, [], rfl, hb0, POwn.nil _ _⟩
  have C0 := cutsOk_any b k kc ss (w.alloc (.cells #[.slice b k kc] 25)) hk hS hQ0
  rw [hq] at C0
  have C1 := implRowsOk_any a n cap rs (w.alloc (.cells #[.slice b k kc] 25)) hm hok ((hR.below hb0 (Nat.le_refl _)).more hb0.size)
  cases hp : rowsOk rs
  case false =>
    rw [hp] at C1
    have E : rangePartedB rs ss = false := by unfold rangePartedB; rw [hp]; rfl
    have E2 : rangePartedS rs ss = [] := by unfold rangePartedS; rw [E]; rfl
    rw [E2, E]
    clear hq hp E E2
    go_enter Try.func16, Try.ntmps16
    go_wp2_with fail
    refine C0.mono ?_
    rintro e w1 ⟨rfl, rfl⟩
    go_wp2_with fail
    refine C1.mono ?_
    rintro e w2 ⟨rfl, hb2⟩
    have hb' := hb0.trans (hb2.mono hb0.size)
    go_wp2_with fail
    go_ret2
    exact ⟨none, 0, [], rfl, hb', POwn.nil _ _⟩
  rw [hp] at C1
  have E : rangePartedB rs ss = true := by unfold rangePartedB; rw [hp, hq]; rfl
  have E2 : rangePartedS rs ss = partsL (rangeF ss) (ss.length + 1) rs := by unfold rangePartedS; rw [E]; rfl
  rw [E2, E, partsL_length]
  have hk8 : k < 8 := by have := (cutsB_good hq).1; have := hkl.out; omega
  have hMk : ss.length + 1 = k + 1 := by rw [hkl.out]
  rw [hMk]
  have hf : ∀ r, rangeF ss r < k + 1 := fun r => by rw [← hMk]; exact rangeF_lt ss r
  have Hf := Lib.hid hf
  clear hq hp E E2 hMk hf
  go_enter Try.func16, Try.ntmps16
  go_wp2_with fail
  refine C0.mono ?_
  rintro e w1 ⟨rfl, rfl⟩
  go_wp2_with fail
  refine C1.mono ?_
  rintro e w2 ⟨rfl, hb2⟩
  have hb' := hb0.trans (hb2.mono hb0.size)
  have d2 := (hb2.cell (p := ⟨w.heap.size, 0, none⟩) s0).trans d0
  have s2 : w.heap.size < w2.heap.size := Nat.lt_of_lt_of_le s0 hb2.size
  obtain ⟨M, hM1, hM2⟩ : ∃ M : Nat, k + 1 ≤ M ∧ M ≤ k + 1 := ⟨k + 1, Nat.le_refl _, Nat.le_refl _⟩
  have hMe := Lib.hid (show k + 1 = M by omega)
  have C2 := dealtR_any a n cap M w.heap.size rs (rangeF ss) w2 hm (by omega) (by omega) hok ((hR.below hb' (Nat.le_refl _)).more hb'.size) (fun r _ => by have := Hf.out r; omega)
    (fun W r hW _ _ => placeR_any w.heap.size b k kc ss r W hk (((hQ.below (hb'.trans (hW.mono hb'.size)) (Nat.le_refl _))).more (Nat.le_trans hb'.size hW.size)) ((hW.cell (p := ⟨w.heap.size, 0, none⟩) s2).trans d2))
  clear d0 hb2 s0 C0 C1 hb0 hQ0
  go_wp2_with fail
  rw [show ((k : Int) + 1) = (M : Int) by omega]
  refine C2.mono ?_
  rintro e w3 ⟨g, vs, rfl, hb3, hP⟩
  have hb4 := hb'.trans (hb3.mono hb'.size)
  have hP' := hP.base hb'.size
  clear C2 hP hb3
  go_wp2_with fail
  go_ret2
  rw [hMe.out]
  exact ⟨_, M, vs, rfl, hb4, hP'⟩
set_option maxRecDepth 100000 in
set_option maxHeartbeats 4000000 in
theorem specRangeParted_any (a : Option Addr) (n cap : Nat) (rs : List RowV) (b0 : Option Addr) (k0 kc : Nat) (ss : List ByteArray) (w0 : World) (hm : n ≤ 1048576) (hok : ∀ r ∈ rs, r.Ok) (hR0 : Rd w0 w0.heap.size 3 a n (flat rs)) (hk0 : k0 ≤ 1048576) (hS : ∀ s ∈ ss, s.size ≤ maxLen) (hQ0 : Rd w0 w0.heap.size 1 b0 k0 (strC ss)) :
    Calls Try.prog 17 #[.slice a n cap, .slice b0 k0 kc] w0 (RangePartedOut rs ss w0) := by
  have C0 := specRowsOk_any a n cap rs w0 hm hok hR0
  have hkl := Lib.hid hQ0.strs_length
  unfold RangePartedOut
  cases hq : rowsOk rs
  case false =>
    rw [hq] at C0
    have E : rangePartedB rs ss = false := by unfold rangePartedB; rw [hq]; rfl
    have E2 : rangePartedS rs ss = [] := by unfold rangePartedS; rw [E]; rfl
    rw [E2, E]
    clear hq E E2
    go_enter Try.func17, Try.ntmps17
    go_wp2_with fail
    refine C0.mono ?_
    rintro e w1 ⟨rfl, hb1⟩
    go_wp2_with fail
    go_ret2
    exact ⟨none, 0, [], rfl, hb1, POwn.nil _ _⟩
  rw [hq] at C0
  cases hp : cutsB ss
  case false =>
    have E : rangePartedB rs ss = false := by unfold rangePartedB; rw [hp, Bool.and_false]
    have E2 : rangePartedS rs ss = [] := by unfold rangePartedS; rw [E]; rfl
    rw [E2, E]
    have hp' := Lib.hid hp
    clear hq hp E E2
    go_enter Try.func17, Try.ntmps17
    go_wp2_with fail
    refine C0.mono ?_
    rintro e w1 ⟨rfl, hb1⟩
    have hQ1 := (hQ0.below hb1 (Nat.le_refl _)).more hb1.size
    go_wp2_with fail
    refine (l2Cuts_b b0 k0 kc ss false _ hk0 hS hQ1 hp'.out).mono ?_
    rintro e w2 ⟨rfl, hb2⟩
    have hb' := hb1.trans (hb2.mono hb1.size)
    go_wp2_with fail
    go_ret2
    exact ⟨none, 0, [], rfl, hb', POwn.nil _ _⟩
  have E : rangePartedB rs ss = true := by unfold rangePartedB; rw [hp, hq]; rfl
  have E2 : rangePartedS rs ss = partsL (rangeF ss) (ss.length + 1) rs := by unfold rangePartedS; rw [E]; rfl
  rw [E2, E, partsL_length]
  have hk8 : k0 < 8 := by have := (cutsB_good hp).1; have := hkl.out; omega
  obtain ⟨M, hM1, hM2⟩ : ∃ M : Nat, k0 + 1 ≤ M ∧ M ≤ k0 + 1 := ⟨k0 + 1, Nat.le_refl _, Nat.le_refl _⟩
  have hMe : ss.length + 1 = M := by rw [hkl.out]; omega
  rw [hMe]
  have Hf := Lib.hid (show ∀ r, rangeF ss r < M from fun r => by rw [← hMe]; exact rangeF_lt ss r)
  have hp' := Lib.hid hp
  clear hq hp E E2 hMe
  obtain ⟨i0, hi, hz0, hz1, hz2⟩ := info_parts infoRow
  obtain ⟨i1, hj, hy0, hy1, hy2⟩ := info_parts infoPart
  have hl := Lib.hid hR0.rows_length
  go_enter Try.func17, Try.ntmps17
  go_wp2_with fail
  refine C0.mono ?_
  rintro e wA ⟨rfl, hbA⟩
  have hQA := (hQ0.below hbA (Nat.le_refl _)).more hbA.size
  go_wp2_with fail
  refine (l2Cuts_b b0 k0 kc ss true _ hk0 hS hQA hp'.out).mono ?_
  rintro e w ⟨rfl, hbB⟩
  have hbw := hbA.trans (hbB.mono hbA.size)
  have hR := (hR0.below hbw (Nat.le_refl _)).more hbw.size
  have hQ := (hQ0.below hbw (Nat.le_refl _)).more hbw.size
  clear C0 hR0 hQ0 hbA hbB hQA
  go_wp2_with (at_make; refine wpList_make_full _ rfl _ _ 28 rfl w.heap.size 36 i1 (.agg #[.slice none 0 0]) 1 Try.underlying28 hj hy0 hy1 .i64 .i64 _ _ M rfl rfl (by omega) (by omega) (by rw [hy2]; omega) (by unfold maxLen; omega) (Nat.le_refl _) ?_; intro w1 hown hgrow)
  rw [made_parts] at hown
  have hb1 := (Below.refl w.heap.size w).grown hgrow (Nat.le_refl _) (by simp)
  have hP1 : POwn w1 w.heap.size (some ⟨w.heap.size, 0, none⟩) M M (List.replicate M (.slice none 0 0)) (partsL (rangeF ss) M (rs.take 0)) := by
    rw [List.take_zero, partsL_nil]
    refine ⟨hown, Fam.nils _ _ _, fun v hv g hg => ?_⟩
    have e1 : v = .slice none 0 0 := (List.mem_replicate.1 hv).2
    subst e1
    cases hg
  clear hgrow hown
  go_loopw [7] (fun i wr => ∃ (k : Nat) (vs : List Value), k ≤ n ∧ i = .int .i64 k ∧ Below w.heap.size w wr ∧ POwn wr w.heap.size (some ⟨w.heap.size, 0, none⟩) M M vs (partsL (rangeF ss) M (rs.take k))) (fun i _ => n - (intOf i).toNat)
  case atStart => exact ⟨0, _, Nat.zero_le _, rfl, hb1, hP1⟩
  case round =>
    obtain ⟨k, vs, hk, rfl, hb, hP⟩ := hrel
    clear hP1 hb1
    by_cases hlt : k < n
    · obtain ⟨b, off, r, rfl, hB, hr, c0, c1, c2⟩ := (hR.below hb (Nat.le_refl _)).row hlt
      have hro := RowV.Ok.of hok hr
      have hp2 := Hf.out r
      have HS := Lib.hid (show (partsL (rangeF ss) M (rs.take k)).set (rangeF ss r) (((rs.take k).filter fun x => rangeF ss x == rangeF ss r) ++ [r]) = partsL (rangeF ss) M (rs.take (k + 1)) by
        rw [partsL_step hp2]
        have hkl := (List.getElem?_eq_some_iff.1 hr).1
        have e : rs[k] = r := by rw [List.getElem?_eq_getElem hkl] at hr; injection hr
        rw [List.take_succ_eq_append_getElem hkl, e])
      obtain ⟨va, vc, l, hv1, hv2, hv3⟩ := hP.fam.at_ (i := rangeF ss r) (by rw [partsL_length]; exact hp2)
      obtain rfl : l = (rs.take k).filter fun x => rangeF ss x == rangeF ss r := by rw [partsL_get hp2] at hv2; injection hv2 with e; exact e.symm
      have hll := filter_le_take (f := rangeF ss) (i := rangeF ss r) (k := k) (l := rs)
      generalize (rs.take k).filter (fun x => rangeF ss x == rangeF ss r) = l at *
      have d0 : wr.cell? ⟨w.heap.size, rangeF ss r, none⟩ = some (.slice va l.length vc) := by
        rw [hP.outer.cellAt (rangeF ss r) (by omega)]; exact hv1
      have f0 := hP.outer.frozenAt (rangeF ss r)
      have C1 := Lib.hid (l2Range_any b0 k0 kc ss r.key wr hp'.out ((hQ.below hb (Nat.le_refl _)).more hb.size))
      clear hv2 hr
      rw [show (rangeN ss r.key) = rangeF ss r from rfl] at C1
      generalize rangeF ss r = p at *
      go_wp2_with fail
      refine C1.out.mono ?_
      rintro e w2 ⟨rfl, rfl⟩
      clear C1
      go_wp2_with fail
      have hbA := (hb.alloc hb.size (.cells #[.string r.key, .int .i64 r.tag, .string r.val] 38)).drew
      have hPA := (hP.below (bl1 wr (.cells #[.string r.key, .int .i64 r.tag, .string r.val] 38))).below (Below.refl _ _).drew
      have hvA := own_below (own_below hv3 (bl1 wr (.cells #[.string r.key, .int .i64 r.tag, .string r.val] 38))) (Below.refl _ _).drew
      have hnew := row_new wr r 38
      have hlm : l.length + 1 ≤ maxLen := by unfold maxLen; omega
      have hlb : (l.length + 1) * 40 ≤ 140737488355328 := by omega
      have dA : (wr.alloc (.cells #[.string r.key, .int .i64 r.tag, .string r.val] 38)).cell? ⟨w.heap.size, p, none⟩ = some (.slice va l.length vc) := by
        rw [World.cell?_alloc_some _ _ _ (by rw [d0]; rfl)]; exact d0
      have HB := Lib.hid hbA
      have HP := Lib.hid hPA
      have HV := Lib.hid hvA
      have HN := Lib.hid hnew
      clear hb hP hv3 hbA hPA hvA hnew
      go_region_law (refine step_append_own_at rfl (.tmp 40) (.tmp 45) 24 rfl w.heap.size 38 i0 (.agg #[.string ⟨#[]⟩, .int .i64 0, .string ⟨#[]⟩]) 3 40 Try.underlying24 hi hz0 hz1 hz2 rfl (by decide) (.slice va l.length vc) l.length (flat l) rfl HV.out ⟨wr.heap.size, 0, none⟩ 1 1 [.string r.key, .int .i64 r.tag, .string r.val] rfl rfl HN.out (row_one r) hlm hlb HB.out.size ?_; intro v' w3 hO3 hg3 hat; obtain ⟨a3, c3, rfl⟩ := own_slice' hO3; have hPo := own_other HP.out.outer hg3 (fun g h1 h2 => HP.out.out _ (List.mem_of_getElem? hv1) g h2 h1); obtain ⟨u0, e0⟩ := own_cell hPo (j := p) (by omega); have f1 := hPo.frozenAt p)
      all_goals
        have hO3' : w3.ownsRow w.heap.size 38 3 (.slice a3 (l.length + 1) c3) (l ++ [r]).length (flat (l ++ [r])) := by
          rw [flat_append]; simpa [flat, RowV.cells] using hO3
        have hgb := HB.out.grown hg3 HB.out.size (fun q e => (own_ge HV.out q e).1)
        have hPn := HP.out.put hv1 hg3 hO3' hat
        rw [HS.out] at hPn
        have hbn := hgb.setCell (p := ⟨w.heap.size, p, none⟩) (Nat.le_refl _) (.slice a3 (l.length + 1) c3)
        clear hO3 hg3 hat hPo hgb hO3'
        go_wp2_with fail
        go_roundw
        case rel => exact ⟨k + 1, _, by omega, by go_num, hbn, hPn⟩
        case measure => simp [intOf]; omega
    · obtain rfl : k = n := by omega
      rw [List.take_of_length_le (by rw [hl.out]; omega)] at hP
      have hb' := hbw.trans (hb.mono hbw.size)
      have hP' := hP.base hbw.size
      clear hP hb
      go_wp2_with fail
      go_ret2
      exact ⟨_, M, vs, rfl, hb', hP'⟩
theorem rangePartedS_le (rs : List RowV) (ss : List ByteArray) : (rangePartedS rs ss).length ≤ 1048576 ∧ rowsIn (rangePartedS rs ss) ≤ 1048576 := by
  unfold rangePartedS
  split
  · rename_i h
    unfold rangePartedB at h
    rw [Bool.and_eq_true] at h
    have h1 := rowsOk_len h.1
    have h2 := (cutsB_good h.2).1
    rw [partsL_length, rowsIn_partsL _ _ _ (fun r _ => rangeF_lt ss r)]
    omega
  · simp [rowsIn]
end Go.Proofs.Ytgkjpkkdcgndcaa
