/-
  impl.dealt with the closure of impl.RangeParted by its contract: each row on the list that the closure names. Condition: at most 1048576 rows.
-/
import Derived.Test.YtgkjpkkdcgndcaaDealtP
namespace Go.Proofs.Ytgkjpkkdcgndcaa
open Go.RowKit

set_option maxRecDepth 100000 in
set_option maxHeartbeats 4000000 in
theorem dealtR_any (a : Option Addr) (n cap M B : Nat) (rs : List RowV) (f : RowV → Nat) (w : World) (hm : n ≤ 1048576) (hM1 : 1 ≤ M) (hM8 : M ≤ 8) (hok : ∀ r ∈ rs, r.Ok) (hR : Rd w w.heap.size 3 a n (flat rs)) (hf : ∀ r ∈ rs, f r < M)
    (hplace : ∀ (W : World) (r : RowV), Below w.heap.size w W → r.Ok → r ∈ rs → Calls Try.prog 80 #[.string r.key, .pointer (some ⟨B, 0, none⟩)] W fun e W' => e = .returned (.int .i64 (f r)) ∧ W = W') :
    Calls Try.prog 79 #[.slice a n cap, .int .i64 M, .func (.func 80) #[] #[.pointer (some ⟨B, 0, none⟩)]] w fun e w' => ∃ g vs, e = .returned (.slice (some ⟨g, 0, none⟩) M M) ∧ Below w.heap.size w w' ∧ POwn w' w.heap.size (some ⟨g, 0, none⟩) M M vs (partsL f M rs) := by
  obtain ⟨i0, hi, hz0, hz1, hz2⟩ := info_parts infoRow
  obtain ⟨i1, hj, hy0, hy1, hy2⟩ := info_parts infoPart
  have hl := Lib.hid hR.rows_length
  have HP := Lib.hid hplace
  have HF := Lib.hid hf
  clear hplace hf
  have hL0 := LOwn.new w f
  have hb0 := bl1 w (.cells #[.slice none 0 0, .slice none 0 0, .slice none 0 0, .slice none 0 0, .slice none 0 0, .slice none 0 0, .slice none 0 0, .slice none 0 0] 171)
  go_enter Try.func79, Try.ntmps79
  go_wp2_with fail
  generalize w.alloc (.cells #[.slice none 0 0, .slice none 0 0, .slice none 0 0, .slice none 0 0, .slice none 0 0, .slice none 0 0, .slice none 0 0, .slice none 0 0] 171) = w0 at *
  go_loopw [15] (fun i wr => ∃ (k : Nat) (vs : List Value), k ≤ n ∧ i = .int .i64 k ∧ Below w.heap.size w wr ∧ LOwn wr w.heap.size w.heap.size vs (partsL f 8 (rs.take k))) (fun i _ => n - (intOf i).toNat)
  case atStart => exact ⟨0, _, Nat.zero_le _, rfl, hb0, by rw [List.take_zero]; exact hL0⟩
  case round =>
    obtain ⟨k, vs, hk, rfl, hb, hP⟩ := hrel
    clear hL0 hb0
    by_cases hlt : k < n
    · obtain ⟨b, off, r, rfl, hB, hr, c0, c1, c2⟩ := (hR.below hb (Nat.le_refl _)).row hlt
      have hro := RowV.Ok.of hok hr
      have hmem := List.mem_of_getElem? hr
      have hp2 := HF.out r hmem
      have HS := Lib.hid (show (partsL f 8 (rs.take k)).set (f r) (((rs.take k).filter fun x => f x == f r) ++ [r]) = partsL f 8 (rs.take (k + 1)) by
        rw [partsL_step (by omega)]
        have hkl := (List.getElem?_eq_some_iff.1 hr).1
        have e : rs[k] = r := by rw [List.getElem?_eq_getElem hkl] at hr; injection hr
        rw [List.take_succ_eq_append_getElem hkl, e])
      obtain ⟨va, vc, l, hv1, hv2, hv3⟩ := hP.fam.at_ (i := f r) (by rw [partsL_length]; omega)
      obtain rfl : l = (rs.take k).filter fun x => f x == f r := by rw [partsL_get (by omega)] at hv2; injection hv2 with e; exact e.symm
      have hll := filter_le_take (f := f) (i := f r) (k := k) (l := rs)
      generalize (rs.take k).filter (fun x => f x == f r) = l at *
      have C := Lib.hid (HP.out (wr.alloc (.cells #[.string r.key, .int .i64 r.tag, .string r.val] 38)) r (hb.alloc hb.size _) hro hmem)
      clear hv2 hr hmem
      go_wp2_with fail
      refine C.out.mono ?_
      rintro e w2 ⟨rfl, rfl⟩
      generalize f r = p at *
      have hb' := hb.alloc hb.size (.cells #[.string r.key, .int .i64 r.tag, .string r.val] 38)
      have hP' := hP.below (bl1 wr (.cells #[.string r.key, .int .i64 r.tag, .string r.val] 38))
      have hv' := own_below hv3 (bl1 wr (.cells #[.string r.key, .int .i64 r.tag, .string r.val] 38))
      have q0 := row_new wr r 38 0 _ rfl
      have q1 := row_new wr r 38 1 _ rfl
      have q2 := row_new wr r 38 2 _ rfl
      have hws : wr.heap.size < (wr.alloc (.cells #[.string r.key, .int .i64 r.tag, .string r.val] 38)).heap.size := by simp
      rw [addr_add3, Nat.zero_add] at q0 q1 q2
      generalize hwx : wr.alloc (.cells #[.string r.key, .int .i64 r.tag, .string r.val] 38) = wx at *
      generalize wr.heap.size = B1 at *
      clear hwx hb hP hv3 C c0 c1 c2
      have d0 : wx.cell? ⟨w.heap.size, p, none⟩ = some (.slice va l.length vc) := by
        rw [hP'.outer.cellAt p (by omega)]; exact hv1
      have f0 := hP'.outer.frozenAt p
      have hbA := (hb'.alloc hb'.size (.cells #[.string r.key, .int .i64 r.tag, .string r.val] 38)).drew
      have hPA := (hP'.below (bl1 wx (.cells #[.string r.key, .int .i64 r.tag, .string r.val] 38))).below (Below.refl _ _).drew
      have hvA := own_below (own_below hv' (bl1 wx (.cells #[.string r.key, .int .i64 r.tag, .string r.val] 38))) (Below.refl _ _).drew
      have hnew := row_new wx r 38
      have hlm : l.length + 1 ≤ maxLen := by unfold maxLen; omega
      have hlb : (l.length + 1) * 40 ≤ 140737488355328 := by omega
      have dA : (wx.alloc (.cells #[.string r.key, .int .i64 r.tag, .string r.val] 38)).cell? ⟨w.heap.size, p, none⟩ = some (.slice va l.length vc) := by
        rw [World.cell?_alloc_some _ _ _ (by rw [d0]; rfl)]; exact d0
      have HB := Lib.hid hbA
      have HP2 := Lib.hid hPA
      have HV := Lib.hid hvA
      have HN := Lib.hid hnew
      clear hb' hP' hv' hbA hPA hvA hnew
      have hp8 : (p : Int) < 8 := by omega
      go_wp2_with fail
      go_region_law (refine step_append_own_at rfl (.tmp 26) (.tmp 28) 24 rfl w.heap.size 38 i0 (.agg #[.string ⟨#[]⟩, .int .i64 0, .string ⟨#[]⟩]) 3 40 Try.underlying24 hi hz0 hz1 hz2 rfl (by decide) (.slice va l.length vc) l.length (flat l) rfl HV.out ⟨wx.heap.size, 0, none⟩ 1 1 [.string r.key, .int .i64 r.tag, .string r.val] rfl rfl HN.out (row_one r) hlm hlb HB.out.size ?_; intro v' w3 hO3 hg3 hat; obtain ⟨a3, c3, rfl⟩ := own_slice' hO3; have hPo := own_other HP2.out.outer hg3 (fun g h1 h2 => HP2.out.out _ (List.mem_of_getElem? hv1) g h2 h1); obtain ⟨u0, e0⟩ := own_cell hPo (j := p) (by omega); have f1 := hPo.frozenAt p)
      all_goals
        have hO3' : w3.ownsRow w.heap.size 38 3 (.slice a3 (l.length + 1) c3) (l ++ [r]).length (flat (l ++ [r])) := by
          rw [flat_append]; simpa [flat, RowV.cells] using hO3
        have hgb := HB.out.grown hg3 HB.out.size (fun q e => (own_ge HV.out q e).1)
        have hPn := HP2.out.put hv1 hg3 hO3' hat
        rw [HS.out] at hPn
        have hbn := hgb.setCell (p := ⟨w.heap.size, p, none⟩) (Nat.le_refl _) (.slice a3 (l.length + 1) c3)
        clear hO3 hg3 hat hPo hgb hO3'
        go_wp2_with fail
        go_roundw
        case rel => exact ⟨k + 1, _, by omega, by go_num, hbn, hPn⟩
        case measure => simp [intOf]; omega
    · obtain rfl : k = n := by omega
      rw [List.take_of_length_le (by rw [hl.out]; omega)] at hP
      go_wp2_with (at_make; refine wpList_make_full _ rfl _ _ 28 rfl wr.heap.size 36 i1 (.agg #[.slice none 0 0]) 1 Try.underlying28 hj hy0 hy1 .i64 .i64 _ _ M rfl rfl (by omega) (by omega) (by rw [hy2]; omega) (by unfold maxLen; omega) (Nat.le_refl _) ?_; intro w4 hown hgrow)
      have hb4 := (Below.refl wr.heap.size wr).grown hgrow (Nat.le_refl _) (by simp)
      have hB4 := hb.trans (hb4.mono hb.size)
      have hP4 := hP.below hb4
      have hPb := hP.bnd
      have hs4 : w.heap.size < wr.heap.size := (own_ge hP.outer w.heap.size rfl).2
      rw [made_parts] at hown
      clear hgrow hb4 hb hP
      have hBnd := hPb
      generalize wr.heap.size = gP at *
      clear hPb
      go_wp2_with fail
      go_loopw [36] (fun i wq => ∃ (k : Nat) (xs : List Value), k ≤ M ∧ i = .int .i64 k ∧ Below w.heap.size w wq ∧ LOwn wq w.heap.size w.heap.size vs (partsL f 8 rs) ∧ wq.ownsRow gP 36 1 (.slice (some ⟨gP, 0, none⟩) M M) M xs ∧ Hid (xs.take k = vs.take k)) (fun i _ => M - (intOf i).toNat)
      case atStart => exact ⟨0, _, Nat.zero_le _, rfl, hB4, hP4, hown, Lib.hid rfl⟩
      case round =>
        obtain ⟨q, xs, hq, rfl, hb, hP, hO, Hx⟩ := hrel
        clear hB4 hP4 hown
        have hv8 : vs.length = 8 := by have := hP.outer.1; omega
        by_cases hlt : q < M
        · obtain ⟨v, hv⟩ : ∃ v, vs[q]? = some v := ⟨_, List.getElem?_eq_getElem (by omega)⟩
          obtain ⟨va, vc, l, hv1, _, _⟩ := hP.fam.at_ (i := q) (by rw [partsL_length]; omega)
          have d0 : wr.cell? ⟨w.heap.size, q, none⟩ = some (.slice va l.length vc) := by
            rw [hP.outer.cellAt q (by omega)]; exact hv1
          obtain ⟨u0, e0⟩ := own_cell hO (j := q) (by omega)
          have f0 := hO.frozenAt q
          have hO2 := (hO.stored q (.slice va l.length vc)).1
          have hb2 := hb.setCell (p := ⟨gP, q, none⟩) (Nat.le_of_lt hs4) (.slice va l.length vc)
          have hP2 := hP.other (gb_store (World.grownBy.refl wr (some gP)) q (.slice va l.length vc)) (fun g e => by injection e with e; subst e; exact ⟨fun v hv hg => by have := hBnd v hv gP hg; omega, by omega⟩)
          have Hx2 := Lib.hid (show (xs.set q (.slice va l.length vc)).take (q + 1) = vs.take (q + 1) by
            have hxl : q < xs.length := by rw [hO.1]; omega
            rw [List.take_succ_eq_append_getElem (by simpa using hxl), List.take_succ_eq_append_getElem (by omega : q < vs.length)]
            rw [List.getElem_set_self, List.take_set_of_le (Nat.le_refl q), Hx.out]
            have : vs[q]'(by omega) = .slice va l.length vc := by
              have h := hv1
              rw [List.getElem?_eq_getElem (by omega : q < vs.length)] at h
              injection h
            rw [this])
          have HV8 := Lib.hid hv8
          clear hv hb hP hO hv1 hv8
          have hq8 : (q : Int) < 8 := by omega
          go_wp2_with fail
          go_roundw
          case rel => exact ⟨q + 1, _, by omega, by go_num, hb2, hP2, hO2, Hx2⟩
          case measure => simp [intOf]; omega
        · obtain rfl : q = M := by omega
          have hx := Hx.out
          rw [List.take_of_length_le (by rw [hO.1]; omega)] at hx
          subst hx
          have hPw : POwn wr w.heap.size (some ⟨gP, 0, none⟩) q q (vs.take q) (partsL f q rs) := by
            refine ⟨own_base' hO (Nat.le_of_lt hs4), ?_, fun v hv g hg he => ?_⟩
            · rw [← partsL_take f rs hM8]; exact hP.fam.take q
            · have := hBnd v (List.mem_of_mem_take hv) g hg
              have he' : gP = g := by injection he
              omega
          have HPw := Lib.hid hPw
          clear hPw hP hO
          go_wp2_with fail
          go_ret
          exact ⟨gP, _, rfl, hb, HPw.out⟩
end Go.Proofs.Ytgkjpkkdcgndcaa
