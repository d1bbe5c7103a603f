/-
  Rows.FnRangePiecesSaid: laws.FnRangePieces returns true for every input, and each argument reads afterwards as it read before. No conditions.
-/
import Derived.Test.YtfbgimchkdffmaaRangePartedFns
import Derived.Test.YtfbgimchkdffmaaAppendAny
import Derived.Test.YtfbgimchkdffmaaSameParts
import Derived.Test.YtfbgimchkdffmaaSortedPieces
import Derived.Test.YtfbgimchkdffmaaOpenBytes
import Derived.Deep.RegionHeld3
import Derived.Deep.DrawnRows
import Derived.Test.YtfbgimchkdffmaaOpen
namespace Go.Proofs.Ytfbgimchkdffmaa
open Go.RowKit
theorem partsR_yes {l : List RowV} {ss : List ByteArray} (h : rangePartedB l ss = true) : rangePartedS l ss = partsL (rangeF ss) (ss.length + 1) l := if_pos h
theorem partsR_no {l : List RowV} {ss : List ByteArray} (h : rangePartedB l ss = false) : rangePartedS l ss = [] := if_neg (by rw [h]; simp)
theorem partsR_rows (l : List RowV) (ss : List ByteArray) : rowsIn (rangePartedS l ss) ≤ l.length := by
  cases h : rangePartedB l ss
  · rw [partsR_no h]; exact Nat.zero_le _
  · rw [partsR_yes h, rowsIn_partsL _ _ _ (fun r _ => rangeF_lt ss r)]; exact Nat.le_refl _
theorem partsR_len (l : List RowV) (ss : List ByteArray) : (rangePartedS l ss).length ≤ ss.length + 1 := by
  cases h : rangePartedB l ss
  · rw [partsR_no h]; exact Nat.zero_le _
  · rw [partsR_yes h, partsL_length]; exact Nat.le_refl _
end Go.Proofs.Ytfbgimchkdffmaa

namespace Go.Proofs.Ytfbgimchkdffmaa
open Go.RowKit
theorem step_append_g {P : Program} {ops : Array Oper} {o : Oper} {a : Act} {w : World} {K : Act → World → Prop} {Q : Exit → Act → World → Prop} {E : Prop}
    (hw : Region.wanted o (yielded ops a.tmps) = true) (s x : Operand) (t : TypeId) (hop : o.op = Op.call { callee := Callee.builtin Builtin.append, args := #[s, x], argTypes := #[t, t] })
    (base : Nat) (e : TypeId) (i : TypeInfo) (z : Value) (size bytes : Nat) (ht : P.underlying t = some (.slice e)) (hi : P.info? e = some i) (hz : i.zero = some z)
    (hsize : i.size = size) (hby : i.bytes = bytes) (hzs : z.cells.size = size) (hsz : 0 < size)
    (v : Value) (n : Nat) (xs : List Value) (hs : a.eval s = v) (hown : w.ownsRow base e size v n xs)
    (ao : Option Addr) (B m c : Nat) (news : List Value) (hx : a.eval x = .slice ao m c) (hR : Rd w B size ao m news) (h1 : ∀ u ∈ news, u.oneCell' = true)
    (h63 : n + m ≤ maxLen) (hbytes : (n + m) * bytes ≤ 140737488355328) (hbase : base ≤ w.heap.size)
    (h : ∀ v' w', w'.ownsRow base e size v' (n + m) (xs ++ news) → w.grownBy w' v.ownBlock → (v'.ownBlock = v.ownBlock ∨ v'.ownBlock = some w.heap.size) → K (a.put o.dst v') w') :
    if Region.wanted o (yielded ops a.tmps) = true then Oper.wp P o a w K Q else E := by
  rw [if_pos hw]
  obtain ⟨v', w', hr, h2, h3, h5⟩ := run_append_rd (P := P) w base t o.type e i z size bytes ht hi hz hsize hby hzs hsz v n xs hown ao B m c news hR h1 h63 hbytes hbase
  unfold Oper.wp
  simp [execOp, hop, resolve, invoke, builtin, hs, hx, hr, Result.andThen]
  exact h v' w' h2 h3 h5
end Go.Proofs.Ytfbgimchkdffmaa

namespace Go.Proofs.Ytfbgimchkdffmaa
open Go.RowKit
attribute [local go_sem ↓] Go.wp_at_zero Go.wp_at_succ

theorem flat_one2 (l : List RowV) : ∀ u ∈ flat l, u.oneCell' = true := by
  induction l with
  | nil => simp [flat]
  | cons r l ih =>
    intro u hu
    rw [flat_cons] at hu
    simp only [List.mem_cons] at hu
    rcases hu with rfl | rfl | rfl | hu
    · rfl
    · rfl
    · rfl
    · exact ih u hu
theorem keepIn {v W W' : World} {C : World → Prop} (hC : ∀ W, Below v.heap.size v W → C W) (H : Below v.heap.size W W') (G : C W ∧ Below v.heap.size v W) : C W' ∧ Below v.heap.size v W' := ⟨hC _ (G.2.trans H), G.2.trans H⟩
theorem keepFirst {v : World} {C : World → Prop} (hC : ∀ W, Below v.heap.size v W → C W) : C v.drew ∧ Below v.heap.size v v.drew := ⟨hC _ (Below.refl _ _).drew, (Below.refl _ _).drew⟩
theorem keepNew {v W : World} {C : World → Prop} {o : Obj} (hC : ∀ W, Below v.heap.size v W → C W) (G : C W ∧ Below v.heap.size v W) : C (W.alloc o) ∧ Below v.heap.size v (W.alloc o) := ⟨hC _ (G.2.alloc G.2.size _), G.2.alloc G.2.size _⟩
set_option maxRecDepth 100000 in
set_option maxHeartbeats 2000000 in
theorem walk_RangePieces (a : Option Addr) (len cap : Nat) (xs : List Value) (w : World) (hI : IsCode w a len cap xs) :
    Calls Try.prog 12 #[.slice a len cap] w fun e w' => e = .returned (.bool true) ∧ Below w.heap.size w w' := by
  obtain ⟨i0, hi, hz0, hz1, hz2⟩ := info_parts infoRow
  have hI0 := hI.by_
  obtain ⟨hlc, hcm, _, _⟩ := hI
  go_enter Try.func12, Try.ntmps12
  go_wp2_with fail
  refine (big_any a len cap w (by omega)).mono ?_
  rintro e w0 ⟨rfl, rfl⟩
  by_cases hbig : 1048576 < len
  · have hd : decide (1048576 < len) = true := by simpa using hbig
    rw [hd]
    go_wp2_with fail
    go_ret
    exact ⟨rfl, Below.refl _ _⟩
  have hd : decide (1048576 < len) = false := by simpa using hbig
  rw [hd]
  go_wp2_with fail
  refine (drawRangeParted_any a len cap w (by omega) hI0).mono ?_
  rintro e w1 ⟨l, lb, lc, ss, sa, sc, hll, hok, hle, hmx, hlcap, rfl, L1, S1, B1⟩
  clear hI0
  go_wp2_with fail
  refine (implRangeParted_any _ l.length lc l sa ss.length sc ss w1 (by omega) hok L1 (by omega) hmx S1).mono ?_
  rintro e w2 ⟨pa, pc, pv, rfl, hb2, P2⟩
  have B2 := B1.trans (hb2.mono B1.size)
  have L2 := (L1.below hb2 (Nat.le_refl _)).more hb2.size
  have S2 := (S1.below hb2 (Nat.le_refl _)).more hb2.size
  have P2 := P2.rd
  clear L1 S1 B1 hb2
  go_wp2_with fail
  refine (specRangeParted_any _ l.length lc l sa ss.length sc ss w2 (by omega) hok L2 (by omega) hmx S2).mono ?_
  rintro e w3 ⟨ta, tc, tv, rfl, hb3, T3⟩
  have B3 := B2.trans (hb3.mono B2.size)
  have L3 := (L2.below hb3 (Nat.le_refl _)).more hb3.size
  have S3 := (S2.below hb3 (Nat.le_refl _)).more hb3.size
  have P3 := (P2.below hb3 (Nat.le_refl _)).more hb3.size
  have T3 := T3.rd
  clear L2 S2 P2 B2 hb3
  have hr1 := partsR_rows l ss
  have hr2 := partsR_len l ss
  go_wp2_with fail
  refine (sameParts_same pa ta _ pc tc (rangePartedS l ss) w3 (by omega) (by omega) P3 T3).mono ?_
  rintro e w4 ⟨rfl, hb4⟩
  have B4 := B3.trans (hb4.mono B3.size)
  have L4 := (L3.below hb4 (Nat.le_refl _)).more hb4.size
  have S4 := (S3.below hb4 (Nat.le_refl _)).more hb4.size
  have P4 := (P3.below hb4 (Nat.le_refl _)).more hb4.size
  have T4 := (T3.below hb4 (Nat.le_refl _)).more hb4.size
  clear L3 S3 P3 T3 B3 hb4
  cases hq : rangePartedB l ss
  · go_wp2_with fail
    refine (sameParts_same pa ta _ pc tc (rangePartedS l ss) w4 (by omega) (by omega) P4 T4).mono ?_
    rintro e w5 ⟨rfl, hb5⟩
    have B5 := B4.trans (hb5.mono B4.size)
    clear T4 P4 S4 L4 hb5 B4
    go_wp2_with fail
    go_ret
    exact ⟨rfl, B5⟩
  have hro : rowsOk l = true ∧ cutsB ss = true := by unfold rangePartedB at hq; rwa [Bool.and_eq_true] at hq
  have HP := Lib.hid (partsR_yes hq)
  have HPl := Lib.hid (show (rangePartedS l ss).length = ss.length + 1 by rw [partsR_yes hq, partsL_length])
  rw [HPl.out]
  rw [HPl.out, HP.out] at P4
  clear T4 hr1 hr2 HPl HP hq
  obtain ⟨k, hk1, hk2⟩ : ∃ k : Nat, k ≤ l.length ∧ (k : Int) = (len : Int) % ((l.length : Int) + 1) := ⟨len % (l.length + 1), by have := Nat.mod_lt len (show 0 < l.length + 1 by omega); omega, by simp⟩
  have Hk := Lib.hid hk2
  have Hkn := Lib.hid (show len % (l.length + 1) = k by have h := hk2; exact (Int.ofNat.inj (by simpa using h)).symm)
  have hA : rangePartedB (l.take k) ss = true := by unfold rangePartedB; rw [rowsOk_sub hro.1 (List.take_sublist k l), hro.2]; rfl
  have hD : rangePartedB (l.drop k) ss = true := by unfold rangePartedB; rw [rowsOk_sub hro.1 (List.drop_sublist k l), hro.2]; rfl
  have HAs := Lib.hid (partsR_yes hA)
  have HDs := Lib.hid (partsR_yes hD)
  have HAl := Lib.hid (show (rangePartedS (l.take k) ss).length = ss.length + 1 by rw [partsR_yes hA, partsL_length])
  have HDl := Lib.hid (show (rangePartedS (l.drop k) ss).length = ss.length + 1 by rw [partsR_yes hD, partsL_length])
  have HA := Lib.hid hA
  have HD := Lib.hid hD
  clear hA hD hk2 hro
  have hokA : ∀ r ∈ l.take k, r.Ok := fun r hr => hok r (List.mem_of_mem_take hr)
  have hokD : ∀ r ∈ l.drop k, r.Ok := fun r hr => hok r (List.mem_of_mem_drop hr)
  have C := implRangeParted_any (some ⟨lb, 0, none⟩) k lc (l.take k) sa ss.length sc ss w4 (by omega) hokA (L4.take hk1) (by omega) hmx S4
  unfold RangePartedOut at C
  rw [HA.out, HAl.out, HAs.out] at C
  have hr1 : 0 ≤ (len : Int) % ((l.length : Int) + 1) ∧ (len : Int) % ((l.length : Int) + 1) ≤ (lc : Int) := by rw [← Hk.out]; omega
  go_wp2_with fail
  rw [← Hk.out]
  rw [Hkn.out]
  refine C.mono ?_
  clear C hr1
  rintro e w5 ⟨aa, ac, av, rfl, hb5, A5⟩
  have B5 := B4.trans (hb5.mono B4.size)
  have A5 := A5.rd
  have P5 := (P4.below hb5 (Nat.le_refl _)).more hb5.size
  have S5 := (S4.below hb5 (Nat.le_refl _)).more hb5.size
  have L5 := (L4.below hb5 (Nat.le_refl _)).more hb5.size
  clear L4 S4 P4 B4 hb5
  have hkl : (k : Int) ≤ (l.length : Int) := by omega
  have C := implRangeParted_any _ (l.length - k) (lc - k) (l.drop k) sa ss.length sc ss w5 (by omega) hokD (L5.drop_if hk1 hlcap) (by omega) hmx S5
  unfold RangePartedOut at C
  rw [HD.out, HDl.out, HDs.out] at C
  go_wp2_with fail
  all_goals
    first
      | rw [if_pos (by assumption), show lc - k = 0 by omega] at C
      | rw [if_neg (by assumption)] at C
    refine C.mono ?_
    clear C L5 HA HAl HAs HD HDl HDs hokA hokD
    rintro e w6 ⟨da, dc, dv, rfl, hb6, D6⟩
    have B6 := B5.trans (hb6.mono B5.size)
    have D6 := D6.rd
    have P6 := (P5.below hb6 (Nat.le_refl _)).more hb6.size
    have A6 := (A5.below hb6 (Nat.le_refl _)).more hb6.size
    clear S5 P5 A5 B5 hb6
    go_wp2_with fail
    go_loopw [14] (fun i wr => ∃ q : Nat, q ≤ ss.length + 1 ∧ i = .int .i64 q ∧ Below w6.heap.size w6 wr) (fun i _ => ss.length + 1 - (intOf i).toNat)
    case atStart => exact ⟨0, Nat.zero_le _, rfl, Below.refl _ _⟩
    case round =>
      obtain ⟨q, hq, rfl, hb⟩ := hrel
      by_cases hqn : q < ss.length + 1
      · obtain ⟨b1, o1, a1, c1, r1, rfl, hB1, hr1, d1, R1⟩ := (A6.below hb (Nat.le_refl _)).at_ hqn
        obtain ⟨b2, o2, a2, c2, r2, rfl, hB2, hr2, d2, R2⟩ := (D6.below hb (Nat.le_refl _)).at_ hqn
        obtain ⟨b3, o3, a3, c3, r3, rfl, hB3, hr3, d3, R3⟩ := (P6.below hb (Nat.le_refl _)).at_ hqn
        have R1' := R1.more hb.size
        have R2' := R2.more hb.size
        have R3' := R3.more hb.size
        clear R1 R2 R3
        have hl1 : r1.length ≤ l.length := by
          rw [partsL_get hqn] at hr1
          obtain rfl := (Option.some.inj hr1)
          have := List.length_filter_le (fun r => rangeF ss r == q) (l.take k)
          rw [List.length_take] at this
          omega
        have hl2 : r2.length ≤ l.length := by
          rw [partsL_get hqn] at hr2
          obtain rfl := (Option.some.inj hr2)
          have := List.length_filter_le (fun r => rangeF ss r == q) (l.drop k)
          rw [List.length_drop] at this
          omega
        obtain rfl : r1 ++ r2 = r3 := by
          rw [partsL_get hqn] at hr1 hr2 hr3
          rw [← Option.some.inj hr1, ← Option.some.inj hr2, ← Option.some.inj hr3, ← List.filter_append, List.take_append_drop]
        rw [List.length_append] at d3 R3'
        have hC := Lib.hid (show ∀ w', Below wr.heap.size wr w' → w'.cell? ⟨b1, o1 + q, none⟩ = some (.slice a1 r1.length c1) ∧ w'.cell? ⟨b2, o2 + q, none⟩ = some (.slice a2 r2.length c2) ∧ w'.cell? ⟨b3, o3 + q, none⟩ = some (.slice a3 (r1.length + r2.length) c3) from fun w' h => ⟨(h.cell (p := ⟨b1, o1 + q, none⟩) (Nat.lt_of_lt_of_le hB1 hb.size)).trans d1, (h.cell (p := ⟨b2, o2 + q, none⟩) (Nat.lt_of_lt_of_le hB2 hb.size)).trans d2, (h.cell (p := ⟨b3, o3 + q, none⟩) (Nat.lt_of_lt_of_le hB3 hb.size)).trans d3⟩)
        have HB6 := Lib.hid (((Below.refl wr.heap.size wr).drew).alloc (Nat.le_refl _) (Obj.cells #[] 61))
        have HE := Lib.hid (show (wr.drew.alloc (Obj.cells #[] 61)).ownsRow wr.heap.size 61 3 (.slice (some ⟨wr.heap.size, 0, none⟩) 0 0) 0 [] from World.ownsRow_lit (base := wr.heap.size) (size := 3) wr.drew #[] 0 (Nat.le_refl _) (Nat.zero_le _) rfl)
        have HR1 := Lib.hid (R1'.below HB6.out (Nat.le_refl _))
        have HR2 := Lib.hid R2'
        have HR3 := Lib.hid R3'
        have hm1 : 0 + r1.length ≤ maxLen := by unfold maxLen; omega
        have hm2 : (0 + r1.length) * 40 ≤ 140737488355328 := by omega
        have hm3 : r1.length + r2.length ≤ maxLen := by unfold maxLen; omega
        have hm4 : (r1.length + r2.length) * 40 ≤ 140737488355328 := by omega
        clear hr1 hr2 hr3 R1' R2' R3'
        go_wp2_with fail
        go_region_held3 (fun w' => (w'.cell? ⟨b1, o1 + q, none⟩ = some (.slice a1 r1.length c1) ∧ w'.cell? ⟨b2, o2 + q, none⟩ = some (.slice a2 r2.length c2) ∧ w'.cell? ⟨b3, o3 + q, none⟩ = some (.slice a3 (r1.length + r2.length) c3)) ∧ Below wr.heap.size wr w') (first | exact keepFirst hC.out | exact keepIn hC.out hb' (by assumption) | exact keepNew hC.out (by assumption))
          (first
            | (refine step_append_g (by rfl) (.tmp 90) (.tmp 95) 24 (by rfl) wr.heap.size 61 i0 (.agg #[.string ⟨#[]⟩, .int .i64 0, .string ⟨#[]⟩]) 3 40 Try.underlying24 hi hz0 hz1 hz2 rfl (by decide) (.slice (some ⟨wr.heap.size, 0, none⟩) 0 0) 0 [] (by rfl) HE.out a1 wr.heap.size r1.length c1 (flat r1) (by rfl) HR1.out (flat_one2 _) hm1 hm2 HB6.out.size ?_; intro v6 w6 hO6 hg6 _; rw [Nat.zero_add, List.nil_append] at hO6; obtain ⟨a6, e6, rfl⟩ := own_slice' hO6; have hb' := (Below.refl wr.heap.size _).grown hg6 HB6.out.size (fun q e => (own_ge HE.out q e).1); have b6 := HB6.out.trans hb'; clear hg6)
            | (refine step_append_g (by rfl) (.tmp 96) (.tmp 101) 24 (by rfl) wr.heap.size 61 i0 (.agg #[.string ⟨#[]⟩, .int .i64 0, .string ⟨#[]⟩]) 3 40 Try.underlying24 hi hz0 hz1 hz2 rfl (by decide) (.slice a6 r1.length e6) r1.length (flat r1) (by rfl) hO6 a2 wr.heap.size r2.length c2 (flat r2) (by rfl) (HR2.out.below b6 (Nat.le_refl _)) (flat_one2 _) hm3 hm4 b6.size ?_; intro v7 w7 hO7 hg7 _; rw [← flat_append] at hO7; obtain ⟨a7, e7, rfl⟩ := own_slice' hO7; have hb' := (Below.refl wr.heap.size _).grown hg7 b6.size (fun q e => (own_ge hO6 q e).1); have b7 := b6.trans hb'; clear hg7 hO6)
            | (go_at_call 46; refine (sameRows_same a7 a3 (r1.length + r2.length) e7 c3 (r1 ++ r2) _ (by omega) (Rd.of_own hO7) ((HR3.out.below b7 (Nat.le_refl _)).more b7.size)).mono ?_; rintro e w8 ⟨rfl, hb8⟩; have hb' := hb8.mono b7.size; have b8 := b7.trans hb'))
        have b9 := hb.trans (b8.mono hb.size)
        clear hO7 b6 b7 b8 hb8 HE HB6 HR1 HR2 HR3 hC
        go_wp2_with fail
        go_roundw
        case rel => exact ⟨q + 1, by omega, by go_num, b9⟩
        case measure => simp [intOf]; omega
      · go_wp2_with fail
        go_ret
        exact ⟨rfl, B6.trans (hb.mono B6.size)⟩
end Go.Proofs.Ytfbgimchkdffmaa

namespace Go.Proofs.Ytfbgimchkdffmaa
open Go.ChangeShapes Go.WideShapes Go.ChangeAt Go.RowKit Go.Joins
open Go.ChangeMaps (open_string shut_string)
namespace RangePieces

set_option maxRecDepth 100000 in
theorem lifted (os : Os) (started : os.Started) (H : Type) (enc : TypeId × Value → H) :
    ReturnsInHanded {} Try.checked os 12 .any (Rows.fnRangePiecesSpec.pre6 enc Try.prog Try.f12 Rows.fnRangePiecesRow.domain false) (Rows.fnRangePiecesSpec.post enc Try.prog Try.f12 false true false false) := by
  refine returnsInHanded_of_change (C := Try.checked) own started (by kernel_rfl) Try.func12
    (ChangeSpec.witness6 (enc := enc) (C := Try.checked) false ⟨#[], #[.slice none 0 0], []⟩ 8 (by kernel_rfl) (by kernel_rfl) (by kernel_rfl) (by kernel_rfl)) ?_
  intro W base args ds gs before hval0 hW _ _
  have hval : ∀ (j : Nat) t v, Try.f12.params[j]? = some t → args[j]? = some v → Value.okWide Try.prog W .any base t v := hval0
  have hW' := hW
  obtain ⟨p, q, hA0, hV, rfl, _, _⟩ := hW
  have hA : DataW.TrodAll enc Try.prog W 0 (fun _ => true) true Try.f12.params.toList args.toList ds p := hA0
  rw [Try.params12] at hA hval
  obtain ⟨v0, vs0, d0, ds0, p0, q0, hargs, rfl, rfl, h0, r0⟩ := trodAll_cons hA
  obtain ⟨rfl, rfl, rfl⟩ := trodAll_nil r0
  obtain rfl : args = #[v0] := by cases args; simp_all
  obtain ⟨rfl, rfl⟩ := trodVars_none hV
  have k0 := h0
  have lt0 : ∀ x ∈ p0, x.block < W.heap.size := by obtain ⟨m, hm⟩ := k0; exact DataW.trod_lt m _ _ _ hm
  obtain ⟨a0, len0, cap0, z0, rfl, w0⟩ := open_Bytes (hval 0 55 v0 rfl rfl) h0
  clear hA0 hval0
  refine (walk_RangePieces a0 len0 cap0 z0 W w0).mono fun e W' ⟨he, bel⟩ => ?_
  subst he
  exact ⟨_, rfl, _, _, _, [], _, [], hW', trodAll_mk1 (shut_bool Try.underlying4 _), (trodAll_cons_mk (Below.trod laidOut (by kernel_rfl) (of_decide_eq_true (by kernel_rfl)) k0 bel lt0) trodAll_mk0), rfl, bel.frame _, fun h => by cases h⟩

theorem over : Rows.fnRangePiecesRow.holds Try.pinned (OpenSpec.ofChange Rows.fnRangePiecesSpec) :=
  OpenClaim.holds_of_wide 12 Try.f12 rfl rfl rfl rfl rfl rfl rfl ⟨rfl, rfl, rfl, rfl, rfl⟩ rfl rfl rfl rfl rfl (by kernel_rfl) Try.func12 (by kernel_rfl)
    (of_decide_eq_true (by kernel_rfl)) (by unfold Func.isWrapper; first | (rw [if_pos (by decide +kernel)]; kernel_rfl) | (rw [if_neg (by decide +kernel)]; exact ⟨rfl, rfl⟩))
    (fun os started H enc _ => lifted os started H enc)
end RangePieces
theorem fnRangePieces_holds : Rows.FnRangePiecesSaid := RangePieces.over
end Go.Proofs.Ytfbgimchkdffmaa
