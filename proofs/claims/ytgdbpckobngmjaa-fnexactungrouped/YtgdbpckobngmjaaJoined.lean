/-
  impl.joined by its contract. Conditions: at most 120 rows on each hand.
-/
import Derived.Test.YtgdbpckobngmjaaJoinKeys
import Derived.Test.YtgdbpckobngmjaaAppendAny
import Derived.Test.YtgdbpckobngmjaaStepG
import Derived.Test.YtgdbpckobngmjaaPairRead
import Derived.StillTailTactics
import Derived.Deep.RegionHeld3
namespace Go.Proofs.Ytgdbpckobngmjaa
open Go.RowKit
/-- Where a slice goes on from k. -/
def fromA (a : Option Addr) (cap k : Nat) : Option Addr := if cap = k then a else a.map (·.add (k * 3))
theorem Rd.from_ {w : World} {B n k cap : Nat} {a : Option Addr} {rs : List RowV} (h : Rd w B 3 a n (flat rs)) (hk : k ≤ n) (hn : n ≤ cap) : Rd w B 3 (fromA a cap k) (n - k) (flat (rs.drop k)) := by
  have hl : rs.length = n := h.rows_length
  refine ⟨by rw [flat_length, List.length_drop, hl], fun hp => ?_⟩
  obtain ⟨b, off, rfl, hb, hc⟩ := h.2 (by omega)
  refine ⟨b, off + k * 3, ?_, hb, fun j u hu => ?_⟩
  · unfold fromA
    rw [if_neg (by omega)]
    simp [Addr.add_mid]
  · have e : flat rs = flat (rs.take k) ++ flat (rs.drop k) := by rw [← flat_append, List.take_append_drop]
    have := hc (k * 3 + j) u (by
      rw [e, List.getElem?_append_right (by rw [flat_length, List.length_take]; omega), flat_length, List.length_take, show k * 3 + j - min k rs.length * 3 = j by rw [hl, Nat.min_eq_left hk]; omega]
      exact hu)
    rw [Nat.add_assoc]; exact this
theorem Rd.head {w : World} {B n k : Nat} {a : Option Addr} {rs : List RowV} (h : Rd w B 3 a n (flat rs)) (hk : k ≤ n) : Rd w B 3 a k (flat (rs.take k)) := by
  have hl : rs.length = n := h.rows_length
  refine ⟨by rw [flat_length, List.length_take, hl, Nat.min_eq_left hk], fun hp => ?_⟩
  obtain ⟨b, off, rfl, hb, hc⟩ := h.2 (by omega)
  refine ⟨b, off, rfl, hb, fun j u hu => hc j u ?_⟩
  have e : flat rs = flat (rs.take k) ++ flat (rs.drop k) := by rw [← flat_append, List.take_append_drop]
  rw [e, List.getElem?_append_left (List.getElem?_eq_some_iff.1 hu).1]
  exact hu
theorem joinF_enough (k : JK) : ∀ (f g : Nat) (a b : List RowV), a.length + b.length ≤ f → a.length + b.length ≤ g → joinF k f a b = joinF k g a b
  | 0, g, a, b, hf, _ => by rw [joinF_none k 0 (by omega), joinF_none k g (by omega)]
  | f + 1, g, a, b, hf, hg => by
    by_cases h : a.length + b.length = 0
    · rw [joinF_none k _ h, joinF_none k _ h]
    · obtain ⟨g, rfl⟩ : ∃ q, g = q + 1 := ⟨g - 1, by omega⟩
      have hl := join_less h
      rw [joinF_next k f h, joinF_next k g h, joinF_enough k f g _ _ (by omega) (by omega)]
theorem joinL_next (k : JK) {a b : List RowV} (h : a.length + b.length ≠ 0) : joinL k a b = joinStep k a b ++ joinL k (a.drop (leadN (firstK a b) a)) (b.drop (leadN (firstK a b) b)) := by
  have hl := join_less h
  unfold joinL
  obtain ⟨f, hf⟩ : ∃ f, a.length + b.length = f + 1 := ⟨a.length + b.length - 1, by omega⟩
  rw [hf, joinF_next k f h, joinF_enough k f _ _ _ (by omega) (Nat.le_refl _)]
theorem joinL_nil (k : JK) : joinL k [] [] = [] := rfl
set_option maxRecDepth 100000 in
set_option maxHeartbeats 4000000 in
theorem joinedBoth_any (bu bv : Bool) (aa ba : Option Addr) (la ca lb cb : Nat) (a b : List RowV) (w : World) (hla : la ≤ 120) (hlb : lb ≤ 120) (hca : la ≤ ca) (hcb : lb ≤ cb) (hA : Rd w w.heap.size 3 aa la (flat a)) (hB : Rd w w.heap.size 3 ba lb (flat b)) :
    Calls Try.prog 112 #[.slice aa la ca, .slice ba lb cb, .iface 168 (.agg #[.bool bu, .bool bv])] w (PairsOut w (joinL (JK.both bu bv) a b)) := by
  obtain ⟨i0, hi, hz0, hz1, hz2⟩ := info_parts infoPair
  go_enter Try.func112, Try.ntmps112
  go_wp2_with fail
  go_loopw [0, 1, 7] (fun x y v wr => ∃ (xa ya g : Option Addr) (xl xc yl yc q c : Nat) (ra rb : List RowV) (done : List PairV), x = .slice xa xl xc ∧ y = .slice ya yl yc ∧ v = .slice g q c ∧ xl ≤ la ∧ yl ≤ lb ∧ xl ≤ xc ∧ yl ≤ yc ∧ q + 1000000 * (xl + yl) ≤ 1000000 * (la + lb) ∧ Rd wr w.heap.size 3 xa xl (flat ra) ∧ Rd wr w.heap.size 3 ya yl (flat rb) ∧ Hid (done.length = q) ∧ wr.ownsRow w.heap.size 88 5 (.slice g q c) q (flatP done) ∧ Hid (joinL (JK.both bu bv) a b = done ++ joinL (JK.both bu bv) ra rb) ∧ Below w.heap.size w wr) (fun x y _ _ => (match x with | .slice _ n _ => n | _ => 0) + (match y with | .slice _ n _ => n | _ => 0))
  case atStart => exact ⟨_, _, _, _, _, _, _, _, _, _, _, [], rfl, rfl, rfl, Nat.le_refl _, Nat.le_refl _, hca, hcb, by omega, hA, hB, Lib.hid rfl, World.ownsRow_nil _ _ _ _, Lib.hid rfl, Below.refl _ _⟩
  case round =>
    obtain ⟨xa, ya, g, xl, xc, yl, yc, q, c, ra, rb, done, rfl, rfl, rfl, hx1, hy1, hx2, hy2, hq, hX, hY, HQ, hO, HJ, hb⟩ := hrel
    clear hA hB
    by_cases hne : xl = 0 ∧ yl = 0
    · obtain ⟨h0, h1⟩ := hne
      have ra0 : ra = [] := List.eq_nil_of_length_eq_zero (by rw [hX.rows_length]; exact h0)
      have rb0 : rb = [] := List.eq_nil_of_length_eq_zero (by rw [hY.rows_length]; exact h1)
      have E := Lib.hid (show joinL (JK.both bu bv) a b = done by rw [HJ.out, ra0, rb0, joinL_nil, List.append_nil])
      have x0 : decide (0 < (xl : Int)) = false := by simp; omega
      have y0 : decide (0 < (yl : Int)) = false := by simp; omega
      have x1 : decide (0 < xl) = false := by simp; omega
      have y1 : decide (0 < yl) = false := by simp; omega
      clear h0 h1 ra0 rb0 HJ
      go_wp2_with fail
      go_ret
      refine ⟨g, c, ?_, hb, ?_⟩
      · rw [E.out, HQ.out]; rfl
      · rw [E.out, HQ.out]; exact hO
    have hl1 := hX.rows_length
    have hl2 := hY.rows_length
    have hnn : ra.length + rb.length ≠ 0 := by omega
    have HN := Lib.hid (joinL_next (JK.both bu bv) hnn)
    have HF := Lib.hid (first_lead hnn)
    have HS := Lib.hid (joinStep_le (JK.both bu bv) (a := ra) (b := rb) (by omega) (by omega))
    have hws : w.heap.size ≤ wr.heap.size := hb.size
    have CF := firstKey_any xa ya xl xc yl yc ra rb wr (by omega) (by omega) (hX.more hws) (hY.more hws) (by omega)
    have hbool : (decide (0 < (xl : Int)) = true ∧ decide (0 < xl) = true) ∨ (decide (0 < (xl : Int)) = false ∧ decide (0 < xl) = false ∧ decide (0 < (yl : Int)) = true ∧ decide (0 < yl) = true) := by
      rcases Nat.eq_zero_or_pos xl with h | h
      · right; simp; omega
      · left; simp; omega
    have HL1 := Lib.hid hl1
    have HL2 := Lib.hid hl2
    clear hnn hne hl1 hl2
    rcases hbool with ⟨hbl, hbl1⟩ | ⟨hbl, hbl1, hbl2, hbl3⟩
    all_goals
      go_wp2_with fail
      refine CF.mono ?_
      clear CF
      rintro e w1 ⟨key, hkey, rfl, hb1⟩
      have B1 := hb.trans (hb1.mono hws)
      have X1 := hX.below hb1 hws
      have Y1 := hY.below hb1 hws
      have O1 := own_below hO hb1
      have hn1 := leadN_le key ra
      have hm1 := leadN_le key rb
      rw [HL1.out] at hn1
      rw [HL2.out] at hm1
      have s1 : w.heap.size ≤ w1.heap.size := B1.size
      have LA := leadingRows_any xa xl xc ra key w1 (by omega) (X1.more s1)
      have LB := leadingRows_any ya yl yc rb key w1 (by omega) (Y1.more s1)
      have HK := Lib.hid (show joinStep (JK.both bu bv) ra rb = if (JK.both bu bv).ret (decide (0 < leadN key ra)) (decide (0 < leadN key rb)) = true then pairsOfK (JK.both bu bv) key (ra.take (leadN key ra)) (rb.take (leadN key rb)) else [] by rw [hkey]; rfl)
      rw [← hkey] at HN HF
      have HKey := Lib.hid hkey
      clear hkey hb1 hX hY hO hb hbl hbl1
      obtain ⟨n, hn⟩ : ∃ n, leadN key ra = n := ⟨_, rfl⟩
      obtain ⟨m, hm⟩ : ∃ m, leadN key rb = m := ⟨_, rfl⟩
      rw [hn] at LA HN HF HK hn1
      rw [hm] at LB HN HF HK hm1
      have HF2 := HF.out
      clear HF hn hm
      go_wp2_with fail
      refine LA.mono ?_
      rintro e w2 ⟨rfl, rfl⟩
      go_wp2_with fail
      refine LB.mono ?_
      rintro e w2 ⟨rfl, rfl⟩
      clear LA LB
      obtain ⟨p, hp⟩ : ∃ p, decide (0 < n) = p := ⟨_, rfl⟩
      obtain ⟨r, hr⟩ : ∃ r, decide (0 < m) = r := ⟨_, rfl⟩
      have hp2 : decide (0 < (n : Int)) = p := by rw [← hp]; simp
      have hr2 : decide (0 < (m : Int)) = r := by rw [← hr]; simp
      rw [hp, hr] at HK
      have CR := bothReturns_any bu bv p r w1
      go_wp2_with fail
      refine CR.mono ?_
      clear CR
      rintro e w3 ⟨rfl, hb3⟩
      have B3 := B1.trans (hb3.mono s1)
      have O3 := own_below O1 hb3
      have X3 := X1.below hb3 s1
      have Y3 := Y1.below hb3 s1
      have s3 : w.heap.size ≤ w3.heap.size := B3.size
      clear B1 O1 X1 Y1 hb3
      have hn9 : (n : Int) ≤ (xl : Int) := by omega
      have hm9 : (m : Int) ≤ (yl : Int) := by omega
      have hn8 : (n : Int) ≤ (xc : Int) := by omega
      have hm8 : (m : Int) ≤ (yc : Int) := by omega
      have HX4 := Lib.hid (X3.from_ hn1 hx2)
      have HY4 := Lib.hid (Y3.from_ hm1 hy2)
      cases hret : (JK.both bu bv).ret p r
      · have E := Lib.hid (show joinStep (JK.both bu bv) ra rb = [] by rw [HK.out, hret]; rfl)
        have HJ2 := Lib.hid (show joinL (JK.both bu bv) a b = done ++ joinL (JK.both bu bv) (ra.drop n) (rb.drop m) by rw [HJ.out, HN.out, E.out]; rfl)
        clear hret HK HN E HJ hp hr hp2 hr2 HKey
        go_wp2_with fail
        go_quiet (fail)
        have hb4 := B3.trans ((drewN_below w3 nq).mono s3)
        have O4 := own_below O3 (drewN_below w3 nq)
        have X4 := HX4.out.below (drewN_below w3 nq) s3
        have Y4 := HY4.out.below (drewN_below w3 nq) s3
        clear HX4 HY4 X3 Y3 O3 B3
        generalize w3.drewN nq = w4 at *
        go_wp2_with fail
        go_roundw
        case rel => exact ⟨_, _, g, xl - n, xc - n, yl - m, yc - m, q, c, ra.drop n, rb.drop m, done, rfl, rfl, rfl, by omega, by omega, by omega, by omega, by omega, X4, Y4, HQ, O4, HJ2, hb4⟩
        case measure => simp; omega
      · have E := Lib.hid (show joinStep (JK.both bu bv) ra rb = pairsOfK (JK.both bu bv) key (ra.take n) (rb.take m) by rw [HK.out, hret]; rfl)
        have HSl := HS.out
        rw [E.out] at HSl
        have HJ2 := Lib.hid (show joinL (JK.both bu bv) a b = done ++ pairsOfK (JK.both bu bv) key (ra.take n) (rb.take m) ++ joinL (JK.both bu bv) (ra.drop n) (rb.drop m) by rw [HJ.out, HN.out, E.out, List.append_assoc])
        have HXh := Lib.hid ((X3.head hn1).more s3)
        have HYh := Lib.hid ((Y3.head hm1).more s3)
        have HO3 := Lib.hid O3
        have hqm1 : ∀ pl : Nat, pl ≤ 1000000 → q + pl ≤ maxLen := by intro pl h; unfold maxLen; omega
        have hqm2 : ∀ pl : Nat, pl ≤ 1000000 → (q + pl) * 56 ≤ 140737488355328 := by intro pl h; omega
        have HP := Lib.hid HSl
        clear hret HK HN E HJ hp hr hp2 hr2 O3 HKey HSl
        go_wp2_with fail
        have s3' : w.heap.size ≤ w3.drew.heap.size := Nat.le_trans s3 (Below.refl w3.heap.size w3).drew.size
        have HS0 := Lib.hid (show True ∧ Below w.heap.size w w3.drew from ⟨trivial, B3.drew⟩)
        have hd := (Below.refl w3.heap.size w3).drew
        have sd : w3.heap.size ≤ w3.drew.heap.size := hd.size
        have CP := Lib.hid (pairsOfKey_any (JK.both bu bv) key xa ya n xc m yc (ra.take n) (rb.take m) w3.drew (by omega) (by omega) ((HXh.out.below hd (Nat.le_refl _)).more sd) ((HYh.out.below hd (Nat.le_refl _)).more sd))
        have HOd := Lib.hid (own_below HO3.out hd)
        have hp1 := hqm1 _ HP.out
        have hp2 := hqm2 _ HP.out
        have hp3 := HP.out
        clear hd HXh HYh HO3 B3 hqm1 hqm2 HP sd
        generalize pairsOfK (JK.both bu bv) key (ra.take n) (rb.take m) = pl at *
        go_region_held3 (fun w' => True ∧ Below w.heap.size w w') (first | exact HS0.out | exact ⟨trivial, hb6⟩ | exact ⟨trivial, hb'⟩)
          (first
            | (go_at_call 139; refine CP.out.mono ?_; rintro e w5 ⟨pa, pc, rfl, hb5, hO5⟩; have hb' := HS0.out.2.trans (hb5.mono HS0.out.2.size))
            | (refine step_append_g (by rfl) (.tmp 34) (.tmp 43) 70 (by rfl) w.heap.size 88 i0 (.agg #[.string ⟨#[]⟩, .string ⟨#[]⟩, .string ⟨#[]⟩, .bool false, .bool false]) 5 56 Try.underlying70 hi hz0 hz1 hz2 rfl (by decide) (.slice g q c) q (flatP done) (by rfl) (own_below HOd.out hb5) pa _ pl.length pc (flatP pl) (by rfl) (Rd.of_own hO5) (flatP_one _) hp1 hp2 hb'.size ?_; intro v6 w6 hO6 hg6 _; rw [← flatP_append] at hO6; obtain ⟨a6, c6, rfl⟩ := own_slice' hO6; have hb6 := hb'.grown hg6 hb'.size (fun q e => (own_ge HOd.out q e).1)))
        have B6 := hb6
        have hb36 : Below w.heap.size w3 w6 := (Below.refl w.heap.size w3).drew.trans ((hb5.mono s3').grown hg6 (Nat.le_trans s3' hb5.size) (fun q e => (own_ge HOd.out q e).1))
        have HX7 := Lib.hid (HX4.out.below hb36 (Nat.le_refl _))
        have HY7 := Lib.hid (HY4.out.below hb36 (Nat.le_refl _))
        clear hb' hb5 hO5 HOd CP HS0 hp1 hp2 hb36 hg6 HX4 HY4 hb6
        have HQ6 := Lib.hid (show (done ++ pl).length = q + pl.length by rw [List.length_append, HQ.out])
        clear HQ
        go_wp2_with fail
        go_quiet (fail)
        have hb4 := B6.trans ((drewN_below w6 nq).mono B6.size)
        have O4 := own_below hO6 (drewN_below w6 nq)
        have X4 := HX7.out.below (drewN_below w6 nq) B6.size
        have Y4 := HY7.out.below (drewN_below w6 nq) B6.size
        clear HX7 HY7 hO6 B6
        generalize w6.drewN nq = w7 at *
        go_wp2_with fail
        go_roundw
        case rel => exact ⟨_, _, a6, xl - n, xc - n, yl - m, yc - m, q + pl.length, c6, ra.drop n, rb.drop m, done ++ pl, rfl, rfl, rfl, by omega, by omega, by omega, by omega, by omega, X4, Y4, HQ6, O4, HJ2, hb4⟩
        case measure => simp; omega
set_option maxRecDepth 100000 in
set_option maxHeartbeats 4000000 in
theorem joinedKeep_any (bu : Bool) (aa ba : Option Addr) (la ca lb cb : Nat) (a b : List RowV) (w : World) (hla : la ≤ 120) (hlb : lb ≤ 120) (hca : la ≤ ca) (hcb : lb ≤ cb) (hA : Rd w w.heap.size 3 aa la (flat a)) (hB : Rd w w.heap.size 3 ba lb (flat b)) :
    Calls Try.prog 112 #[.slice aa la ca, .slice ba lb cb, .iface 170 (.agg #[.bool bu])] w (PairsOut w (joinL (JK.keep bu) a b)) := by
  obtain ⟨i0, hi, hz0, hz1, hz2⟩ := info_parts infoPair
  go_enter Try.func112, Try.ntmps112
  go_wp2_with fail
  go_loopw [0, 1, 7] (fun x y v wr => ∃ (xa ya g : Option Addr) (xl xc yl yc q c : Nat) (ra rb : List RowV) (done : List PairV), x = .slice xa xl xc ∧ y = .slice ya yl yc ∧ v = .slice g q c ∧ xl ≤ la ∧ yl ≤ lb ∧ xl ≤ xc ∧ yl ≤ yc ∧ q + 1000000 * (xl + yl) ≤ 1000000 * (la + lb) ∧ Rd wr w.heap.size 3 xa xl (flat ra) ∧ Rd wr w.heap.size 3 ya yl (flat rb) ∧ Hid (done.length = q) ∧ wr.ownsRow w.heap.size 88 5 (.slice g q c) q (flatP done) ∧ Hid (joinL (JK.keep bu) a b = done ++ joinL (JK.keep bu) ra rb) ∧ Below w.heap.size w wr) (fun x y _ _ => (match x with | .slice _ n _ => n | _ => 0) + (match y with | .slice _ n _ => n | _ => 0))
  case atStart => exact ⟨_, _, _, _, _, _, _, _, _, _, _, [], rfl, rfl, rfl, Nat.le_refl _, Nat.le_refl _, hca, hcb, by omega, hA, hB, Lib.hid rfl, World.ownsRow_nil _ _ _ _, Lib.hid rfl, Below.refl _ _⟩
  case round =>
    obtain ⟨xa, ya, g, xl, xc, yl, yc, q, c, ra, rb, done, rfl, rfl, rfl, hx1, hy1, hx2, hy2, hq, hX, hY, HQ, hO, HJ, hb⟩ := hrel
    clear hA hB
    by_cases hne : xl = 0 ∧ yl = 0
    · obtain ⟨h0, h1⟩ := hne
      have ra0 : ra = [] := List.eq_nil_of_length_eq_zero (by rw [hX.rows_length]; exact h0)
      have rb0 : rb = [] := List.eq_nil_of_length_eq_zero (by rw [hY.rows_length]; exact h1)
      have E := Lib.hid (show joinL (JK.keep bu) a b = done by rw [HJ.out, ra0, rb0, joinL_nil, List.append_nil])
      have x0 : decide (0 < (xl : Int)) = false := by simp; omega
      have y0 : decide (0 < (yl : Int)) = false := by simp; omega
      have x1 : decide (0 < xl) = false := by simp; omega
      have y1 : decide (0 < yl) = false := by simp; omega
      clear h0 h1 ra0 rb0 HJ
      go_wp2_with fail
      go_ret
      refine ⟨g, c, ?_, hb, ?_⟩
      · rw [E.out, HQ.out]; rfl
      · rw [E.out, HQ.out]; exact hO
    have hl1 := hX.rows_length
    have hl2 := hY.rows_length
    have hnn : ra.length + rb.length ≠ 0 := by omega
    have HN := Lib.hid (joinL_next (JK.keep bu) hnn)
    have HF := Lib.hid (first_lead hnn)
    have HS := Lib.hid (joinStep_le (JK.keep bu) (a := ra) (b := rb) (by omega) (by omega))
    have hws : w.heap.size ≤ wr.heap.size := hb.size
    have CF := firstKey_any xa ya xl xc yl yc ra rb wr (by omega) (by omega) (hX.more hws) (hY.more hws) (by omega)
    have hbool : (decide (0 < (xl : Int)) = true ∧ decide (0 < xl) = true) ∨ (decide (0 < (xl : Int)) = false ∧ decide (0 < xl) = false ∧ decide (0 < (yl : Int)) = true ∧ decide (0 < yl) = true) := by
      rcases Nat.eq_zero_or_pos xl with h | h
      · right; simp; omega
      · left; simp; omega
    have HL1 := Lib.hid hl1
    have HL2 := Lib.hid hl2
    clear hnn hne hl1 hl2
    rcases hbool with ⟨hbl, hbl1⟩ | ⟨hbl, hbl1, hbl2, hbl3⟩
    all_goals
      go_wp2_with fail
      refine CF.mono ?_
      clear CF
      rintro e w1 ⟨key, hkey, rfl, hb1⟩
      have B1 := hb.trans (hb1.mono hws)
      have X1 := hX.below hb1 hws
      have Y1 := hY.below hb1 hws
      have O1 := own_below hO hb1
      have hn1 := leadN_le key ra
      have hm1 := leadN_le key rb
      rw [HL1.out] at hn1
      rw [HL2.out] at hm1
      have s1 : w.heap.size ≤ w1.heap.size := B1.size
      have LA := leadingRows_any xa xl xc ra key w1 (by omega) (X1.more s1)
      have LB := leadingRows_any ya yl yc rb key w1 (by omega) (Y1.more s1)
      have HK := Lib.hid (show joinStep (JK.keep bu) ra rb = if (JK.keep bu).ret (decide (0 < leadN key ra)) (decide (0 < leadN key rb)) = true then pairsOfK (JK.keep bu) key (ra.take (leadN key ra)) (rb.take (leadN key rb)) else [] by rw [hkey]; rfl)
      rw [← hkey] at HN HF
      have HKey := Lib.hid hkey
      clear hkey hb1 hX hY hO hb hbl hbl1
      obtain ⟨n, hn⟩ : ∃ n, leadN key ra = n := ⟨_, rfl⟩
      obtain ⟨m, hm⟩ : ∃ m, leadN key rb = m := ⟨_, rfl⟩
      rw [hn] at LA HN HF HK hn1
      rw [hm] at LB HN HF HK hm1
      have HF2 := HF.out
      clear HF hn hm
      go_wp2_with fail
      refine LA.mono ?_
      rintro e w2 ⟨rfl, rfl⟩
      go_wp2_with fail
      refine LB.mono ?_
      rintro e w2 ⟨rfl, rfl⟩
      clear LA LB
      obtain ⟨p, hp⟩ : ∃ p, decide (0 < n) = p := ⟨_, rfl⟩
      obtain ⟨r, hr⟩ : ∃ r, decide (0 < m) = r := ⟨_, rfl⟩
      have hp2 : decide (0 < (n : Int)) = p := by rw [← hp]; simp
      have hr2 : decide (0 < (m : Int)) = r := by rw [← hr]; simp
      rw [hp, hr] at HK
      have CR := keepReturns_any bu p r w1
      go_wp2_with fail
      refine CR.mono ?_
      clear CR
      rintro e w3 ⟨rfl, hb3⟩
      have B3 := B1.trans (hb3.mono s1)
      have O3 := own_below O1 hb3
      have X3 := X1.below hb3 s1
      have Y3 := Y1.below hb3 s1
      have s3 : w.heap.size ≤ w3.heap.size := B3.size
      clear B1 O1 X1 Y1 hb3
      have hn9 : (n : Int) ≤ (xl : Int) := by omega
      have hm9 : (m : Int) ≤ (yl : Int) := by omega
      have hn8 : (n : Int) ≤ (xc : Int) := by omega
      have hm8 : (m : Int) ≤ (yc : Int) := by omega
      have HX4 := Lib.hid (X3.from_ hn1 hx2)
      have HY4 := Lib.hid (Y3.from_ hm1 hy2)
      cases hret : (JK.keep bu).ret p r
      · have E := Lib.hid (show joinStep (JK.keep bu) ra rb = [] by rw [HK.out, hret]; rfl)
        have HJ2 := Lib.hid (show joinL (JK.keep bu) a b = done ++ joinL (JK.keep bu) (ra.drop n) (rb.drop m) by rw [HJ.out, HN.out, E.out]; rfl)
        clear hret HK HN E HJ hp hr hp2 hr2 HKey
        go_wp2_with fail
        go_quiet (fail)
        have hb4 := B3.trans ((drewN_below w3 nq).mono s3)
        have O4 := own_below O3 (drewN_below w3 nq)
        have X4 := HX4.out.below (drewN_below w3 nq) s3
        have Y4 := HY4.out.below (drewN_below w3 nq) s3
        clear HX4 HY4 X3 Y3 O3 B3
        generalize w3.drewN nq = w4 at *
        go_wp2_with fail
        go_roundw
        case rel => exact ⟨_, _, g, xl - n, xc - n, yl - m, yc - m, q, c, ra.drop n, rb.drop m, done, rfl, rfl, rfl, by omega, by omega, by omega, by omega, by omega, X4, Y4, HQ, O4, HJ2, hb4⟩
        case measure => simp; omega
      · have E := Lib.hid (show joinStep (JK.keep bu) ra rb = pairsOfK (JK.keep bu) key (ra.take n) (rb.take m) by rw [HK.out, hret]; rfl)
        have HSl := HS.out
        rw [E.out] at HSl
        have HJ2 := Lib.hid (show joinL (JK.keep bu) a b = done ++ pairsOfK (JK.keep bu) key (ra.take n) (rb.take m) ++ joinL (JK.keep bu) (ra.drop n) (rb.drop m) by rw [HJ.out, HN.out, E.out, List.append_assoc])
        have HXh := Lib.hid ((X3.head hn1).more s3)
        have HYh := Lib.hid ((Y3.head hm1).more s3)
        have HO3 := Lib.hid O3
        have hqm1 : ∀ pl : Nat, pl ≤ 1000000 → q + pl ≤ maxLen := by intro pl h; unfold maxLen; omega
        have hqm2 : ∀ pl : Nat, pl ≤ 1000000 → (q + pl) * 56 ≤ 140737488355328 := by intro pl h; omega
        have HP := Lib.hid HSl
        clear hret HK HN E HJ hp hr hp2 hr2 O3 HKey HSl
        go_wp2_with fail
        have s3' : w.heap.size ≤ w3.drew.heap.size := Nat.le_trans s3 (Below.refl w3.heap.size w3).drew.size
        have HS0 := Lib.hid (show True ∧ Below w.heap.size w w3.drew from ⟨trivial, B3.drew⟩)
        have hd := (Below.refl w3.heap.size w3).drew
        have sd : w3.heap.size ≤ w3.drew.heap.size := hd.size
        have CP := Lib.hid (pairsOfKey_any (JK.keep bu) key xa ya n xc m yc (ra.take n) (rb.take m) w3.drew (by omega) (by omega) ((HXh.out.below hd (Nat.le_refl _)).more sd) ((HYh.out.below hd (Nat.le_refl _)).more sd))
        have HOd := Lib.hid (own_below HO3.out hd)
        have hp1 := hqm1 _ HP.out
        have hp2 := hqm2 _ HP.out
        have hp3 := HP.out
        clear hd HXh HYh HO3 B3 hqm1 hqm2 HP sd
        generalize pairsOfK (JK.keep bu) key (ra.take n) (rb.take m) = pl at *
        go_region_held3 (fun w' => True ∧ Below w.heap.size w w') (first | exact HS0.out | exact ⟨trivial, hb6⟩ | exact ⟨trivial, hb'⟩)
          (first
            | (go_at_call 139; refine CP.out.mono ?_; rintro e w5 ⟨pa, pc, rfl, hb5, hO5⟩; have hb' := HS0.out.2.trans (hb5.mono HS0.out.2.size))
            | (refine step_append_g (by rfl) (.tmp 34) (.tmp 43) 70 (by rfl) w.heap.size 88 i0 (.agg #[.string ⟨#[]⟩, .string ⟨#[]⟩, .string ⟨#[]⟩, .bool false, .bool false]) 5 56 Try.underlying70 hi hz0 hz1 hz2 rfl (by decide) (.slice g q c) q (flatP done) (by rfl) (own_below HOd.out hb5) pa _ pl.length pc (flatP pl) (by rfl) (Rd.of_own hO5) (flatP_one _) hp1 hp2 hb'.size ?_; intro v6 w6 hO6 hg6 _; rw [← flatP_append] at hO6; obtain ⟨a6, c6, rfl⟩ := own_slice' hO6; have hb6 := hb'.grown hg6 hb'.size (fun q e => (own_ge HOd.out q e).1)))
        have B6 := hb6
        have hb36 : Below w.heap.size w3 w6 := (Below.refl w.heap.size w3).drew.trans ((hb5.mono s3').grown hg6 (Nat.le_trans s3' hb5.size) (fun q e => (own_ge HOd.out q e).1))
        have HX7 := Lib.hid (HX4.out.below hb36 (Nat.le_refl _))
        have HY7 := Lib.hid (HY4.out.below hb36 (Nat.le_refl _))
        clear hb' hb5 hO5 HOd CP HS0 hp1 hp2 hb36 hg6 HX4 HY4 hb6
        have HQ6 := Lib.hid (show (done ++ pl).length = q + pl.length by rw [List.length_append, HQ.out])
        clear HQ
        go_wp2_with fail
        go_quiet (fail)
        have hb4 := B6.trans ((drewN_below w6 nq).mono B6.size)
        have O4 := own_below hO6 (drewN_below w6 nq)
        have X4 := HX7.out.below (drewN_below w6 nq) B6.size
        have Y4 := HY7.out.below (drewN_below w6 nq) B6.size
        clear HX7 HY7 hO6 B6
        generalize w6.drewN nq = w7 at *
        go_wp2_with fail
        go_roundw
        case rel => exact ⟨_, _, a6, xl - n, xc - n, yl - m, yc - m, q + pl.length, c6, ra.drop n, rb.drop m, done ++ pl, rfl, rfl, rfl, by omega, by omega, by omega, by omega, by omega, X4, Y4, HQ6, O4, HJ2, hb4⟩
        case measure => simp; omega
theorem joined_any (k : JK) (aa ba : Option Addr) (la ca lb cb : Nat) (a b : List RowV) (w : World) (hla : la ≤ 120) (hlb : lb ≤ 120) (hca : la ≤ ca) (hcb : lb ≤ cb) (hA : Rd w w.heap.size 3 aa la (flat a)) (hB : Rd w w.heap.size 3 ba lb (flat b)) :
    Calls Try.prog 112 #[.slice aa la ca, .slice ba lb cb, k.val] w (PairsOut w (joinL k a b)) := by
  cases k with
  | both x y => exact joinedBoth_any x y aa ba la ca lb cb a b w hla hlb hca hcb hA hB
  | keep x => exact joinedKeep_any x aa ba la ca lb cb a b w hla hlb hca hcb hA hB
end Go.Proofs.Ytgdbpckobngmjaa
