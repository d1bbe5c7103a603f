/-
  impl.JoinOf, spec.JoinOf, impl.MergeJoin and spec.MergeJoin by their contracts. Conditions: those of each statement.
-/
import Derived.Test.YtgdbpckobngmjaaCutsFns
import Derived.Test.YtgdbpckobngmjaaJoinKeys
import Derived.Test.YtgdbpckobngmjaaAppendAny
import Derived.Test.YtgdbpckobngmjaaStepG
import Derived.Test.YtgdbpckobngmjaaPairRead
import Derived.StillTailTactics
import Derived.Deep.RegionHeld3
import Derived.Maps.AppendAt
import Derived.Test.YtgdbpckobngmjaaRdIn
import Derived.Test.YtgdbpckobngmjaaStepOne
import Derived.Test.YtgdbpckobngmjaaSortedOkFns
import Derived.Test.YtgdbpckobngmjaaSortedList
namespace Go.Proofs.Ytgdbpckobngmjaa
open Go.RowKit

theorem infoStr : (Try.prog.info? 9).map (fun i => (i.zero, i.size, i.bytes)) = some (some (.string ⟨#[]⟩), 1, 16) := by kernel_rfl
theorem strC_take_succ {ss : List ByteArray} {k : Nat} {s : ByteArray} (h : ss[k]? = some s) : strC (ss.take (k + 1)) = strC (ss.take k) ++ [.string s] := by
  have hk := (List.getElem?_eq_some_iff.1 h).1
  have e : ss[k] = s := by rw [List.getElem?_eq_getElem hk] at h; injection h
  unfold strC
  rw [List.take_succ_eq_append_getElem hk, List.map_append, e]; rfl
theorem take_set1 {xs A : List Value} {k : Nat} (a : Value) (h : xs.take k = A) (hl : k < xs.length) : (xs.set k a).take (k + 1) = A ++ [a] := by
  subst h
  rw [List.take_succ_eq_append_getElem (by simpa using hl), List.take_set_of_le (Nat.le_refl _)]
  simp
set_option maxRecDepth 100000 in
set_option maxHeartbeats 1000000 in
theorem eqStringS_same (a b : Option Addr) (n ca cb : Nat) (ss : List ByteArray) (w : World) (hm : n ≤ 1048576) (hA : Rd w w.heap.size 1 a n (strC ss)) (hB : Rd w w.heap.size 1 b n (strC ss)) :
    Calls Try.prog 137 #[.slice a n ca, .slice b n cb] w fun e w' => e = .returned (.bool true) ∧ Below w.heap.size w w' := by
  go_enter Try.func137, Try.ntmps137
  go_wp2
  go_loopw [5] (fun i wr => ∃ k : Nat, k ≤ n ∧ i = .int .i64 k ∧ Below w.heap.size w wr) (fun i _ => n - (intOf i).toNat)
  case atStart => exact ⟨0, Nat.zero_le _, rfl, Below.refl _ _⟩
  case round =>
    obtain ⟨k, hk, rfl, hb⟩ := hrel
    by_cases hlt : k < n
    · obtain ⟨b1, o1, s, rfl, hB1, hs, c0⟩ := (hA.below hb (Nat.le_refl _)).str hlt
      obtain ⟨b2, o2, s', rfl, hB2, hs', d0⟩ := (hB.below hb (Nat.le_refl _)).str hlt
      obtain rfl : s = s' := by rw [hs] at hs'; injection hs'
      clear hs hs'
      go_wp2_with fail
      go_quiet (fail)
      go_wp2
      go_roundw
      case rel => exact ⟨k + 1, by omega, by go_num, below_drewN hb _⟩
      case measure => simp [intOf]; omega
    · go_wp2_with fail
      go_ret
      exact ⟨rfl, hb⟩
end Go.Proofs.Ytgdbpckobngmjaa

namespace Go.Proofs.Ytgdbpckobngmjaa
open Go.RowKit
/-- Where a slice goes on from k. -/
def fromA (a : Option Addr) (cap k : Nat) : Option Addr := if cap = k then a else a.map (·.add (k * 3))
theorem Rd.from_ {w : World} {B n k cap : Nat} {a : Option Addr} {rs : List RowV} (h : Rd w B 3 a n (flat rs)) (hk : k ≤ n) (hn : n ≤ cap) : Rd w B 3 (fromA a cap k) (n - k) (flat (rs.drop k)) := by
  have hl : rs.length = n := h.rows_length
  refine ⟨by rw [flat_length, List.length_drop, hl], fun hp => ?_⟩
  obtain ⟨b, off, rfl, hb, hc⟩ := h.2 (by omega)
  refine ⟨b, off + k * 3, ?_, hb, fun j u hu => ?_⟩
  · unfold fromA
    rw [if_neg (by omega)]
    simp [Addr.add_mid]
  · have e : flat rs = flat (rs.take k) ++ flat (rs.drop k) := by rw [← flat_append, List.take_append_drop]
    have := hc (k * 3 + j) u (by
      rw [e, List.getElem?_append_right (by rw [flat_length, List.length_take]; omega), flat_length, List.length_take, show k * 3 + j - min k rs.length * 3 = j by rw [hl, Nat.min_eq_left hk]; omega]
      exact hu)
    rw [Nat.add_assoc]; exact this
theorem Rd.head {w : World} {B n k : Nat} {a : Option Addr} {rs : List RowV} (h : Rd w B 3 a n (flat rs)) (hk : k ≤ n) : Rd w B 3 a k (flat (rs.take k)) := by
  have hl : rs.length = n := h.rows_length
  refine ⟨by rw [flat_length, List.length_take, hl, Nat.min_eq_left hk], fun hp => ?_⟩
  obtain ⟨b, off, rfl, hb, hc⟩ := h.2 (by omega)
  refine ⟨b, off, rfl, hb, fun j u hu => hc j u ?_⟩
  have e : flat rs = flat (rs.take k) ++ flat (rs.drop k) := by rw [← flat_append, List.take_append_drop]
  rw [e, List.getElem?_append_left (List.getElem?_eq_some_iff.1 hu).1]
  exact hu
theorem joinF_enough (k : JK) : ∀ (f g : Nat) (a b : List RowV), a.length + b.length ≤ f → a.length + b.length ≤ g → joinF k f a b = joinF k g a b
  | 0, g, a, b, hf, _ => by rw [joinF_none k 0 (by omega), joinF_none k g (by omega)]
  | f + 1, g, a, b, hf, hg => by
    by_cases h : a.length + b.length = 0
    · rw [joinF_none k _ h, joinF_none k _ h]
    · obtain ⟨g, rfl⟩ : ∃ q, g = q + 1 := ⟨g - 1, by omega⟩
      have hl := join_less h
      rw [joinF_next k f h, joinF_next k g h, joinF_enough k f g _ _ (by omega) (by omega)]
theorem joinL_next (k : JK) {a b : List RowV} (h : a.length + b.length ≠ 0) : joinL k a b = joinStep k a b ++ joinL k (a.drop (leadN (firstK a b) a)) (b.drop (leadN (firstK a b) b)) := by
  have hl := join_less h
  unfold joinL
  obtain ⟨f, hf⟩ : ∃ f, a.length + b.length = f + 1 := ⟨a.length + b.length - 1, by omega⟩
  rw [hf, joinF_next k f h, joinF_enough k f _ _ _ (by omega) (Nat.le_refl _)]
theorem joinL_nil (k : JK) : joinL k [] [] = [] := rfl
set_option maxRecDepth 100000 in
set_option maxHeartbeats 4000000 in
theorem joinedBoth_any (bu bv : Bool) (aa ba : Option Addr) (la ca lb cb : Nat) (a b : List RowV) (w : World) (hla : la ≤ 120) (hlb : lb ≤ 120) (hca : la ≤ ca) (hcb : lb ≤ cb) (hA : Rd w w.heap.size 3 aa la (flat a)) (hB : Rd w w.heap.size 3 ba lb (flat b)) :
    Calls Try.prog 112 #[.slice aa la ca, .slice ba lb cb, .iface 168 (.agg #[.bool bu, .bool bv])] w (PairsOut w (joinL (JK.both bu bv) a b)) := by
  obtain ⟨i0, hi, hz0, hz1, hz2⟩ := info_parts infoPair
  go_enter Try.func112, Try.ntmps112
  go_wp2_with fail
  go_loopw [0, 1, 7] (fun x y v wr => ∃ (xa ya g : Option Addr) (xl xc yl yc q c : Nat) (ra rb : List RowV) (done : List PairV), x = .slice xa xl xc ∧ y = .slice ya yl yc ∧ v = .slice g q c ∧ xl ≤ la ∧ yl ≤ lb ∧ xl ≤ xc ∧ yl ≤ yc ∧ q + 1000000 * (xl + yl) ≤ 1000000 * (la + lb) ∧ Rd wr w.heap.size 3 xa xl (flat ra) ∧ Rd wr w.heap.size 3 ya yl (flat rb) ∧ Hid (done.length = q) ∧ wr.ownsRow w.heap.size 88 5 (.slice g q c) q (flatP done) ∧ Hid (joinL (JK.both bu bv) a b = done ++ joinL (JK.both bu bv) ra rb) ∧ Below w.heap.size w wr) (fun x y _ _ => (match x with | .slice _ n _ => n | _ => 0) + (match y with | .slice _ n _ => n | _ => 0))
  case atStart => exact ⟨_, _, _, _, _, _, _, _, _, _, _, [], rfl, rfl, rfl, Nat.le_refl _, Nat.le_refl _, hca, hcb, by omega, hA, hB, Lib.hid rfl, World.ownsRow_nil _ _ _ _, Lib.hid rfl, Below.refl _ _⟩
  case round =>
    obtain ⟨xa, ya, g, xl, xc, yl, yc, q, c, ra, rb, done, rfl, rfl, rfl, hx1, hy1, hx2, hy2, hq, hX, hY, HQ, hO, HJ, hb⟩ := hrel
    clear hA hB
    by_cases hne : xl = 0 ∧ yl = 0
    · obtain ⟨h0, h1⟩ := hne
      have ra0 : ra = [] := List.eq_nil_of_length_eq_zero (by rw [hX.rows_length]; exact h0)
      have rb0 : rb = [] := List.eq_nil_of_length_eq_zero (by rw [hY.rows_length]; exact h1)
      have E := Lib.hid (show joinL (JK.both bu bv) a b = done by rw [HJ.out, ra0, rb0, joinL_nil, List.append_nil])
      have x0 : decide (0 < (xl : Int)) = false := by simp; omega
      have y0 : decide (0 < (yl : Int)) = false := by simp; omega
      have x1 : decide (0 < xl) = false := by simp; omega
      have y1 : decide (0 < yl) = false := by simp; omega
      clear h0 h1 ra0 rb0 HJ
      go_wp2_with fail
      go_ret
      refine ⟨g, c, ?_, hb, ?_⟩
      · rw [E.out, HQ.out]; rfl
      · rw [E.out, HQ.out]; exact hO
    have hl1 := hX.rows_length
    have hl2 := hY.rows_length
    have hnn : ra.length + rb.length ≠ 0 := by omega
    have HN := Lib.hid (joinL_next (JK.both bu bv) hnn)
    have HF := Lib.hid (first_lead hnn)
    have HS := Lib.hid (joinStep_le (JK.both bu bv) (a := ra) (b := rb) (by omega) (by omega))
    have hws : w.heap.size ≤ wr.heap.size := hb.size
    have CF := firstKey_any xa ya xl xc yl yc ra rb wr (by omega) (by omega) (hX.more hws) (hY.more hws) (by omega)
    have hbool : (decide (0 < (xl : Int)) = true ∧ decide (0 < xl) = true) ∨ (decide (0 < (xl : Int)) = false ∧ decide (0 < xl) = false ∧ decide (0 < (yl : Int)) = true ∧ decide (0 < yl) = true) := by
      rcases Nat.eq_zero_or_pos xl with h | h
      · right; simp; omega
      · left; simp; omega
    have HL1 := Lib.hid hl1
    have HL2 := Lib.hid hl2
    clear hnn hne hl1 hl2
    rcases hbool with ⟨hbl, hbl1⟩ | ⟨hbl, hbl1, hbl2, hbl3⟩
    all_goals
      go_wp2_with fail
      refine CF.mono ?_
      clear CF
      rintro e w1 ⟨key, hkey, rfl, hb1⟩
      have B1 := hb.trans (hb1.mono hws)
      have X1 := hX.below hb1 hws
      have Y1 := hY.below hb1 hws
      have O1 := own_below hO hb1
      have hn1 := leadN_le key ra
      have hm1 := leadN_le key rb
      rw [HL1.out] at hn1
      rw [HL2.out] at hm1
      have s1 : w.heap.size ≤ w1.heap.size := B1.size
      have LA := leadingRows_any xa xl xc ra key w1 (by omega) (X1.more s1)
      have LB := leadingRows_any ya yl yc rb key w1 (by omega) (Y1.more s1)
      have HK := Lib.hid (show joinStep (JK.both bu bv) ra rb = if (JK.both bu bv).ret (decide (0 < leadN key ra)) (decide (0 < leadN key rb)) = true then pairsOfK (JK.both bu bv) key (ra.take (leadN key ra)) (rb.take (leadN key rb)) else [] by rw [hkey]; rfl)
      rw [← hkey] at HN HF
      have HKey := Lib.hid hkey
      clear hkey hb1 hX hY hO hb hbl hbl1
      obtain ⟨n, hn⟩ : ∃ n, leadN key ra = n := ⟨_, rfl⟩
      obtain ⟨m, hm⟩ : ∃ m, leadN key rb = m := ⟨_, rfl⟩
      rw [hn] at LA HN HF HK hn1
      rw [hm] at LB HN HF HK hm1
      have HF2 := HF.out
      clear HF hn hm
      go_wp2_with fail
      refine LA.mono ?_
      rintro e w2 ⟨rfl, rfl⟩
      go_wp2_with fail
      refine LB.mono ?_
      rintro e w2 ⟨rfl, rfl⟩
      clear LA LB
      obtain ⟨p, hp⟩ : ∃ p, decide (0 < n) = p := ⟨_, rfl⟩
      obtain ⟨r, hr⟩ : ∃ r, decide (0 < m) = r := ⟨_, rfl⟩
      have hp2 : decide (0 < (n : Int)) = p := by rw [← hp]; simp
      have hr2 : decide (0 < (m : Int)) = r := by rw [← hr]; simp
      rw [hp, hr] at HK
      have CR := bothReturns_any bu bv p r w1
      go_wp2_with fail
      refine CR.mono ?_
      clear CR
      rintro e w3 ⟨rfl, hb3⟩
      have B3 := B1.trans (hb3.mono s1)
      have O3 := own_below O1 hb3
      have X3 := X1.below hb3 s1
      have Y3 := Y1.below hb3 s1
      have s3 : w.heap.size ≤ w3.heap.size := B3.size
      clear B1 O1 X1 Y1 hb3
      have hn9 : (n : Int) ≤ (xl : Int) := by omega
      have hm9 : (m : Int) ≤ (yl : Int) := by omega
      have hn8 : (n : Int) ≤ (xc : Int) := by omega
      have hm8 : (m : Int) ≤ (yc : Int) := by omega
      have HX4 := Lib.hid (X3.from_ hn1 hx2)
      have HY4 := Lib.hid (Y3.from_ hm1 hy2)
      cases hret : (JK.both bu bv).ret p r
      · have E := Lib.hid (show joinStep (JK.both bu bv) ra rb = [] by rw [HK.out, hret]; rfl)
        have HJ2 := Lib.hid (show joinL (JK.both bu bv) a b = done ++ joinL (JK.both bu bv) (ra.drop n) (rb.drop m) by rw [HJ.out, HN.out, E.out]; rfl)
        clear hret HK HN E HJ hp hr hp2 hr2 HKey
        go_wp2_with fail
        go_quiet (fail)
        have hb4 := B3.trans ((drewN_below w3 nq).mono s3)
        have O4 := own_below O3 (drewN_below w3 nq)
        have X4 := HX4.out.below (drewN_below w3 nq) s3
        have Y4 := HY4.out.below (drewN_below w3 nq) s3
        clear HX4 HY4 X3 Y3 O3 B3
        generalize w3.drewN nq = w4 at *
        go_wp2_with fail
        go_roundw
        case rel => exact ⟨_, _, g, xl - n, xc - n, yl - m, yc - m, q, c, ra.drop n, rb.drop m, done, rfl, rfl, rfl, by omega, by omega, by omega, by omega, by omega, X4, Y4, HQ, O4, HJ2, hb4⟩
        case measure => simp; omega
      · have E := Lib.hid (show joinStep (JK.both bu bv) ra rb = pairsOfK (JK.both bu bv) key (ra.take n) (rb.take m) by rw [HK.out, hret]; rfl)
        have HSl := HS.out
        rw [E.out] at HSl
        have HJ2 := Lib.hid (show joinL (JK.both bu bv) a b = done ++ pairsOfK (JK.both bu bv) key (ra.take n) (rb.take m) ++ joinL (JK.both bu bv) (ra.drop n) (rb.drop m) by rw [HJ.out, HN.out, E.out, List.append_assoc])
        have HXh := Lib.hid ((X3.head hn1).more s3)
        have HYh := Lib.hid ((Y3.head hm1).more s3)
        have HO3 := Lib.hid O3
        have hqm1 : ∀ pl : Nat, pl ≤ 1000000 → q + pl ≤ maxLen := by intro pl h; unfold maxLen; omega
        have hqm2 : ∀ pl : Nat, pl ≤ 1000000 → (q + pl) * 56 ≤ 140737488355328 := by intro pl h; omega
        have HP := Lib.hid HSl
        clear hret HK HN E HJ hp hr hp2 hr2 O3 HKey HSl
        go_wp2_with fail
        have s3' : w.heap.size ≤ w3.drew.heap.size := Nat.le_trans s3 (Below.refl w3.heap.size w3).drew.size
        have HS0 := Lib.hid (show True ∧ Below w.heap.size w w3.drew from ⟨trivial, B3.drew⟩)
        have hd := (Below.refl w3.heap.size w3).drew
        have sd : w3.heap.size ≤ w3.drew.heap.size := hd.size
        have CP := Lib.hid (pairsOfKey_any (JK.both bu bv) key xa ya n xc m yc (ra.take n) (rb.take m) w3.drew (by omega) (by omega) ((HXh.out.below hd (Nat.le_refl _)).more sd) ((HYh.out.below hd (Nat.le_refl _)).more sd))
        have HOd := Lib.hid (own_below HO3.out hd)
        have hp1 := hqm1 _ HP.out
        have hp2 := hqm2 _ HP.out
        have hp3 := HP.out
        clear hd HXh HYh HO3 B3 hqm1 hqm2 HP sd
        generalize pairsOfK (JK.both bu bv) key (ra.take n) (rb.take m) = pl at *
        go_region_held3 (fun w' => True ∧ Below w.heap.size w w') (first | exact HS0.out | exact ⟨trivial, hb6⟩ | exact ⟨trivial, hb'⟩)
          (first
            | (go_at_call 139; refine CP.out.mono ?_; rintro e w5 ⟨pa, pc, rfl, hb5, hO5⟩; have hb' := HS0.out.2.trans (hb5.mono HS0.out.2.size))
            | (refine step_append_g (by rfl) (.tmp 34) (.tmp 43) 70 (by rfl) w.heap.size 88 i0 (.agg #[.string ⟨#[]⟩, .string ⟨#[]⟩, .string ⟨#[]⟩, .bool false, .bool false]) 5 56 Try.underlying70 hi hz0 hz1 hz2 rfl (by decide) (.slice g q c) q (flatP done) (by rfl) (own_below HOd.out hb5) pa _ pl.length pc (flatP pl) (by rfl) (Rd.of_own hO5) (flatP_one _) hp1 hp2 hb'.size ?_; intro v6 w6 hO6 hg6 _; rw [← flatP_append] at hO6; obtain ⟨a6, c6, rfl⟩ := own_slice' hO6; have hb6 := hb'.grown hg6 hb'.size (fun q e => (own_ge HOd.out q e).1)))
        have B6 := hb6
        have hb36 : Below w.heap.size w3 w6 := (Below.refl w.heap.size w3).drew.trans ((hb5.mono s3').grown hg6 (Nat.le_trans s3' hb5.size) (fun q e => (own_ge HOd.out q e).1))
        have HX7 := Lib.hid (HX4.out.below hb36 (Nat.le_refl _))
        have HY7 := Lib.hid (HY4.out.below hb36 (Nat.le_refl _))
        clear hb' hb5 hO5 HOd CP HS0 hp1 hp2 hb36 hg6 HX4 HY4 hb6
        have HQ6 := Lib.hid (show (done ++ pl).length = q + pl.length by rw [List.length_append, HQ.out])
        clear HQ
        go_wp2_with fail
        go_quiet (fail)
        have hb4 := B6.trans ((drewN_below w6 nq).mono B6.size)
        have O4 := own_below hO6 (drewN_below w6 nq)
        have X4 := HX7.out.below (drewN_below w6 nq) B6.size
        have Y4 := HY7.out.below (drewN_below w6 nq) B6.size
        clear HX7 HY7 hO6 B6
        generalize w6.drewN nq = w7 at *
        go_wp2_with fail
        go_roundw
        case rel => exact ⟨_, _, a6, xl - n, xc - n, yl - m, yc - m, q + pl.length, c6, ra.drop n, rb.drop m, done ++ pl, rfl, rfl, rfl, by omega, by omega, by omega, by omega, by omega, X4, Y4, HQ6, O4, HJ2, hb4⟩
        case measure => simp; omega
set_option maxRecDepth 100000 in
set_option maxHeartbeats 4000000 in
theorem joinedKeep_any (bu : Bool) (aa ba : Option Addr) (la ca lb cb : Nat) (a b : List RowV) (w : World) (hla : la ≤ 120) (hlb : lb ≤ 120) (hca : la ≤ ca) (hcb : lb ≤ cb) (hA : Rd w w.heap.size 3 aa la (flat a)) (hB : Rd w w.heap.size 3 ba lb (flat b)) :
    Calls Try.prog 112 #[.slice aa la ca, .slice ba lb cb, .iface 170 (.agg #[.bool bu])] w (PairsOut w (joinL (JK.keep bu) a b)) := by
  obtain ⟨i0, hi, hz0, hz1, hz2⟩ := info_parts infoPair
  go_enter Try.func112, Try.ntmps112
  go_wp2_with fail
  go_loopw [0, 1, 7] (fun x y v wr => ∃ (xa ya g : Option Addr) (xl xc yl yc q c : Nat) (ra rb : List RowV) (done : List PairV), x = .slice xa xl xc ∧ y = .slice ya yl yc ∧ v = .slice g q c ∧ xl ≤ la ∧ yl ≤ lb ∧ xl ≤ xc ∧ yl ≤ yc ∧ q + 1000000 * (xl + yl) ≤ 1000000 * (la + lb) ∧ Rd wr w.heap.size 3 xa xl (flat ra) ∧ Rd wr w.heap.size 3 ya yl (flat rb) ∧ Hid (done.length = q) ∧ wr.ownsRow w.heap.size 88 5 (.slice g q c) q (flatP done) ∧ Hid (joinL (JK.keep bu) a b = done ++ joinL (JK.keep bu) ra rb) ∧ Below w.heap.size w wr) (fun x y _ _ => (match x with | .slice _ n _ => n | _ => 0) + (match y with | .slice _ n _ => n | _ => 0))
  case atStart => exact ⟨_, _, _, _, _, _, _, _, _, _, _, [], rfl, rfl, rfl, Nat.le_refl _, Nat.le_refl _, hca, hcb, by omega, hA, hB, Lib.hid rfl, World.ownsRow_nil _ _ _ _, Lib.hid rfl, Below.refl _ _⟩
  case round =>
    obtain ⟨xa, ya, g, xl, xc, yl, yc, q, c, ra, rb, done, rfl, rfl, rfl, hx1, hy1, hx2, hy2, hq, hX, hY, HQ, hO, HJ, hb⟩ := hrel
    clear hA hB
    by_cases hne : xl = 0 ∧ yl = 0
    · obtain ⟨h0, h1⟩ := hne
      have ra0 : ra = [] := List.eq_nil_of_length_eq_zero (by rw [hX.rows_length]; exact h0)
      have rb0 : rb = [] := List.eq_nil_of_length_eq_zero (by rw [hY.rows_length]; exact h1)
      have E := Lib.hid (show joinL (JK.keep bu) a b = done by rw [HJ.out, ra0, rb0, joinL_nil, List.append_nil])
      have x0 : decide (0 < (xl : Int)) = false := by simp; omega
      have y0 : decide (0 < (yl : Int)) = false := by simp; omega
      have x1 : decide (0 < xl) = false := by simp; omega
      have y1 : decide (0 < yl) = false := by simp; omega
      clear h0 h1 ra0 rb0 HJ
      go_wp2_with fail
      go_ret
      refine ⟨g, c, ?_, hb, ?_⟩
      · rw [E.out, HQ.out]; rfl
      · rw [E.out, HQ.out]; exact hO
    have hl1 := hX.rows_length
    have hl2 := hY.rows_length
    have hnn : ra.length + rb.length ≠ 0 := by omega
    have HN := Lib.hid (joinL_next (JK.keep bu) hnn)
    have HF := Lib.hid (first_lead hnn)
    have HS := Lib.hid (joinStep_le (JK.keep bu) (a := ra) (b := rb) (by omega) (by omega))
    have hws : w.heap.size ≤ wr.heap.size := hb.size
    have CF := firstKey_any xa ya xl xc yl yc ra rb wr (by omega) (by omega) (hX.more hws) (hY.more hws) (by omega)
    have hbool : (decide (0 < (xl : Int)) = true ∧ decide (0 < xl) = true) ∨ (decide (0 < (xl : Int)) = false ∧ decide (0 < xl) = false ∧ decide (0 < (yl : Int)) = true ∧ decide (0 < yl) = true) := by
      rcases Nat.eq_zero_or_pos xl with h | h
      · right; simp; omega
      · left; simp; omega
    have HL1 := Lib.hid hl1
    have HL2 := Lib.hid hl2
    clear hnn hne hl1 hl2
    rcases hbool with ⟨hbl, hbl1⟩ | ⟨hbl, hbl1, hbl2, hbl3⟩
    all_goals
      go_wp2_with fail
      refine CF.mono ?_
      clear CF
      rintro e w1 ⟨key, hkey, rfl, hb1⟩
      have B1 := hb.trans (hb1.mono hws)
      have X1 := hX.below hb1 hws
      have Y1 := hY.below hb1 hws
      have O1 := own_below hO hb1
      have hn1 := leadN_le key ra
      have hm1 := leadN_le key rb
      rw [HL1.out] at hn1
      rw [HL2.out] at hm1
      have s1 : w.heap.size ≤ w1.heap.size := B1.size
      have LA := leadingRows_any xa xl xc ra key w1 (by omega) (X1.more s1)
      have LB := leadingRows_any ya yl yc rb key w1 (by omega) (Y1.more s1)
      have HK := Lib.hid (show joinStep (JK.keep bu) ra rb = if (JK.keep bu).ret (decide (0 < leadN key ra)) (decide (0 < leadN key rb)) = true then pairsOfK (JK.keep bu) key (ra.take (leadN key ra)) (rb.take (leadN key rb)) else [] by rw [hkey]; rfl)
      rw [← hkey] at HN HF
      have HKey := Lib.hid hkey
      clear hkey hb1 hX hY hO hb hbl hbl1
      obtain ⟨n, hn⟩ : ∃ n, leadN key ra = n := ⟨_, rfl⟩
      obtain ⟨m, hm⟩ : ∃ m, leadN key rb = m := ⟨_, rfl⟩
      rw [hn] at LA HN HF HK hn1
      rw [hm] at LB HN HF HK hm1
      have HF2 := HF.out
      clear HF hn hm
      go_wp2_with fail
      refine LA.mono ?_
      rintro e w2 ⟨rfl, rfl⟩
      go_wp2_with fail
      refine LB.mono ?_
      rintro e w2 ⟨rfl, rfl⟩
      clear LA LB
      obtain ⟨p, hp⟩ : ∃ p, decide (0 < n) = p := ⟨_, rfl⟩
      obtain ⟨r, hr⟩ : ∃ r, decide (0 < m) = r := ⟨_, rfl⟩
      have hp2 : decide (0 < (n : Int)) = p := by rw [← hp]; simp
      have hr2 : decide (0 < (m : Int)) = r := by rw [← hr]; simp
      rw [hp, hr] at HK
      have CR := keepReturns_any bu p r w1
      go_wp2_with fail
      refine CR.mono ?_
      clear CR
      rintro e w3 ⟨rfl, hb3⟩
      have B3 := B1.trans (hb3.mono s1)
      have O3 := own_below O1 hb3
      have X3 := X1.below hb3 s1
      have Y3 := Y1.below hb3 s1
      have s3 : w.heap.size ≤ w3.heap.size := B3.size
      clear B1 O1 X1 Y1 hb3
      have hn9 : (n : Int) ≤ (xl : Int) := by omega
      have hm9 : (m : Int) ≤ (yl : Int) := by omega
      have hn8 : (n : Int) ≤ (xc : Int) := by omega
      have hm8 : (m : Int) ≤ (yc : Int) := by omega
      have HX4 := Lib.hid (X3.from_ hn1 hx2)
      have HY4 := Lib.hid (Y3.from_ hm1 hy2)
      cases hret : (JK.keep bu).ret p r
      · have E := Lib.hid (show joinStep (JK.keep bu) ra rb = [] by rw [HK.out, hret]; rfl)
        have HJ2 := Lib.hid (show joinL (JK.keep bu) a b = done ++ joinL (JK.keep bu) (ra.drop n) (rb.drop m) by rw [HJ.out, HN.out, E.out]; rfl)
        clear hret HK HN E HJ hp hr hp2 hr2 HKey
        go_wp2_with fail
        go_quiet (fail)
        have hb4 := B3.trans ((drewN_below w3 nq).mono s3)
        have O4 := own_below O3 (drewN_below w3 nq)
        have X4 := HX4.out.below (drewN_below w3 nq) s3
        have Y4 := HY4.out.below (drewN_below w3 nq) s3
        clear HX4 HY4 X3 Y3 O3 B3
        generalize w3.drewN nq = w4 at *
        go_wp2_with fail
        go_roundw
        case rel => exact ⟨_, _, g, xl - n, xc - n, yl - m, yc - m, q, c, ra.drop n, rb.drop m, done, rfl, rfl, rfl, by omega, by omega, by omega, by omega, by omega, X4, Y4, HQ, O4, HJ2, hb4⟩
        case measure => simp; omega
      · have E := Lib.hid (show joinStep (JK.keep bu) ra rb = pairsOfK (JK.keep bu) key (ra.take n) (rb.take m) by rw [HK.out, hret]; rfl)
        have HSl := HS.out
        rw [E.out] at HSl
        have HJ2 := Lib.hid (show joinL (JK.keep bu) a b = done ++ pairsOfK (JK.keep bu) key (ra.take n) (rb.take m) ++ joinL (JK.keep bu) (ra.drop n) (rb.drop m) by rw [HJ.out, HN.out, E.out, List.append_assoc])
        have HXh := Lib.hid ((X3.head hn1).more s3)
        have HYh := Lib.hid ((Y3.head hm1).more s3)
        have HO3 := Lib.hid O3
        have hqm1 : ∀ pl : Nat, pl ≤ 1000000 → q + pl ≤ maxLen := by intro pl h; unfold maxLen; omega
        have hqm2 : ∀ pl : Nat, pl ≤ 1000000 → (q + pl) * 56 ≤ 140737488355328 := by intro pl h; omega
        have HP := Lib.hid HSl
        clear hret HK HN E HJ hp hr hp2 hr2 O3 HKey HSl
        go_wp2_with fail
        have s3' : w.heap.size ≤ w3.drew.heap.size := Nat.le_trans s3 (Below.refl w3.heap.size w3).drew.size
        have HS0 := Lib.hid (show True ∧ Below w.heap.size w w3.drew from ⟨trivial, B3.drew⟩)
        have hd := (Below.refl w3.heap.size w3).drew
        have sd : w3.heap.size ≤ w3.drew.heap.size := hd.size
        have CP := Lib.hid (pairsOfKey_any (JK.keep bu) key xa ya n xc m yc (ra.take n) (rb.take m) w3.drew (by omega) (by omega) ((HXh.out.below hd (Nat.le_refl _)).more sd) ((HYh.out.below hd (Nat.le_refl _)).more sd))
        have HOd := Lib.hid (own_below HO3.out hd)
        have hp1 := hqm1 _ HP.out
        have hp2 := hqm2 _ HP.out
        have hp3 := HP.out
        clear hd HXh HYh HO3 B3 hqm1 hqm2 HP sd
        generalize pairsOfK (JK.keep bu) key (ra.take n) (rb.take m) = pl at *
        go_region_held3 (fun w' => True ∧ Below w.heap.size w w') (first | exact HS0.out | exact ⟨trivial, hb6⟩ | exact ⟨trivial, hb'⟩)
          (first
            | (go_at_call 139; refine CP.out.mono ?_; rintro e w5 ⟨pa, pc, rfl, hb5, hO5⟩; have hb' := HS0.out.2.trans (hb5.mono HS0.out.2.size))
            | (refine step_append_g (by rfl) (.tmp 34) (.tmp 43) 70 (by rfl) w.heap.size 88 i0 (.agg #[.string ⟨#[]⟩, .string ⟨#[]⟩, .string ⟨#[]⟩, .bool false, .bool false]) 5 56 Try.underlying70 hi hz0 hz1 hz2 rfl (by decide) (.slice g q c) q (flatP done) (by rfl) (own_below HOd.out hb5) pa _ pl.length pc (flatP pl) (by rfl) (Rd.of_own hO5) (flatP_one _) hp1 hp2 hb'.size ?_; intro v6 w6 hO6 hg6 _; rw [← flatP_append] at hO6; obtain ⟨a6, c6, rfl⟩ := own_slice' hO6; have hb6 := hb'.grown hg6 hb'.size (fun q e => (own_ge HOd.out q e).1)))
        have B6 := hb6
        have hb36 : Below w.heap.size w3 w6 := (Below.refl w.heap.size w3).drew.trans ((hb5.mono s3').grown hg6 (Nat.le_trans s3' hb5.size) (fun q e => (own_ge HOd.out q e).1))
        have HX7 := Lib.hid (HX4.out.below hb36 (Nat.le_refl _))
        have HY7 := Lib.hid (HY4.out.below hb36 (Nat.le_refl _))
        clear hb' hb5 hO5 HOd CP HS0 hp1 hp2 hb36 hg6 HX4 HY4 hb6
        have HQ6 := Lib.hid (show (done ++ pl).length = q + pl.length by rw [List.length_append, HQ.out])
        clear HQ
        go_wp2_with fail
        go_quiet (fail)
        have hb4 := B6.trans ((drewN_below w6 nq).mono B6.size)
        have O4 := own_below hO6 (drewN_below w6 nq)
        have X4 := HX7.out.below (drewN_below w6 nq) B6.size
        have Y4 := HY7.out.below (drewN_below w6 nq) B6.size
        clear HX7 HY7 hO6 B6
        generalize w6.drewN nq = w7 at *
        go_wp2_with fail
        go_roundw
        case rel => exact ⟨_, _, a6, xl - n, xc - n, yl - m, yc - m, q + pl.length, c6, ra.drop n, rb.drop m, done ++ pl, rfl, rfl, rfl, by omega, by omega, by omega, by omega, by omega, X4, Y4, HQ6, O4, HJ2, hb4⟩
        case measure => simp; omega
theorem joined_any (k : JK) (aa ba : Option Addr) (la ca lb cb : Nat) (a b : List RowV) (w : World) (hla : la ≤ 120) (hlb : lb ≤ 120) (hca : la ≤ ca) (hcb : lb ≤ cb) (hA : Rd w w.heap.size 3 aa la (flat a)) (hB : Rd w w.heap.size 3 ba lb (flat b)) :
    Calls Try.prog 112 #[.slice aa la ca, .slice ba lb cb, k.val] w (PairsOut w (joinL k a b)) := by
  cases k with
  | both x y => exact joinedBoth_any x y aa ba la ca lb cb a b w hla hlb hca hcb hA hB
  | keep x => exact joinedKeep_any x aa ba la ca lb cb a b w hla hlb hca hcb hA hB
end Go.Proofs.Ytgdbpckobngmjaa

namespace Go.Proofs.Ytgdbpckobngmjaa
open Go.RowKit
def StrsOut (w : World) (ss : List ByteArray) (e : Ending) (w' : World) : Prop := ∃ a c, e = .returned (.slice a ss.length c) ∧ Below w.heap.size w w' ∧ w'.ownsRow w.heap.size 9 1 (.slice a ss.length c) ss.length (strC ss)
theorem strC_snoc (l : List ByteArray) (s : ByteArray) : strC (l ++ [s]) = strC l ++ [.string s] := by simp [strC]
theorem valsK_hit {l : List RowV} {k : Nat} {r : RowV} {key : ByteArray} (hr : l[k]? = some r) (hd : isKey key r = true) : valsK (l.take (k + 1)) key = valsK (l.take k) key ++ [r.val] := by
  unfold valsK
  rw [List.take_add_one, hr, Option.toList_some, List.filter_append, List.map_append]
  simp [hd]
theorem valsK_miss {l : List RowV} {k : Nat} {r : RowV} {key : ByteArray} (hr : l[k]? = some r) (hd : isKey key r = false) : valsK (l.take (k + 1)) key = valsK (l.take k) key := by
  unfold valsK
  rw [List.take_add_one, hr, Option.toList_some, List.filter_append, List.map_append]
  simp [hd]
theorem valsK_le (l : List RowV) (key : ByteArray) : (valsK l key).length ≤ l.length := by
  unfold valsK
  rw [List.length_map]
  exact List.length_filter_le _ _
theorem keysOf_take {l : List RowV} {k : Nat} {r : RowV} (hr : l[k]? = some r) : keysOf (l.take (k + 1)) = addKy (keysOf (l.take k)) r.key := by
  rw [List.take_add_one, hr, Option.toList_some, keysOf_snoc]
set_option maxRecDepth 100000 in
set_option maxHeartbeats 1000000 in
theorem l5Vals_any (a : Option Addr) (n cap : Nat) (rs : List RowV) (key : ByteArray) (w : World) (hm : n ≤ 1048576) (hR : Rd w w.heap.size 3 a n (flat rs)) :
    Calls Try.prog 105 #[.slice a n cap, .string key] w (StrsOut w (valsK (sortL rs) key)) := by
  obtain ⟨i0, hi, hz0, hz1, hz2⟩ := info_parts infoStr
  have hsl := Lib.hid ((sortL_length rs).trans hR.rows_length)
  have hb0 : Below w.heap.size w (w.alloc (.cells #[] 9)) := bl1 _ _
  have hOn := World.ownsRow_lit (base := w.heap.size) (e := 9) (size := 1) w #[] 0 (Nat.le_refl _) (Nat.zero_le _) rfl
  have R0 := (hR.below hb0 (Nat.le_refl _)).more hb0.size
  have H0 := Lib.hid (show (w.alloc (.cells #[] 9)).heap.size = w.heap.size + 1 by simp)
  go_enter Try.func105, Try.ntmps105
  go_wp2_with fail
  generalize w.alloc (.cells #[] 9) = w0 at *
  refine (l3Sort_any a n cap rs w0 hm R0).mono ?_
  rintro e w1 ⟨bs, cs, rfl, hS, hb1⟩
  have O1 := own_below hOn hb1
  have B1 := hb0.trans (hb1.mono hb0.size)
  have S1 := RdIn.of_own hS
  have s1 := hb1.size
  have A1 : Apart w0.heap.size w1.heap.size (.slice (some ⟨w.heap.size, 0, none⟩) 0 0) := Apart.at_ (.inl (by have := H0.out; omega))
  clear hS hOn hb1 R0
  generalize sortL rs = S at *
  go_wp2_with fail
  go_loopw [5, 7] (fun v i wr => ∃ (k q : Nat) (g : Option Addr) (c : Nat), k ≤ n ∧ i = .int .i64 k ∧ v = .slice g q c ∧ q ≤ k ∧ Hid ((valsK (S.take k) key).length = q) ∧ wr.ownsRow w.heap.size 9 1 (.slice g q c) q (strC (valsK (S.take k) key)) ∧ Below w.heap.size w wr ∧ RdIn wr w0.heap.size w1.heap.size 3 bs n (flat S) ∧ Hid (Apart w0.heap.size w1.heap.size (.slice g q c)) ∧ w1.heap.size ≤ wr.heap.size) (fun _ i _ => n - (intOf i).toNat)
  case atStart => exact ⟨0, 0, _, _, Nat.zero_le _, rfl, rfl, Nat.le_refl _, Lib.hid rfl, O1, B1, S1, Lib.hid A1, Nat.le_refl _⟩
  case round =>
    obtain ⟨k, q, g, c, hk, rfl, rfl, hqk, HQ, hO, hb, hS, HA, hs⟩ := hrel
    clear O1 B1 S1 A1
    by_cases hlt : k < n
    · obtain ⟨b, off, r, rfl, hB, hr, c0, c1, c2⟩ := hS.rd.row hlt
      cases hd : isKey key r
      · have E := Lib.hid (valsK_miss hr hd)
        have hd2 : (r.key == key) = false := by rw [beq_toListBytes]; exact hd
        have hd3 : (r.key.toList == key.toList) = false := hd
        clear hr hd
        obtain ⟨rk, rt, rv⟩ := r
        go_wp2_with fail
        go_roundw
        case rel => exact ⟨k + 1, q, g, c, by omega, by go_num, rfl, by omega, Lib.hid (by rw [E.out]; exact HQ.out), by rw [E.out]; exact hO, hb, hS, HA, hs⟩
        case measure => simp [intOf]; omega
      · have E := Lib.hid (valsK_hit hr hd)
        have hd2 : (r.key == key) = true := by rw [beq_toListBytes]; exact hd
        have hd3 : (r.key.toList == key.toList) = true := hd
        clear hr hd
        obtain ⟨rk, rt, rv⟩ := r
        have hg8 : w.heap.size ≤ wr.heap.size := hb.size
        go_wp2_with (at_builtin; refine wpList_append_own_at _ rfl _ _ 84 rfl w.heap.size 9 i0 (.string ⟨#[]⟩) 1 16 Try.underlying84 hi hz0 hz1 hz2 rfl (by decide) _ _ _ rfl (hO.alloc _) ⟨wr.heap.size, 0, none⟩ 1 1 [.string rv] rfl rfl (cell_one_new _ _ _) ?c2 ?c3 ?c4 ?c5 ?_)
        case c2 => first | rfl | (intro u hu; simp at hu; subst hu; rfl)
        case c3 => unfold maxLen; omega
        case c4 => omega
        case c5 => first | omega | (simp; omega)
        intro v' w4 hO4 hg4 _ hat
        obtain ⟨a', cap', rfl⟩ := own_slice' hO4
        have hb4 := below_grown1 hb hO hg4
        have hS4 := hS.gb1 hg4 hs HA.out
        have HA4 := Lib.hid (HA.out.next1 hat hs)
        have hs4 := size_grown1 hg4 hs
        have hO5 : w4.ownsRow w.heap.size 9 1 (.slice a' (q + 1) cap') (q + 1) (strC (valsK (S.take (k + 1)) key)) := by
          rw [E.out, strC_snoc]; exact hO4
        have HQ2 := Lib.hid (show (valsK (S.take (k + 1)) key).length = q + 1 by rw [E.out, List.length_append, HQ.out]; rfl)
        clear hg4 hat hO hO4 hS HA HQ c0 c1 c2 hb hs
        go_wp2_with fail
        go_roundw
        case rel => exact ⟨k + 1, q + 1, a', cap', by omega, by go_num, rfl, by omega, HQ2, hO5, hb4, hS4, HA4, hs4⟩
        case measure => simp [intOf]; omega
    · obtain rfl : k = n := by omega
      have e : valsK (S.take k) key = valsK S key := by rw [List.take_of_length_le (by rw [hsl.out]; omega)]
      have hl := HQ.out
      rw [e] at hO hl
      have HL := Lib.hid hl
      clear e hl
      go_wp2_with fail
      go_ret
      refine ⟨g, c, ?_, hb, ?_⟩
      · rw [HL.out]; rfl
      · rw [HL.out]; exact hO
set_option maxRecDepth 100000 in
set_option maxHeartbeats 1000000 in
theorem l5Keys_any (a : Option Addr) (n cap : Nat) (rs : List RowV) (w : World) (hm : n ≤ 1048576) (hR : Rd w w.heap.size 3 a n (flat rs)) :
    Calls Try.prog 104 #[.slice a n cap] w (StrsOut w (keysOf (sortL rs))) := by
  obtain ⟨i0, hi, hz0, hz1, hz2⟩ := info_parts infoStr
  have hsl := Lib.hid ((sortL_length rs).trans hR.rows_length)
  have hb0 : Below w.heap.size w (w.alloc (.cells #[] 9)) := bl1 _ _
  have hOn := World.ownsRow_lit (base := w.heap.size) (e := 9) (size := 1) w #[] 0 (Nat.le_refl _) (Nat.zero_le _) rfl
  have R0 := (hR.below hb0 (Nat.le_refl _)).more hb0.size
  have H0 := Lib.hid (show (w.alloc (.cells #[] 9)).heap.size = w.heap.size + 1 by simp)
  go_enter Try.func104, Try.ntmps104
  go_wp2_with fail
  generalize w.alloc (.cells #[] 9) = w0 at *
  refine (l3Sort_any a n cap rs w0 hm R0).mono ?_
  rintro e w1 ⟨bs, cs, rfl, hS, hb1⟩
  have O1 := own_below hOn hb1
  have B1 := hb0.trans (hb1.mono hb0.size)
  have S1 := RdIn.of_own hS
  have s1 := hb1.size
  have A1 : Apart w0.heap.size w1.heap.size (.slice (some ⟨w.heap.size, 0, none⟩) 0 0) := Apart.at_ (.inl (by have := H0.out; omega))
  clear hS hOn hb1 R0
  generalize sortL rs = S at *
  go_wp2_with fail
  go_loopw [3, 5] (fun v i wr => ∃ (k q : Nat) (g : Option Addr) (c : Nat), k ≤ n ∧ i = .int .i64 k ∧ v = .slice g q c ∧ q ≤ k ∧ Hid ((keysOf (S.take k)).length = q) ∧ wr.ownsRow w.heap.size 9 1 (.slice g q c) q (strC (keysOf (S.take k))) ∧ Below w.heap.size w wr ∧ RdIn wr w0.heap.size w1.heap.size 3 bs n (flat S) ∧ Hid (Apart w0.heap.size w1.heap.size (.slice g q c)) ∧ w1.heap.size ≤ wr.heap.size) (fun _ i _ => n - (intOf i).toNat)
  case atStart => exact ⟨0, 0, _, _, Nat.zero_le _, rfl, rfl, Nat.le_refl _, Lib.hid rfl, O1, B1, S1, Lib.hid A1, Nat.le_refl _⟩
  case round =>
    obtain ⟨k, q, g, c, hk, rfl, rfl, hqk, HQ, hO, hb, hS, HA, hs⟩ := hrel
    clear O1 B1 S1 A1
    by_cases hlt : k < n
    · obtain ⟨b, off, r, rfl, hB, hr, c0, c1, c2⟩ := hS.rd.row hlt
      have HE := Lib.hid (keysOf_take hr)
      clear hr
      obtain ⟨rk, rt, rv⟩ := r
      have hg8 : w.heap.size ≤ wr.heap.size := hb.size
      -- what the last key is
      by_cases hq0 : q = 0
      · subst hq0
        have hnil : keysOf (S.take k) = [] := List.eq_nil_of_length_eq_zero HQ.out
        have E := Lib.hid (show keysOf (S.take (k + 1)) = keysOf (S.take k) ++ [rk] by rw [HE.out, hnil]; rfl)
        clear hnil
        go_wp2_with fail
        go_quiet (fail)
        have HO1 := own_below hO (drewN_below wr nq)
        have hb1 := hb.trans ((drewN_below wr nq).mono hb.size)
        have hS1 := hS.below (drewN_below wr nq) hs
        have hs1 : w1.heap.size ≤ (wr.drewN nq).heap.size := Nat.le_trans hs (drewN_below wr nq).size
        have c0' := ((drewN_below wr nq).cell (p := ⟨b, off + k * 3, none⟩) (Nat.lt_of_lt_of_le hB hs)).trans c0
        have hg9 : w.heap.size ≤ (wr.drewN nq).heap.size := hb1.size
        clear hO hb hS hs c0 hg8
        generalize wr.drewN nq = w2 at *
        go_wp2_with (at_builtin; refine wpList_append_own_at _ rfl _ _ 84 rfl w.heap.size 9 i0 (.string ⟨#[]⟩) 1 16 Try.underlying84 hi hz0 hz1 hz2 rfl (by decide) _ _ _ rfl (HO1.alloc _) ⟨w2.heap.size, 0, none⟩ 1 1 [.string rk] rfl rfl (cell_one_new _ _ _) ?c2 ?c3 ?c4 ?c5 ?_)
        case c2 => first | rfl | (intro u hu; simp at hu; subst hu; rfl)
        case c3 => unfold maxLen; omega
        case c4 => omega
        case c5 => first | omega | (simp; omega)
        intro v' w4 hO4 hg4 _ hat
        obtain ⟨a', cap', rfl⟩ := own_slice' hO4
        have hb4 := below_grown1 hb1 HO1 hg4
        have hS4 := hS1.gb1 hg4 hs1 HA.out
        have HA4 := Lib.hid (HA.out.next1 hat hs1)
        have hs4 := size_grown1 hg4 hs1
        have hO5 : w4.ownsRow w.heap.size 9 1 (.slice a' (0 + 1) cap') (0 + 1) (strC (keysOf (S.take (k + 1)))) := by
          rw [E.out, strC_snoc]; exact hO4
        have HQ2 := Lib.hid (show (keysOf (S.take (k + 1))).length = 0 + 1 by rw [E.out, List.length_append, HQ.out]; rfl)
        clear hg4 hat HO1 hO4 hS1 HA HQ c0' c1 c2 hb1 hs1 
        go_wp2_with fail
        go_roundw
        case rel => exact ⟨k + 1, 0 + 1, a', cap', by omega, by go_num, rfl, by omega, HQ2, hO5, hb4, hS4, HA4, hs4⟩
        case measure => simp [intOf]; omega
      obtain ⟨p, hp1, hp2⟩ : ∃ p, p < q ∧ q = p + 1 := ⟨q - 1, by omega, by omega⟩
      obtain ⟨gb, go, lk, rfl, hGB, hlk, d0⟩ := (Rd.of_own hO).str hp1
      have hlast : (keysOf (S.take k)).getLast? = some lk := by
        rw [List.getLast?_eq_getElem?, HQ.out, hp2, Nat.add_sub_cancel]; exact hlk
      have hW : IntKind.i64.wrap ((q : Int) - 1) = (p : Int) := by rw [IntWalk.i64_in _ (by omega)]; omega
      have hp3 : q < p + 2 := by omega
      clear hp2
      cases hd : (lk.toList == rk.toList)
      · have E := Lib.hid (show keysOf (S.take (k + 1)) = keysOf (S.take k) ++ [rk] by
          rw [HE.out]; unfold addKy; rw [if_neg]; rw [hlast]; intro e; injection e with e; simp only at e; rw [e] at hd; simp at hd)
        clear hlast hlk
        go_wp2_with fail
        go_quiet (fail)
        have HO1 := own_below hO (drewN_below wr nq)
        have hb1 := hb.trans ((drewN_below wr nq).mono hb.size)
        have hS1 := hS.below (drewN_below wr nq) hs
        have hs1 : w1.heap.size ≤ (wr.drewN nq).heap.size := Nat.le_trans hs (drewN_below wr nq).size
        have c0' := ((drewN_below wr nq).cell (p := ⟨b, off + k * 3, none⟩) (Nat.lt_of_lt_of_le hB hs)).trans c0
        have hg9 : w.heap.size ≤ (wr.drewN nq).heap.size := hb1.size
        clear hO hb hS hs c0 hg8
        generalize wr.drewN nq = w2 at *
        go_wp2_with (at_builtin; refine wpList_append_own_at _ rfl _ _ 84 rfl w.heap.size 9 i0 (.string ⟨#[]⟩) 1 16 Try.underlying84 hi hz0 hz1 hz2 rfl (by decide) _ _ _ rfl (HO1.alloc _) ⟨w2.heap.size, 0, none⟩ 1 1 [.string rk] rfl rfl (cell_one_new _ _ _) ?c2 ?c3 ?c4 ?c5 ?_)
        case c2 => first | rfl | (intro u hu; simp at hu; subst hu; rfl)
        case c3 => unfold maxLen; omega
        case c4 => omega
        case c5 => first | omega | (simp; omega)
        intro v' w4 hO4 hg4 _ hat
        obtain ⟨a', cap', rfl⟩ := own_slice' hO4
        have hb4 := below_grown1 hb1 HO1 hg4
        have hS4 := hS1.gb1 hg4 hs1 HA.out
        have HA4 := Lib.hid (HA.out.next1 hat hs1)
        have hs4 := size_grown1 hg4 hs1
        have hO5 : w4.ownsRow w.heap.size 9 1 (.slice a' (q + 1) cap') (q + 1) (strC (keysOf (S.take (k + 1)))) := by
          rw [E.out, strC_snoc]; exact hO4
        have HQ2 := Lib.hid (show (keysOf (S.take (k + 1))).length = q + 1 by rw [E.out, List.length_append, HQ.out]; rfl)
        clear hg4 hat HO1 hO4 hS1 HA HQ c0' c1 c2 hb1 hs1
        go_wp2_with fail
        go_roundw
        case rel => exact ⟨k + 1, q + 1, a', cap', by omega, by go_num, rfl, by omega, HQ2, hO5, hb4, hS4, HA4, hs4⟩
        case measure => simp [intOf]; omega
      · have E := Lib.hid (show keysOf (S.take (k + 1)) = keysOf (S.take k) by
          rw [HE.out]; unfold addKy; rw [if_pos]; rw [hlast, ext_toList (eq_of_beq hd)])
        clear hlast hlk
        go_wp2_with fail
        go_quiet (fail)
        go_wp2_with fail
        go_roundw
        case rel => exact ⟨k + 1, q, _, c, by omega, by go_num, rfl, by omega, Lib.hid (by rw [E.out]; exact HQ.out), by rw [E.out]; exact own_below hO (drewN_below _ _), hb.trans ((drewN_below _ _).mono hb.size), hS.below (drewN_below _ _) hs, HA, Nat.le_trans hs (drewN_below _ _).size⟩
        case measure => simp [intOf]; omega
    · obtain rfl : k = n := by omega
      have e : keysOf (S.take k) = keysOf S := by rw [List.take_of_length_le (by rw [hsl.out]; omega)]
      have hl := HQ.out
      rw [e] at hO hl
      have HL := Lib.hid hl
      clear e hl
      go_wp2_with fail
      go_ret
      refine ⟨g, c, ?_, hb, ?_⟩
      · rw [HL.out]; rfl
      · rw [HL.out]; exact hO
end Go.Proofs.Ytgdbpckobngmjaa

namespace Go.Proofs.Ytgdbpckobngmjaa
open Go.RowKit
def bothP (key x y : ByteArray) : PairV := ⟨key, x, y, true, true⟩
def leftP (key x : ByteArray) : PairV := ⟨key, x, ⟨#[]⟩, true, false⟩
def rightP (key y : ByteArray) : PairV := ⟨key, ⟨#[]⟩, y, false, true⟩
def headK (n : Int) (key x : ByteArray) (m : Nat) : List PairV := if (n = 5 ∧ 0 < m) ∨ (n = 6 ∧ m = 0) then [leftP key x] else if m = 0 ∧ (n = 2 ∨ n = 4) then [leftP key x] else []
def bodyK (n : Int) (key x : ByteArray) (b : List ByteArray) : List PairV := if n ≤ 4 then b.map (bothP key x) else []
def tailK (n : Int) (key : ByteArray) (l : Nat) (b : List ByteArray) : List PairV := if l = 0 ∧ (n = 3 ∨ n = 4) then b.map (rightP key) else []
def mainK (n : Int) (key : ByteArray) (a b : List ByteArray) (i : Nat) : List PairV := (a.take i).flatMap fun x => headK n key x b.length ++ bodyK n key x b
theorem oneK_parts (n : Int) (key : ByteArray) (a b : List ByteArray) : oneK n key a b = mainK n key a b a.length ++ tailK n key a.length b := by
  unfold mainK
  rw [List.take_length]
  rfl
theorem mainK_succ {n : Int} {key : ByteArray} {a b : List ByteArray} {i m : Nat} {x : ByteArray} (hx : a[i]? = some x) (hm : b.length = m) : mainK n key a b (i + 1) = mainK n key a b i ++ (headK n key x m ++ bodyK n key x b) := by
  unfold mainK
  rw [List.take_add_one, hx, Option.toList_some, List.flatMap_append, List.flatMap_singleton, hm]
theorem mainK_le {n : Int} {key : ByteArray} {a b : List ByteArray} (hb : b.length ≤ 1000) (i : Nat) : (mainK n key a b i).length ≤ i * 1001 := by
  unfold mainK
  have h : ∀ l : List ByteArray, (l.flatMap fun x => headK n key x b.length ++ bodyK n key x b).length ≤ l.length * 1001 := by
    intro l
    induction l with
    | nil => simp
    | cons x l ih =>
      rw [List.flatMap_cons, List.length_append, List.length_append, List.length_cons]
      have h1 : (headK n key x b.length).length ≤ 1 := by
        unfold headK
        split
        · simp
        · split <;> simp
      have h2 : (bodyK n key x b).length ≤ 1000 := by
        unfold bodyK
        split
        · simpa using hb
        · simp
      omega
  have := h (a.take i)
  rw [List.length_take] at this
  have h3 : min i a.length * 1001 ≤ i * 1001 := Nat.mul_le_mul_right _ (Nat.min_le_left _ _)
  exact Nat.le_trans this h3
theorem map_take_succ {β : Type} {b : List ByteArray} {k : Nat} {y : ByteArray} (f : ByteArray → β) (hy : b[k]? = some y) : (b.map f).take (k + 1) = (b.map f).take k ++ [f y] := by
  simp [List.take_add_one, hy]
set_option maxRecDepth 100000 in
theorem pair_one (p : PairV) : ∀ u ∈ [Value.string p.key, .string p.l, .string p.r, .bool p.hl, .bool p.hr], u.oneCell' = true := by
  intro u hu
  simp at hu
  rcases hu with rfl | rfl | rfl | rfl | rfl <;> rfl
theorem flatP_snoc' (l : List PairV) (p : PairV) : flatP (l ++ [p]) = flatP l ++ [.string p.key, .string p.l, .string p.r, .bool p.hl, .bool p.hr] := flatP_snoc l p

set_option maxRecDepth 100000 in
set_option maxHeartbeats 4000000 in
theorem l5Pairs_any (n : Int) (hn : n = 1 ∨ n = 2 ∨ n = 3 ∨ n = 4 ∨ n = 5 ∨ n = 6) (key : ByteArray) (aa ba : Option Addr) (la ca lb cb : Nat) (a b : List ByteArray) (w : World) (hla : la ≤ 1000) (hlb : lb ≤ 1000) (hA : Rd w w.heap.size 1 aa la (strC a)) (hB : Rd w w.heap.size 1 ba lb (strC b)) :
    Calls Try.prog 146 #[.string key, .slice aa la ca, .slice ba lb cb, .int .i64 n] w (PairsOut w (oneK n key a b)) := by
  obtain ⟨i0, hi, hz0, hz1, hz2⟩ := info_parts infoPair
  have h1 := Lib.hid hA.strs_length
  have h2 := Lib.hid hB.strs_length
  have HL := Lib.hid (show ∀ i, (mainK n key a b i).length ≤ i * 1001 from fun i => mainK_le (by rw [h2.out]; exact hlb) i)
  have hb0 : Below w.heap.size w (w.alloc (.cells #[] 88)) := bl1 _ _
  have hOn := World.ownsRow_lit (base := w.heap.size) (e := 88) (size := 5) w #[] 0 (Nat.le_refl _) (Nat.zero_le _) rfl
  go_enter Try.func146, Try.ntmps146
  go_wp2_with fail
  generalize w.alloc (.cells #[] 88) = w0 at *
  go_loopw [9, 10] (fun v j wr => ∃ (i q : Nat) (g : Option Addr) (c : Nat), i ≤ la ∧ j = .int .i64 i ∧ v = .slice g q c ∧ Hid ((mainK n key a b i).length = q) ∧ wr.ownsRow w.heap.size 88 5 (.slice g q c) q (flatP (mainK n key a b i)) ∧ Below w.heap.size w wr) (fun _ j _ => la - (intOf j).toNat)
  case atStart => exact ⟨0, 0, _, _, Nat.zero_le _, rfl, rfl, Lib.hid rfl, hOn, hb0⟩
  case round =>
    obtain ⟨i, q, g, c, hil, rfl, rfl, HQ, hO, hb⟩ := hrel
    clear hOn hb0
    have hq : q ≤ 1001 * 1000 := by have := HL.out i; rw [HQ.out] at this; omega
    by_cases hlt : i < la
    · obtain ⟨b1, o1, x, rfl, hB1, hx, c0⟩ := (hA.below hb (Nat.le_refl _)).str hlt
      have HE := Lib.hid (mainK_succ (n := n) (key := key) hx h2.out)
      have HX := Lib.hid (show ∀ y : ByteArray, a[i]? = some y → x = y from fun y h => by rw [hx] at h; injection h)
      clear hx
      have ha0 := bl1 wr (.cells #[.string key, .string x, .string ⟨#[]⟩, .bool true, .bool false] 88)
      have hO1 := own_below hO ha0
      have hb1 := hb.trans (ha0.mono hb.size)
      have hws : w.heap.size ≤ wr.heap.size := hb.size
      clear ha0 hO hb
      by_cases hI : n ≤ 4 ∧ 0 < lb
      · obtain ⟨hn4, hl0⟩ := hI
        have e5 : (n == 5) = false := by simp; omega
        have e6 : (n == 6) = false := by simp; omega
        have m0 : ((lb : Int) == 0) = false := by simp; omega
        have m1 : decide (0 < (lb : Int)) = true := by simp; omega
        have d4 : decide (n ≤ 4) = true := by simpa using hn4
        have HH := Lib.hid (show headK n key x lb = [] by unfold headK; rw [if_neg (by omega), if_neg (by omega)])
        have HB := Lib.hid (show bodyK n key x b = b.map (bothP key x) from if_pos hn4)
        clear hn hn4 hl0
        go_wp2_with fail
        generalize wr.alloc (.cells #[.string key, .string x, .string ⟨#[]⟩, .bool true, .bool false] 88) = w1 at *
        clear c0
        go_loopw [9, 12] (fun v j wi => ∃ (k q : Nat) (g : Option Addr) (c : Nat), k ≤ lb ∧ j = .int .i64 k ∧ v = .slice g q c ∧ q ≤ 1001 * 1000 + k ∧ Hid ((mainK n key a b i ++ (b.map (bothP key x)).take k).length = q) ∧ wi.ownsRow w.heap.size 88 5 (.slice g q c) q (flatP (mainK n key a b i ++ (b.map (bothP key x)).take k)) ∧ Below w.heap.size w wi) (fun _ j _ => lb - (intOf j).toNat)
        case atStart => exact ⟨0, q, g, c, Nat.zero_le _, rfl, rfl, by omega, Lib.hid (by rw [List.take_zero, List.append_nil]; exact HQ.out), by rw [List.take_zero, List.append_nil]; exact hO1, hb1⟩
        case round =>
          obtain ⟨k, q, g, c, hk, rfl, rfl, hq2, HQ, hO, hb⟩ := hrel
          clear hO1 hb1
          by_cases hkl : k < lb
          · obtain ⟨b2, o2, y, rfl, hB2, hy, d0⟩ := (hB.below hb (Nat.le_refl _)).str hkl
            obtain ⟨b3, o3, x3, e3, hB3, hx3, c0⟩ := (hA.below hb (Nat.le_refl _)).str hlt
            obtain ⟨rfl, rfl⟩ : b1 = b3 ∧ o1 = o3 := by injection e3 with e3; injection e3 with e3 e4; exact ⟨e3, e4⟩
            obtain rfl : x = x3 := HX.out _ hx3
            clear e3 hx3 hB3
            have HS := Lib.hid (map_take_succ (bothP key x) hy)
            clear hy
            have hws2 : w.heap.size ≤ wr.heap.size := hb.size
            have HBW := Lib.hid ((hb.alloc hb.size (.cells #[.string key, .string x, .string y, .bool true, .bool true] 88)).drew)
            have HV := Lib.hid (own_below (own_below hO (bl1 wr (.cells #[.string key, .string x, .string y, .bool true, .bool true] 88))) (Below.refl _ _).drew)
            have HN := Lib.hid (cell_pair_new wr key x y true true 88)
            have hlm : q + 1 ≤ maxLen := by unfold maxLen; omega
            have hl9 : (q + 1) * 56 ≤ 140737488355328 := by omega
            clear hO hb
            go_wp2_with fail
            go_region_law (refine step_append_one rfl (.tmp 74) (.tmp 85) 70 rfl w.heap.size 88 i0 (.agg #[.string ⟨#[]⟩, .string ⟨#[]⟩, .string ⟨#[]⟩, .bool false, .bool false]) 5 56 Try.underlying70 hi hz0 hz1 hz2 rfl (by decide) (.slice g q c) q _ rfl HV.out ⟨wr.heap.size, 0, none⟩ 1 1 [.string key, .string x, .string y, .bool true, .bool true] rfl rfl HN.out (pair_one (bothP key x y)) hlm hl9 HBW.out.size ?_; intro v' w3 hO3 hg3 _; obtain ⟨a3, c3, rfl⟩ := own_slice' hO3)
            all_goals
              have hb3 := HBW.out.grown hg3 HBW.out.size (fun q e => (own_ge HV.out q e).1)
              have HQ3 := Lib.hid (show (mainK n key a b i ++ (b.map (bothP key x)).take (k + 1)).length = q + 1 by rw [HS.out, ← List.append_assoc, List.length_append, HQ.out]; rfl)
              have hO4 : w3.ownsRow w.heap.size 88 5 (.slice a3 (q + 1) c3) (q + 1) (flatP (mainK n key a b i ++ (b.map (bothP key x)).take (k + 1))) := by
                rw [HS.out, ← List.append_assoc, flatP_snoc']; exact hO3
              clear hO3 hg3 HBW HV HN c0 d0 HQ
              go_wp2_with fail
              go_roundw
              case rel => exact ⟨k + 1, q + 1, a3, c3, by omega, by go_num, rfl, by omega, HQ3, hO4, hb3⟩
              case measure => simp [intOf]; omega
          · obtain rfl : k = lb := by omega
            have e : mainK n key a b i ++ (b.map (bothP key x)).take k = mainK n key a b (i + 1) := by
              rw [HE.out, HH.out, HB.out, List.nil_append, List.take_of_length_le (by rw [List.length_map, h2.out]; omega)]
            have HQ3 := Lib.hid HQ.out
            rw [e] at HQ3 hO
            clear e
            go_wp2_with fail
            go_roundw
            case rel => exact ⟨i + 1, q, g, c, by omega, by go_num, rfl, HQ3, hO, hb⟩
            case measure => simp [intOf]; omega
      · have hsh : (n = 1 ∧ lb = 0 ∨ n = 3 ∧ lb = 0 ∨ n = 5 ∧ lb = 0 ∨ n = 6 ∧ 0 < lb) ∨ (n = 2 ∧ lb = 0 ∨ n = 4 ∧ lb = 0 ∨ n = 5 ∧ 0 < lb ∨ n = 6 ∧ lb = 0) := by omega
        have HC := Lib.hid (cell_pair_new (wr.alloc (.cells #[.string key, .string x, .string ⟨#[]⟩, .bool true, .bool false] 88)) key x ⟨#[]⟩ true false 88)
        rw [World.size_alloc] at HC
        clear hI hn
        rcases hsh with hsh | hsh
        · rcases hsh with ⟨rfl, hl0⟩ | ⟨rfl, hl0⟩ | ⟨rfl, hl0⟩ | ⟨rfl, hl0⟩
          · subst hl0
            have HP := Lib.hid (show mainK 1 key a b (i + 1) = mainK 1 key a b i by rw [HE.out, show headK 1 key x 0 = [] by unfold headK; rw [if_neg (by omega), if_neg (by omega)], show bodyK 1 key x b = [] by unfold bodyK; rw [List.eq_nil_of_length_eq_zero h2.out]; simp, List.append_nil, List.append_nil])
            have HQ2 : Hid ((mainK 1 key a b (i + 1)).length = q) := Lib.hid (by rw [HP.out]; exact HQ.out)
            have hO5 : (wr.alloc (.cells #[.string key, .string x, .string ⟨#[]⟩, .bool true, .bool false] 88)).ownsRow w.heap.size 88 5 (.slice g q c) q (flatP (mainK 1 key a b (i + 1))) := by rw [HP.out]; exact hO1
            have hb5 := hb1
            clear hO1 hb1 HQ HC HP HE
            go_wp2_with fail
            clear c0
            generalize wr.alloc (.cells #[.string key, .string x, .string ⟨#[]⟩, .bool true, .bool false] 88) = w1 at *
            go_loopw [9, 12] (fun v j wi => j = .int .i64 0 ∧ v = .slice g q c ∧ wi.ownsRow w.heap.size 88 5 (.slice g q c) (q) (flatP (mainK 1 key a b (i + 1))) ∧ Below w.heap.size w wi) (fun _ _ _ => 0)
            case atStart => exact ⟨rfl, rfl, hO5, hb5⟩
            case round =>
              obtain ⟨rfl, rfl, hO6, hb6⟩ := hrel
              clear hO5 hb5
              go_wp2_with fail
              go_roundw
              case rel => exact ⟨i + 1, q, g, c, by omega, by go_num, rfl, HQ2, hO6, hb6⟩
              case measure => simp [intOf]; omega
          · subst hl0
            have HP := Lib.hid (show mainK 3 key a b (i + 1) = mainK 3 key a b i by rw [HE.out, show headK 3 key x 0 = [] by unfold headK; rw [if_neg (by omega), if_neg (by omega)], show bodyK 3 key x b = [] by unfold bodyK; rw [List.eq_nil_of_length_eq_zero h2.out]; simp, List.append_nil, List.append_nil])
            have HQ2 : Hid ((mainK 3 key a b (i + 1)).length = q) := Lib.hid (by rw [HP.out]; exact HQ.out)
            have hO5 : (wr.alloc (.cells #[.string key, .string x, .string ⟨#[]⟩, .bool true, .bool false] 88)).ownsRow w.heap.size 88 5 (.slice g q c) q (flatP (mainK 3 key a b (i + 1))) := by rw [HP.out]; exact hO1
            have hb5 := hb1
            clear hO1 hb1 HQ HC HP HE
            go_wp2_with fail
            clear c0
            generalize wr.alloc (.cells #[.string key, .string x, .string ⟨#[]⟩, .bool true, .bool false] 88) = w1 at *
            go_loopw [9, 12] (fun v j wi => j = .int .i64 0 ∧ v = .slice g q c ∧ wi.ownsRow w.heap.size 88 5 (.slice g q c) (q) (flatP (mainK 3 key a b (i + 1))) ∧ Below w.heap.size w wi) (fun _ _ _ => 0)
            case atStart => exact ⟨rfl, rfl, hO5, hb5⟩
            case round =>
              obtain ⟨rfl, rfl, hO6, hb6⟩ := hrel
              clear hO5 hb5
              go_wp2_with fail
              go_roundw
              case rel => exact ⟨i + 1, q, g, c, by omega, by go_num, rfl, HQ2, hO6, hb6⟩
              case measure => simp [intOf]; omega
          · subst hl0
            have HP := Lib.hid (show mainK 5 key a b (i + 1) = mainK 5 key a b i by rw [HE.out, show headK 5 key x 0 = [] by unfold headK; rw [if_neg (by omega), if_neg (by omega)], show bodyK 5 key x b = [] by exact if_neg (by omega), List.append_nil, List.append_nil])
            have HQ2 : Hid ((mainK 5 key a b (i + 1)).length = q) := Lib.hid (by rw [HP.out]; exact HQ.out)
            have hO5 : (wr.alloc (.cells #[.string key, .string x, .string ⟨#[]⟩, .bool true, .bool false] 88)).ownsRow w.heap.size 88 5 (.slice g q c) q (flatP (mainK 5 key a b (i + 1))) := by rw [HP.out]; exact hO1
            have hb5 := hb1
            clear hO1 hb1 HQ HC HP HE
            go_wp2_with fail
            clear c0
            generalize wr.alloc (.cells #[.string key, .string x, .string ⟨#[]⟩, .bool true, .bool false] 88) = w1 at *
            go_loopw [9, 12] (fun v j wi => j = .int .i64 0 ∧ v = .slice g q c ∧ wi.ownsRow w.heap.size 88 5 (.slice g q c) (q) (flatP (mainK 5 key a b (i + 1))) ∧ Below w.heap.size w wi) (fun _ _ _ => 0)
            case atStart => exact ⟨rfl, rfl, hO5, hb5⟩
            case round =>
              obtain ⟨rfl, rfl, hO6, hb6⟩ := hrel
              clear hO5 hb5
              go_wp2_with fail
              go_roundw
              case rel => exact ⟨i + 1, q, g, c, by omega, by go_num, rfl, HQ2, hO6, hb6⟩
              case measure => simp [intOf]; omega
          · have m0 : ((lb : Int) == 0) = false := by simp; omega
            have m1 : decide (0 < (lb : Int)) = true := by simp; omega
            have HP := Lib.hid (show mainK 6 key a b (i + 1) = mainK 6 key a b i by rw [HE.out, show headK 6 key x lb = [] by unfold headK; rw [if_neg (by omega), if_neg (by omega)], show bodyK 6 key x b = [] by exact if_neg (by omega), List.append_nil, List.append_nil])
            have HQ2 : Hid ((mainK 6 key a b (i + 1)).length = q) := Lib.hid (by rw [HP.out]; exact HQ.out)
            have hO5 : (wr.alloc (.cells #[.string key, .string x, .string ⟨#[]⟩, .bool true, .bool false] 88)).ownsRow w.heap.size 88 5 (.slice g q c) q (flatP (mainK 6 key a b (i + 1))) := by rw [HP.out]; exact hO1
            have hb5 := hb1
            clear hO1 hb1 HQ HC HP HE
            go_wp2_with fail
            clear c0
            generalize wr.alloc (.cells #[.string key, .string x, .string ⟨#[]⟩, .bool true, .bool false] 88) = w1 at *
            go_loopw [9, 12] (fun v j wi => j = .int .i64 0 ∧ v = .slice g q c ∧ wi.ownsRow w.heap.size 88 5 (.slice g q c) (q) (flatP (mainK 6 key a b (i + 1))) ∧ Below w.heap.size w wi) (fun _ _ _ => 0)
            case atStart => exact ⟨rfl, rfl, hO5, hb5⟩
            case round =>
              obtain ⟨rfl, rfl, hO6, hb6⟩ := hrel
              clear hO5 hb5
              go_wp2_with fail
              go_roundw
              case rel => exact ⟨i + 1, q, g, c, by omega, by go_num, rfl, HQ2, hO6, hb6⟩
              case measure => simp [intOf]; omega
        · rcases hsh with ⟨rfl, hl0⟩ | ⟨rfl, hl0⟩ | ⟨rfl, hl0⟩ | ⟨rfl, hl0⟩
          · subst hl0
            have HP := Lib.hid (show mainK 2 key a b (i + 1) = mainK 2 key a b i ++ [leftP key x] by rw [HE.out, show headK 2 key x 0 = [leftP key x] by unfold headK; rw [if_neg (by omega), if_pos (by omega)], show bodyK 2 key x b = [] by unfold bodyK; rw [List.eq_nil_of_length_eq_zero h2.out]; simp, List.append_nil])
            have HQ2 : Hid ((mainK 2 key a b (i + 1)).length = q + 1) := Lib.hid (by rw [HP.out, List.length_append, HQ.out]; rfl)
            clear HQ HE
            go_wp2_with (at_builtin; refine wpList_append_own_at _ rfl _ _ 70 rfl w.heap.size 88 i0 (.agg #[.string ⟨#[]⟩, .string ⟨#[]⟩, .string ⟨#[]⟩, .bool false, .bool false]) 5 56 Try.underlying70 hi hz0 hz1 hz2 rfl (by decide) _ _ _ rfl (hO1.alloc _) ⟨wr.heap.size + 1, 0, none⟩ 1 1 [.string key, .string x, .string ⟨#[]⟩, .bool true, .bool false] rfl rfl HC.out ?g2 ?g3 ?g4 ?g5 ?_)
            case g2 => first | (intro u hu; simp at hu; rcases hu with rfl | rfl | rfl | rfl | rfl <;> rfl) | simp [Value.oneCell']
            case g3 => unfold maxLen; omega
            case g4 => omega
            case g5 => first | omega | (simp; omega)
            intro v' w4 hO4 hg4 _ _
            obtain ⟨a', cap', rfl⟩ := own_slice' hO4
            have hb5 := below_grown1 hb1 hO1 hg4
            have hO5 : w4.ownsRow w.heap.size 88 5 (.slice a' (q + 1) cap') (q + 1) (flatP (mainK 2 key a b (i + 1))) := by rw [HP.out, flatP_snoc']; exact hO4
            clear hO1 hb1 HC HP hO4 hg4 c0
            go_wp2_with fail
            go_loopw [9, 12] (fun v j wi => j = .int .i64 0 ∧ v = .slice a' (q + 1) cap' ∧ wi.ownsRow w.heap.size 88 5 (.slice a' (q + 1) cap') (q + 1) (flatP (mainK 2 key a b (i + 1))) ∧ Below w.heap.size w wi) (fun _ _ _ => 0)
            case atStart => exact ⟨rfl, rfl, hO5, hb5⟩
            case round =>
              obtain ⟨rfl, rfl, hO6, hb6⟩ := hrel
              clear hO5 hb5
              go_wp2_with fail
              go_roundw
              case rel => exact ⟨i + 1, q + 1, a', cap', by omega, by go_num, rfl, HQ2, hO6, hb6⟩
              case measure => simp [intOf]; omega
          · subst hl0
            have HP := Lib.hid (show mainK 4 key a b (i + 1) = mainK 4 key a b i ++ [leftP key x] by rw [HE.out, show headK 4 key x 0 = [leftP key x] by unfold headK; rw [if_neg (by omega), if_pos (by omega)], show bodyK 4 key x b = [] by unfold bodyK; rw [List.eq_nil_of_length_eq_zero h2.out]; simp, List.append_nil])
            have HQ2 : Hid ((mainK 4 key a b (i + 1)).length = q + 1) := Lib.hid (by rw [HP.out, List.length_append, HQ.out]; rfl)
            clear HQ HE
            go_wp2_with (at_builtin; refine wpList_append_own_at _ rfl _ _ 70 rfl w.heap.size 88 i0 (.agg #[.string ⟨#[]⟩, .string ⟨#[]⟩, .string ⟨#[]⟩, .bool false, .bool false]) 5 56 Try.underlying70 hi hz0 hz1 hz2 rfl (by decide) _ _ _ rfl (hO1.alloc _) ⟨wr.heap.size + 1, 0, none⟩ 1 1 [.string key, .string x, .string ⟨#[]⟩, .bool true, .bool false] rfl rfl HC.out ?g2 ?g3 ?g4 ?g5 ?_)
            case g2 => first | (intro u hu; simp at hu; rcases hu with rfl | rfl | rfl | rfl | rfl <;> rfl) | simp [Value.oneCell']
            case g3 => unfold maxLen; omega
            case g4 => omega
            case g5 => first | omega | (simp; omega)
            intro v' w4 hO4 hg4 _ _
            obtain ⟨a', cap', rfl⟩ := own_slice' hO4
            have hb5 := below_grown1 hb1 hO1 hg4
            have hO5 : w4.ownsRow w.heap.size 88 5 (.slice a' (q + 1) cap') (q + 1) (flatP (mainK 4 key a b (i + 1))) := by rw [HP.out, flatP_snoc']; exact hO4
            clear hO1 hb1 HC HP hO4 hg4 c0
            go_wp2_with fail
            go_loopw [9, 12] (fun v j wi => j = .int .i64 0 ∧ v = .slice a' (q + 1) cap' ∧ wi.ownsRow w.heap.size 88 5 (.slice a' (q + 1) cap') (q + 1) (flatP (mainK 4 key a b (i + 1))) ∧ Below w.heap.size w wi) (fun _ _ _ => 0)
            case atStart => exact ⟨rfl, rfl, hO5, hb5⟩
            case round =>
              obtain ⟨rfl, rfl, hO6, hb6⟩ := hrel
              clear hO5 hb5
              go_wp2_with fail
              go_roundw
              case rel => exact ⟨i + 1, q + 1, a', cap', by omega, by go_num, rfl, HQ2, hO6, hb6⟩
              case measure => simp [intOf]; omega
          · have m0 : ((lb : Int) == 0) = false := by simp; omega
            have m1 : decide (0 < (lb : Int)) = true := by simp; omega
            have HP := Lib.hid (show mainK 5 key a b (i + 1) = mainK 5 key a b i ++ [leftP key x] by rw [HE.out, show headK 5 key x lb = [leftP key x] by unfold headK; rw [if_pos (by omega)], show bodyK 5 key x b = [] by exact if_neg (by omega), List.append_nil])
            have HQ2 : Hid ((mainK 5 key a b (i + 1)).length = q + 1) := Lib.hid (by rw [HP.out, List.length_append, HQ.out]; rfl)
            clear HQ HE
            go_wp2_with (at_builtin; refine wpList_append_own_at _ rfl _ _ 70 rfl w.heap.size 88 i0 (.agg #[.string ⟨#[]⟩, .string ⟨#[]⟩, .string ⟨#[]⟩, .bool false, .bool false]) 5 56 Try.underlying70 hi hz0 hz1 hz2 rfl (by decide) _ _ _ rfl (hO1.alloc _) ⟨wr.heap.size + 1, 0, none⟩ 1 1 [.string key, .string x, .string ⟨#[]⟩, .bool true, .bool false] rfl rfl HC.out ?g2 ?g3 ?g4 ?g5 ?_)
            case g2 => first | (intro u hu; simp at hu; rcases hu with rfl | rfl | rfl | rfl | rfl <;> rfl) | simp [Value.oneCell']
            case g3 => unfold maxLen; omega
            case g4 => omega
            case g5 => first | omega | (simp; omega)
            intro v' w4 hO4 hg4 _ _
            obtain ⟨a', cap', rfl⟩ := own_slice' hO4
            have hb5 := below_grown1 hb1 hO1 hg4
            have hO5 : w4.ownsRow w.heap.size 88 5 (.slice a' (q + 1) cap') (q + 1) (flatP (mainK 5 key a b (i + 1))) := by rw [HP.out, flatP_snoc']; exact hO4
            clear hO1 hb1 HC HP hO4 hg4 c0
            go_wp2_with fail
            go_loopw [9, 12] (fun v j wi => j = .int .i64 0 ∧ v = .slice a' (q + 1) cap' ∧ wi.ownsRow w.heap.size 88 5 (.slice a' (q + 1) cap') (q + 1) (flatP (mainK 5 key a b (i + 1))) ∧ Below w.heap.size w wi) (fun _ _ _ => 0)
            case atStart => exact ⟨rfl, rfl, hO5, hb5⟩
            case round =>
              obtain ⟨rfl, rfl, hO6, hb6⟩ := hrel
              clear hO5 hb5
              go_wp2_with fail
              go_roundw
              case rel => exact ⟨i + 1, q + 1, a', cap', by omega, by go_num, rfl, HQ2, hO6, hb6⟩
              case measure => simp [intOf]; omega
          · subst hl0
            have HP := Lib.hid (show mainK 6 key a b (i + 1) = mainK 6 key a b i ++ [leftP key x] by rw [HE.out, show headK 6 key x 0 = [leftP key x] by unfold headK; rw [if_pos (by omega)], show bodyK 6 key x b = [] by exact if_neg (by omega), List.append_nil])
            have HQ2 : Hid ((mainK 6 key a b (i + 1)).length = q + 1) := Lib.hid (by rw [HP.out, List.length_append, HQ.out]; rfl)
            clear HQ HE
            go_wp2_with (at_builtin; refine wpList_append_own_at _ rfl _ _ 70 rfl w.heap.size 88 i0 (.agg #[.string ⟨#[]⟩, .string ⟨#[]⟩, .string ⟨#[]⟩, .bool false, .bool false]) 5 56 Try.underlying70 hi hz0 hz1 hz2 rfl (by decide) _ _ _ rfl (hO1.alloc _) ⟨wr.heap.size + 1, 0, none⟩ 1 1 [.string key, .string x, .string ⟨#[]⟩, .bool true, .bool false] rfl rfl HC.out ?g2 ?g3 ?g4 ?g5 ?_)
            case g2 => first | (intro u hu; simp at hu; rcases hu with rfl | rfl | rfl | rfl | rfl <;> rfl) | simp [Value.oneCell']
            case g3 => unfold maxLen; omega
            case g4 => omega
            case g5 => first | omega | (simp; omega)
            intro v' w4 hO4 hg4 _ _
            obtain ⟨a', cap', rfl⟩ := own_slice' hO4
            have hb5 := below_grown1 hb1 hO1 hg4
            have hO5 : w4.ownsRow w.heap.size 88 5 (.slice a' (q + 1) cap') (q + 1) (flatP (mainK 6 key a b (i + 1))) := by rw [HP.out, flatP_snoc']; exact hO4
            clear hO1 hb1 HC HP hO4 hg4 c0
            go_wp2_with fail
            go_loopw [9, 12] (fun v j wi => j = .int .i64 0 ∧ v = .slice a' (q + 1) cap' ∧ wi.ownsRow w.heap.size 88 5 (.slice a' (q + 1) cap') (q + 1) (flatP (mainK 6 key a b (i + 1))) ∧ Below w.heap.size w wi) (fun _ _ _ => 0)
            case atStart => exact ⟨rfl, rfl, hO5, hb5⟩
            case round =>
              obtain ⟨rfl, rfl, hO6, hb6⟩ := hrel
              clear hO5 hb5
              go_wp2_with fail
              go_roundw
              case rel => exact ⟨i + 1, q + 1, a', cap', by omega, by go_num, rfl, HQ2, hO6, hb6⟩
              case measure => simp [intOf]; omega
    · obtain rfl : i = la := by omega
      have hE : oneK n key a b = mainK n key a b i ++ tailK n key i b := by rw [oneK_parts, h1.out]
      have HE := Lib.hid hE
      clear hE
      by_cases hT : i = 0 ∧ (n = 3 ∨ n = 4)
      · obtain ⟨hi0, hn3⟩ := hT
        have HT := Lib.hid (show tailK n key i b = b.map (rightP key) from if_pos ⟨hi0, hn3⟩)
        have i1 : ((i : Int) == 0) = true := by simpa using hi0
        clear hn hi0
        rcases hn3 with rfl | rfl
        · go_wp2_with fail
          go_loopw [9, 13] (fun v j wi => ∃ (k q : Nat) (g : Option Addr) (c : Nat), k ≤ lb ∧ j = .int .i64 k ∧ v = .slice g q c ∧ q ≤ 1001 * 1000 + k ∧ Hid ((mainK 3 key a b i ++ (b.map (rightP key)).take k).length = q) ∧ wi.ownsRow w.heap.size 88 5 (.slice g q c) q (flatP (mainK 3 key a b i ++ (b.map (rightP key)).take k)) ∧ Below w.heap.size w wi) (fun _ j _ => lb - (intOf j).toNat)
          case atStart => exact ⟨0, q, g, c, Nat.zero_le _, rfl, rfl, by omega, Lib.hid (by rw [List.take_zero, List.append_nil]; exact HQ.out), by rw [List.take_zero, List.append_nil]; exact hO, hb⟩
          case round =>
            clear HQ hO hb hq
            obtain ⟨k, q, g, c, hk, rfl, rfl, hq2, HQ, hO, hb⟩ := hrel
            by_cases hkl : k < lb
            · obtain ⟨b2, o2, y, rfl, hB2, hy, d0⟩ := (hB.below hb (Nat.le_refl _)).str hkl
              have HS := Lib.hid (map_take_succ (rightP key) hy)
              clear hy
              have hws2 : w.heap.size ≤ wr.heap.size := hb.size
              have HC := Lib.hid (cell_pair_new wr key ⟨#[]⟩ y false true 88)
              go_wp2_with (at_builtin; refine wpList_append_own_at _ rfl _ _ 70 rfl w.heap.size 88 i0 (.agg #[.string ⟨#[]⟩, .string ⟨#[]⟩, .string ⟨#[]⟩, .bool false, .bool false]) 5 56 Try.underlying70 hi hz0 hz1 hz2 rfl (by decide) _ _ _ rfl (hO.alloc _) ⟨wr.heap.size, 0, none⟩ 1 1 [.string key, .string ⟨#[]⟩, .string y, .bool false, .bool true] rfl rfl HC.out ?g2 ?g3 ?g4 ?g5 ?_)
              case g2 => first | (intro u hu; simp at hu; rcases hu with rfl | rfl | rfl | rfl | rfl <;> rfl) | simp [Value.oneCell']
              case g3 => unfold maxLen; omega
              case g4 => omega
              case g5 => first | omega | (simp; omega)
              intro v' w4 hO4 hg4 _ _
              obtain ⟨a', cap', rfl⟩ := own_slice' hO4
              have hb3 := below_grown1 hb hO hg4
              have HQ3 := Lib.hid (show (mainK 3 key a b i ++ (b.map (rightP key)).take (k + 1)).length = q + 1 by rw [HS.out, ← List.append_assoc, List.length_append, HQ.out]; rfl)
              have hO5 : w4.ownsRow w.heap.size 88 5 (.slice a' (q + 1) cap') (q + 1) (flatP (mainK 3 key a b i ++ (b.map (rightP key)).take (k + 1))) := by
                rw [HS.out, ← List.append_assoc, flatP_snoc']; exact hO4
              clear hO4 hg4 HC d0 HQ hO hb
              go_wp2_with fail
              go_roundw
              case rel => exact ⟨k + 1, q + 1, a', cap', by omega, by go_num, rfl, by omega, HQ3, hO5, hb3⟩
              case measure => simp [intOf]; omega
            · obtain rfl : k = lb := by omega
              have e : mainK 3 key a b i ++ (b.map (rightP key)).take k = oneK 3 key a b := by
                rw [HE.out, HT.out, List.take_of_length_le (by rw [List.length_map, h2.out]; omega)]
              have HQ3 := Lib.hid HQ.out
              rw [e] at HQ3 hO
              clear e
              go_wp2_with fail
              go_ret
              refine ⟨g, c, ?_, hb, ?_⟩
              · rw [HQ3.out]; rfl
              · rw [HQ3.out]; exact hO
        · go_wp2_with fail
          go_loopw [9, 13] (fun v j wi => ∃ (k q : Nat) (g : Option Addr) (c : Nat), k ≤ lb ∧ j = .int .i64 k ∧ v = .slice g q c ∧ q ≤ 1001 * 1000 + k ∧ Hid ((mainK 4 key a b i ++ (b.map (rightP key)).take k).length = q) ∧ wi.ownsRow w.heap.size 88 5 (.slice g q c) q (flatP (mainK 4 key a b i ++ (b.map (rightP key)).take k)) ∧ Below w.heap.size w wi) (fun _ j _ => lb - (intOf j).toNat)
          case atStart => exact ⟨0, q, g, c, Nat.zero_le _, rfl, rfl, by omega, Lib.hid (by rw [List.take_zero, List.append_nil]; exact HQ.out), by rw [List.take_zero, List.append_nil]; exact hO, hb⟩
          case round =>
            clear HQ hO hb hq
            obtain ⟨k, q, g, c, hk, rfl, rfl, hq2, HQ, hO, hb⟩ := hrel
            by_cases hkl : k < lb
            · obtain ⟨b2, o2, y, rfl, hB2, hy, d0⟩ := (hB.below hb (Nat.le_refl _)).str hkl
              have HS := Lib.hid (map_take_succ (rightP key) hy)
              clear hy
              have hws2 : w.heap.size ≤ wr.heap.size := hb.size
              have HC := Lib.hid (cell_pair_new wr key ⟨#[]⟩ y false true 88)
              go_wp2_with (at_builtin; refine wpList_append_own_at _ rfl _ _ 70 rfl w.heap.size 88 i0 (.agg #[.string ⟨#[]⟩, .string ⟨#[]⟩, .string ⟨#[]⟩, .bool false, .bool false]) 5 56 Try.underlying70 hi hz0 hz1 hz2 rfl (by decide) _ _ _ rfl (hO.alloc _) ⟨wr.heap.size, 0, none⟩ 1 1 [.string key, .string ⟨#[]⟩, .string y, .bool false, .bool true] rfl rfl HC.out ?g2 ?g3 ?g4 ?g5 ?_)
              case g2 => first | (intro u hu; simp at hu; rcases hu with rfl | rfl | rfl | rfl | rfl <;> rfl) | simp [Value.oneCell']
              case g3 => unfold maxLen; omega
              case g4 => omega
              case g5 => first | omega | (simp; omega)
              intro v' w4 hO4 hg4 _ _
              obtain ⟨a', cap', rfl⟩ := own_slice' hO4
              have hb3 := below_grown1 hb hO hg4
              have HQ3 := Lib.hid (show (mainK 4 key a b i ++ (b.map (rightP key)).take (k + 1)).length = q + 1 by rw [HS.out, ← List.append_assoc, List.length_append, HQ.out]; rfl)
              have hO5 : w4.ownsRow w.heap.size 88 5 (.slice a' (q + 1) cap') (q + 1) (flatP (mainK 4 key a b i ++ (b.map (rightP key)).take (k + 1))) := by
                rw [HS.out, ← List.append_assoc, flatP_snoc']; exact hO4
              clear hO4 hg4 HC d0 HQ hO hb
              go_wp2_with fail
              go_roundw
              case rel => exact ⟨k + 1, q + 1, a', cap', by omega, by go_num, rfl, by omega, HQ3, hO5, hb3⟩
              case measure => simp [intOf]; omega
            · obtain rfl : k = lb := by omega
              have e : mainK 4 key a b i ++ (b.map (rightP key)).take k = oneK 4 key a b := by
                rw [HE.out, HT.out, List.take_of_length_le (by rw [List.length_map, h2.out]; omega)]
              have HQ3 := Lib.hid HQ.out
              rw [e] at HQ3 hO
              clear e
              go_wp2_with fail
              go_ret
              refine ⟨g, c, ?_, hb, ?_⟩
              · rw [HQ3.out]; rfl
              · rw [HQ3.out]; exact hO
      · have HT : tailK n key i b = [] := if_neg hT
        have HO := HE.out
        rw [HT, List.append_nil] at HO
        have HW := Lib.hid HO
        have HZ := Lib.hid HQ.out
        clear HO HT HE HQ
        have hc : lb = 0 ∨ (0 < lb ∧ 0 < i) ∨ (0 < lb ∧ i = 0 ∧ (n = 1 ∨ n = 2 ∨ n = 5 ∨ n = 6)) := by omega
        clear hT hn
        rcases hc with rfl | ⟨hl0, hi0⟩ | ⟨hl0, hi0, hn3⟩
        · go_wp2_with fail
          go_loopw [9, 13] (fun v j wi => j = .int .i64 0 ∧ v = .slice g q c ∧ wi.ownsRow w.heap.size 88 5 (.slice g q c) q (flatP (mainK n key a b i)) ∧ Below w.heap.size w wi) (fun _ _ _ => 0)
          case atStart => exact ⟨rfl, rfl, hO, hb⟩
          case round =>
            clear hO hb
            obtain ⟨rfl, rfl, hO, hb⟩ := hrel
            go_wp2_with fail
            go_ret
            refine ⟨g, c, ?_, hb, ?_⟩
            · rw [HW.out, HZ.out]; rfl
            · rw [HW.out, HZ.out]; exact hO
        · have i1 : ((i : Int) == 0) = false := by simp; omega
          go_wp2_with fail
          go_loopw [9, 13] (fun v j wi => j = .int .i64 0 ∧ v = .slice g q c ∧ wi.ownsRow w.heap.size 88 5 (.slice g q c) q (flatP (mainK n key a b i)) ∧ Below w.heap.size w wi) (fun _ _ _ => 0)
          case atStart => exact ⟨rfl, rfl, hO, hb⟩
          case round =>
            clear hO hb
            obtain ⟨rfl, rfl, hO, hb⟩ := hrel
            go_wp2_with fail
            go_ret
            refine ⟨g, c, ?_, hb, ?_⟩
            · rw [HW.out, HZ.out]; rfl
            · rw [HW.out, HZ.out]; exact hO
        · have i1 : ((i : Int) == 0) = true := by simpa using hi0
          clear hi0
          rcases hn3 with rfl | rfl | rfl | rfl
          · go_wp2_with fail
            go_loopw [9, 13] (fun v j wi => j = .int .i64 0 ∧ v = .slice g q c ∧ wi.ownsRow w.heap.size 88 5 (.slice g q c) q (flatP (mainK 1 key a b i)) ∧ Below w.heap.size w wi) (fun _ _ _ => 0)
            case atStart => exact ⟨rfl, rfl, hO, hb⟩
            case round =>
              clear hO hb
              obtain ⟨rfl, rfl, hO, hb⟩ := hrel
              go_wp2_with fail
              go_ret
              refine ⟨g, c, ?_, hb, ?_⟩
              · rw [HW.out, HZ.out]; rfl
              · rw [HW.out, HZ.out]; exact hO
          · go_wp2_with fail
            go_loopw [9, 13] (fun v j wi => j = .int .i64 0 ∧ v = .slice g q c ∧ wi.ownsRow w.heap.size 88 5 (.slice g q c) q (flatP (mainK 2 key a b i)) ∧ Below w.heap.size w wi) (fun _ _ _ => 0)
            case atStart => exact ⟨rfl, rfl, hO, hb⟩
            case round =>
              clear hO hb
              obtain ⟨rfl, rfl, hO, hb⟩ := hrel
              go_wp2_with fail
              go_ret
              refine ⟨g, c, ?_, hb, ?_⟩
              · rw [HW.out, HZ.out]; rfl
              · rw [HW.out, HZ.out]; exact hO
          · go_wp2_with fail
            go_loopw [9, 13] (fun v j wi => j = .int .i64 0 ∧ v = .slice g q c ∧ wi.ownsRow w.heap.size 88 5 (.slice g q c) q (flatP (mainK 5 key a b i)) ∧ Below w.heap.size w wi) (fun _ _ _ => 0)
            case atStart => exact ⟨rfl, rfl, hO, hb⟩
            case round =>
              clear hO hb
              obtain ⟨rfl, rfl, hO, hb⟩ := hrel
              go_wp2_with fail
              go_ret
              refine ⟨g, c, ?_, hb, ?_⟩
              · rw [HW.out, HZ.out]; rfl
              · rw [HW.out, HZ.out]; exact hO
          · go_wp2_with fail
            go_loopw [9, 13] (fun v j wi => j = .int .i64 0 ∧ v = .slice g q c ∧ wi.ownsRow w.heap.size 88 5 (.slice g q c) q (flatP (mainK 6 key a b i)) ∧ Below w.heap.size w wi) (fun _ _ _ => 0)
            case atStart => exact ⟨rfl, rfl, hO, hb⟩
            case round =>
              clear hO hb
              obtain ⟨rfl, rfl, hO, hb⟩ := hrel
              go_wp2_with fail
              go_ret
              refine ⟨g, c, ?_, hb, ?_⟩
              · rw [HW.out, HZ.out]; rfl
              · rw [HW.out, HZ.out]; exact hO
end Go.Proofs.Ytgdbpckobngmjaa

namespace Go.Proofs.Ytgdbpckobngmjaa
open Go.RowKit
/-- A goal that no walk goes on with. -/
def Halt_ (p : Prop) : Prop := p
theorem halt_ {p : Prop} (h : Halt_ p) : p := h
theorem unhalt_ {p : Prop} (h : p) : Halt_ p := h
theorem own_under {w w' : World} {base e s n B : Nat} {v : Value} {xs : List Value} (h : w.ownsRow base e s v n xs) (hb : Below B w w') (hv : ∀ g, v.ownBlock = some g → g < B) : w'.ownsRow base e s v n xs := by
  refine ⟨h.1, ?_⟩
  rcases h.2 with h0 | ⟨g, c, cur, rfl, hg, hh, h1, h2, h3, h4⟩
  · exact .inl h0
  · exact .inr ⟨g, c, cur, rfl, hg, (hb.block g (hv g (by simp [Value.ownBlock]))).trans hh, h1, h2, h3, h4⟩
theorem blk_lt {b o n c B : Nat} (h : b < B) : ∀ g, (Value.slice (some ⟨b, o, none⟩) n c).ownBlock = some g → g < B := fun g e => by
  have : b = g := by simpa [Value.ownBlock] using e
  omega
theorem RdIn.str_at {w : World} {lo hi n k kb ko : Nat} {KS : List ByteArray} {key : ByteArray} (h : RdIn w lo hi 1 (some ⟨kb, ko, none⟩) n (strC KS)) (hk : KS[k]? = some key) : w.cell? ⟨kb, ko + k, none⟩ = some (.string key) := by
  have hl : KS.length = n := by have := h.1; simpa [strC] using this
  have hkl := (List.getElem?_eq_some_iff.1 hk).1
  obtain ⟨b, off, e, _, _, hc⟩ := h.2 (by omega)
  injection e with e
  injection e with e1 e2
  subst e1 e2
  exact hc k (.string key) (by simp [strC, hk])
theorem oneK_le {n : Int} {key : ByteArray} {a b : List ByteArray} (ha : a.length ≤ 120) (hb : b.length ≤ 120) : (oneK n key a b).length ≤ 200000 := by
  rw [oneK_parts, List.length_append]
  have h1 := mainK_le (n := n) (key := key) (a := a) (b := b) (by omega) a.length
  have h2 : (tailK n key a.length b).length ≤ 120 := by
    unfold tailK
    split
    · simpa using hb
    · simp
  have h3 : a.length * 1001 ≤ 120 * 1001 := Nat.mul_le_mul_right _ ha
  omega
/-- What a join tells of the first i keys. -/
def l5JK (n : Int) (a b : List RowV) (i : Nat) : List PairV := ((keysOf (sortL (a ++ b))).take i).flatMap fun key => oneK n key (valsK (sortL a) key) (valsK (sortL b) key)
theorem l5JK_succ {n : Int} {a b : List RowV} {i : Nat} {key : ByteArray} (h : (keysOf (sortL (a ++ b)))[i]? = some key) : l5JK n a b (i + 1) = l5JK n a b i ++ oneK n key (valsK (sortL a) key) (valsK (sortL b) key) := by
  unfold l5JK
  rw [List.take_add_one, h, Option.toList_some, List.flatMap_append, List.flatMap_singleton]
theorem l5JK_all {n : Int} {a b : List RowV} {i : Nat} (h : (keysOf (sortL (a ++ b))).length ≤ i) : l5JK n a b i = l5J n a b := by
  unfold l5JK l5J
  rw [List.take_of_length_le h]
theorem flat_one5 (rs : List RowV) : ∀ u ∈ flat rs, u.oneCell' = true := by
  intro u hu
  unfold flat at hu
  obtain ⟨r, _, hr⟩ := List.mem_flatMap.1 hu
  simp [RowV.cells] at hr
  rcases hr with rfl | rfl | rfl <;> rfl
set_option maxRecDepth 100000 in
set_option maxHeartbeats 4000000 in
theorem l5Join_any (n : Int) (hn : n = 1 ∨ n = 2 ∨ n = 3 ∨ n = 4 ∨ n = 5 ∨ n = 6) (aa ba : Option Addr) (la ca lb cb : Nat) (a b : List RowV) (w : World) (hla : la ≤ 120) (hlb : lb ≤ 120) (hA : Rd w w.heap.size 3 aa la (flat a)) (hB : Rd w w.heap.size 3 ba lb (flat b)) :
    Calls Try.prog 134 #[.slice aa la ca, .slice ba lb cb, .int .i64 n] w (PairsOut w (l5J n a b)) := by
  obtain ⟨i0, hi, hz0, hz1, hz2⟩ := info_parts infoPair
  obtain ⟨j0, hj, hy0, hy1, hy2⟩ := info_parts infoRow
  have hal := hA.rows_length
  have hbl := hB.rows_length
  have hb0 : Below w.heap.size w ((w.alloc (.cells #[] 88)).alloc (.cells #[] 68)) := bl2 _ _ _
  have hs0 : (w.alloc (.cells #[] 88)).heap.size = w.heap.size + 1 := by simp
  have hOn := own_below (World.ownsRow_lit (base := w.heap.size) (e := 88) (size := 5) w #[] 0 (Nat.le_refl _) (Nat.zero_le _) rfl) (bl1 (w.alloc (.cells #[] 88)) (.cells #[] 68))
  have R0 := World.ownsRow_lit (base := (w.alloc (.cells #[] 88)).heap.size) (e := 68) (size := 3) (w.alloc (.cells #[] 88)) #[] 0 (Nat.le_refl _) (Nat.zero_le _) rfl
  rw [hs0] at R0
  clear hs0
  have A0 := hA.below hb0 (Nat.le_refl _)
  have B0 := hB.below hb0 (Nat.le_refl _)
  have g1 : 0 + la ≤ maxLen := by unfold maxLen; omega
  have g2 : (0 + la) * 40 ≤ 140737488355328 := by omega
  have g3 : w.heap.size + 1 ≤ ((w.alloc (.cells #[] 88)).alloc (.cells #[] 68)).heap.size := by simp
  have g4 : 0 + la + lb ≤ maxLen := by unfold maxLen; omega
  have g5 : (0 + la + lb) * 40 ≤ 140737488355328 := by omega
  have HA := Lib.hid hA
  have HB := Lib.hid hB
  clear hA hB
  go_enter Try.func134, Try.ntmps134
  go_wp2_with (at_builtin; refine wpList_append_rd rfl _ _ 27 rfl (w.heap.size + 1) 68 j0 (.agg #[.string ⟨#[]⟩, .int .i64 0, .string ⟨#[]⟩]) 3 40 Try.underlying27 hj hy0 hy1 hy2 rfl (by decide) _ _ _ rfl R0 _ _ _ _ _ rfl A0 (flat_one5 _) g1 g2 g3 ?_; intro v1 w1 hO1 hg1 hx1; clear hx1; refine halt_ ?_)
  refine unhalt_ ?_
  rw [List.nil_append] at hO1
  obtain ⟨a1, c1, rfl⟩ := own_slice' hO1
  have hb1 : Below (w.heap.size + 1) ((w.alloc (.cells #[] 88)).alloc (.cells #[] 68)) w1 := gb_below hg1 g3 (fun q e => (own_ge R0 q e).1)
  have O1 := own_under hOn hb1 (blk_lt (Nat.lt_succ_self _))
  have Bw1 := hb0.trans (hb1.mono (Nat.le_succ _))
  have B1 := B0.below hb1 (Nat.le_succ _)
  have g6 : w.heap.size + 1 ≤ w1.heap.size := Nat.le_trans g3 hb1.size
  clear hg1 hb1 hOn R0 A0 B0 hb0 g3
  generalize ((w.alloc (.cells #[] 88)).alloc (.cells #[] 68)) = w0 at *
  go_wp2_with (at_builtin; refine wpList_append_rd rfl _ _ 27 rfl (w.heap.size + 1) 68 j0 (.agg #[.string ⟨#[]⟩, .int .i64 0, .string ⟨#[]⟩]) 3 40 Try.underlying27 hj hy0 hy1 hy2 rfl (by decide) _ _ _ rfl hO1 _ _ _ _ _ rfl B1 (flat_one5 _) g4 g5 g6 ?_; intro v2 w2 hO2 hg2 hx2; clear hx2; refine halt_ ?_)
  refine unhalt_ ?_
  rw [← flat_append, Nat.zero_add] at hO2
  obtain ⟨a2, c2, rfl⟩ := own_slice' hO2
  have hb2 : Below (w.heap.size + 1) w1 w2 := gb_below hg2 g6 (fun q e => (own_ge hO1 q e).1)
  have O2 := own_under O1 hb2 (blk_lt (Nat.lt_succ_self _))
  have Bw2 := Bw1.trans (hb2.mono (Nat.le_succ _))
  have s2 : w.heap.size + 1 ≤ w2.heap.size := Nat.le_trans g6 hb2.size
  clear hg2 hb2 O1 Bw1 B1 hO1 g6
  go_wp2_with fail
  refine (l5Keys_any a2 (la + lb) c2 (a ++ b) w2 (by omega) (Rd.of_own hO2)).mono ?_
  rintro e w3 ⟨ka, kc, rfl, hb3, hK⟩
  have O3 := own_below O2 hb3
  have Bw3 := Bw2.trans (hb3.mono Bw2.size)
  have K3 := RdIn.of_own hK
  have s3 := hb3.size
  have hkl : (keysOf (sortL (a ++ b))).length ≤ 240 := by
    have h1 := keysOf_le (sortL (a ++ b))
    rw [sortL_length, List.length_append, hal, hbl] at h1
    omega
  have A3 : Apart w2.heap.size w3.heap.size (.slice (some ⟨w.heap.size, 0, none⟩) 0 0) := Apart.at_ (.inl (by omega))
  have HV := Lib.hid (show ∀ k, (valsK (sortL a) k).length ≤ 120 ∧ (valsK (sortL b) k).length ≤ 120 from fun k => by
    have h1 := valsK_le (sortL a) k
    have h2 := valsK_le (sortL b) k
    rw [sortL_length] at h1 h2
    omega)
  have HKey := Lib.hid (show ∀ i key, (keysOf (sortL (a ++ b)))[i]? = some key → l5JK n a b (i + 1) = l5JK n a b i ++ oneK n key (valsK (sortL a) key) (valsK (sortL b) key) from fun i key h => l5JK_succ h)
  have HAll := Lib.hid (show ∀ i, (keysOf (sortL (a ++ b))).length ≤ i → l5JK n a b i = l5J n a b from fun i h => l5JK_all h)
  have HZ := Lib.hid (show l5JK n a b 0 = [] from rfl)
  clear hO2 O2 Bw2 hK hb3 hal hbl g1 g2 g4 g5
  generalize keysOf (sortL (a ++ b)) = KS at *
  obtain ⟨kn, hkn⟩ : ∃ kn, KS.length = kn := ⟨_, rfl⟩
  rw [hkn] at K3 hkl HAll ⊢
  clear hkn
  go_wp2_with fail
  go_loopw [7, 9] (fun v i wr => ∃ (k q : Nat) (g : Option Addr) (c : Nat), k ≤ kn ∧ i = .int .i64 k ∧ v = .slice g q c ∧ q ≤ 200000 * k ∧ Hid ((l5JK n a b k).length = q) ∧ wr.ownsRow w.heap.size 88 5 (.slice g q c) q (flatP (l5JK n a b k)) ∧ Below w.heap.size w wr ∧ RdIn wr w2.heap.size w3.heap.size 1 ka kn (strC KS) ∧ Hid (Apart w2.heap.size w3.heap.size (.slice g q c)) ∧ w3.heap.size ≤ wr.heap.size) (fun _ i _ => kn - (intOf i).toNat)
  case atStart => exact ⟨0, 0, _, _, Nat.zero_le _, rfl, rfl, by omega, Lib.hid (by rw [HZ.out]; rfl), by rw [HZ.out]; exact O3, Bw3, K3, Lib.hid A3, Nat.le_refl _⟩
  case round =>
    obtain ⟨k, q, g, c, hk, rfl, rfl, hq, HQ, hO, hb, hK, HP, hs⟩ := hrel
    clear O3 Bw3 K3 A3
    by_cases hlt : k < kn
    · obtain ⟨kb, ko, key, rfl, hKB, hkey, c0⟩ := hK.rd.str hlt
      have HE := Lib.hid (HKey.out k key hkey)
      have HKS := Lib.hid hkey
      clear hkey
      obtain ⟨hv1, hv2⟩ := HV.out key
      have h1 := oneK_le (n := n) (key := key) hv1 hv2
      have hws : w.heap.size ≤ wr.heap.size := hb.size
      have hkb : kb < wr.heap.size := Nat.lt_of_lt_of_le hKB hs
      have hd := (Below.refl wr.heap.size wr).drew
      have CA := Lib.hid (l5Vals_any aa la ca a key wr.drew (by omega) ((HA.out.below hb.drew (Nat.le_refl _)).more hws))
      have CB := Lib.hid (fun (W : World) (hW : Below wr.drew.heap.size wr.drew W) => l5Vals_any ba lb cb b key W (by omega) ((HB.out.below (hb.drew.trans (hW.mono hws)) (Nat.le_refl _)).more (Nat.le_trans hws hW.size)))
      have CP := Lib.hid (fun (W : World) (x : Option Addr) (xc : Nat) (y : Option Addr) (yc : Nat) (h : Rd W W.heap.size 1 x (valsK (sortL a) key).length (strC (valsK (sortL a) key))) (h' : Rd W W.heap.size 1 y (valsK (sortL b) key).length (strC (valsK (sortL b) key))) => l5Pairs_any n hn key x y (valsK (sortL a) key).length xc (valsK (sortL b) key).length yc (valsK (sortL a) key) (valsK (sortL b) key) W (Nat.le_trans hv1 (by omega)) (Nat.le_trans hv2 (by omega)) h h')
      have HS0 := Lib.hid (show wr.drew.cell? ⟨kb, ko + k, none⟩ = some (.string key) ∧ Below w.heap.size w wr.drew from ⟨c0, hb.drew⟩)
      have HOd := Lib.hid (own_below hO hd)
      have hp1 : q + (oneK n key (valsK (sortL a) key) (valsK (sortL b) key)).length ≤ maxLen := by unfold maxLen; omega
      have hp2 : (q + (oneK n key (valsK (sortL a) key) (valsK (sortL b) key)).length) * 56 ≤ 140737488355328 := by omega
      have HKd := Lib.hid (hK.below hd hs)
      clear hd hO hb hK
      generalize oneK n key (valsK (sortL a) key) (valsK (sortL b) key) = pl at *
      go_wp2_with fail
      go_region_held3 (fun w' => w'.cell? ⟨kb, ko + k, none⟩ = some (.string key) ∧ Below w.heap.size w w') (first | exact HS0.out | exact hG4 | exact hG3 | exact hG2 | exact hG1)
        (first
          | (go_at_call 105; (with_reducible refine CA.out.mono ?_); rintro e w5 ⟨va, vac, rfl, hb5, hO5⟩; have hG1 : w5.cell? ⟨kb, ko + k, none⟩ = some (.string key) ∧ Below w.heap.size w w5 := ⟨(hb5.cell (p := ⟨kb, ko + k, none⟩) hkb).trans HS0.out.1, HS0.out.2.trans (hb5.mono hws)⟩)
          | (go_at_call 105; (with_reducible refine (CB.out w5 hb5).mono ?_); rintro e w6 ⟨vb, vbc, rfl, hb6, hO6⟩; have hG2 : w6.cell? ⟨kb, ko + k, none⟩ = some (.string key) ∧ Below w.heap.size w w6 := ⟨(hb6.cell (p := ⟨kb, ko + k, none⟩) (Nat.lt_of_lt_of_le hkb hb5.size)).trans hG1.1, hG1.2.trans (hb6.mono hG1.2.size)⟩)
          | (go_at_call 146; (with_reducible refine (CP.out w6 va vac vb vbc (Rd.of_own (own_below hO5 hb6)) (Rd.of_own hO6)).mono ?_); rintro e w7 ⟨pa, pc, rfl, hb7, hO7⟩; have hG3 : w7.cell? ⟨kb, ko + k, none⟩ = some (.string key) ∧ Below w.heap.size w w7 := ⟨(hb7.cell (p := ⟨kb, ko + k, none⟩) (Nat.lt_of_lt_of_le hkb (Nat.le_trans hb5.size hb6.size))).trans hG2.1, hG2.2.trans (hb7.mono hG2.2.size)⟩)
          | (refine step_append_g (by rfl) (.tmp 23) (.tmp 41) 70 (by rfl) w.heap.size 88 i0 (.agg #[.string ⟨#[]⟩, .string ⟨#[]⟩, .string ⟨#[]⟩, .bool false, .bool false]) 5 56 Try.underlying70 hi hz0 hz1 hz2 rfl (by decide) (.slice g q c) q (flatP (l5JK n a b k)) (by rfl) (own_below (own_below (own_below HOd.out hb5) hb6) hb7) pa _ pl.length pc (flatP pl) (by rfl) (Rd.of_own hO7) (flatP_one _) hp1 hp2 hG3.2.size ?_; intro v8 w8 hO8 hg8 hat8; rw [← flatP_append] at hO8; obtain ⟨a8, c8, rfl⟩ := own_slice' hO8; have hK7 := ((HKd.out.below hb5 hs).below hb6 (Nat.le_trans hs hb5.size)).below hb7 (Nat.le_trans hs (Nat.le_trans hb5.size hb6.size)); have hs7 : w3.heap.size ≤ w7.heap.size := Nat.le_trans hs (Nat.le_trans hb5.size (Nat.le_trans hb6.size hb7.size)); have hK8 := hK7.gb hg8 hs7 HP.out; have hG4 : w8.cell? ⟨kb, ko + k, none⟩ = some (.string key) ∧ Below w.heap.size w w8 := ⟨hK8.str_at HKS.out, hG3.2.grown hg8 hG3.2.size (fun q e => (own_ge (own_below (own_below (own_below HOd.out hb5) hb6) hb7) q e).1)⟩))
      have HP8 := Lib.hid (HP.out.next hat8 hs7)
      have hs8 : w3.heap.size ≤ w8.heap.size := Nat.le_trans hs7 hg8.size
      have HQ8 := Lib.hid (show (l5JK n a b (k + 1)).length = q + pl.length by rw [HE.out, List.length_append, HQ.out])
      rw [← HE.out] at hO8
      have hb8 := hG4.2
      clear hG1 hG2 hG3 hG4 hb5 hb6 hb7 hO5 hO6 hO7 hg8 hat8 hK7 hs7 HS0 HOd HKd CA CB CP HP HQ HE c0 hp1 hp2
      go_wp2_with fail
      go_roundw
      case rel => exact ⟨k + 1, q + pl.length, a8, c8, by omega, by go_num, rfl, by omega, HQ8, hO8, hb8, hK8, HP8, hs8⟩
      case measure => simp [intOf]; omega
    · obtain rfl : k = kn := by omega
      have e := HAll.out k (Nat.le_refl _)
      have hl := HQ.out
      rw [e] at hO hl
      have HL := Lib.hid hl
      clear e hl
      go_wp2_with fail
      go_ret
      refine ⟨g, c, ?_, hb, ?_⟩
      · rw [HL.out]; rfl
      · rw [HL.out]; exact hO
end Go.Proofs.Ytgdbpckobngmjaa

namespace Go.Proofs.Ytgdbpckobngmjaa
open Go.RowKit
def kindB (n : Int) : Bool := decide (1 ≤ n) && decide (n ≤ 6)
theorem kindB_iff {n : Int} : kindB n = true ↔ (n = 1 ∨ n = 2 ∨ n = 3 ∨ n = 4 ∨ n = 5 ∨ n = 6) := by
  unfold kindB
  rw [Bool.and_eq_true, decide_eq_true_eq, decide_eq_true_eq]
  omega
theorem kindOf_some (n : Int) : (kindOf n).isSome = kindB n := by
  cases h : kindB n
  · have h2 : ¬ (n = 1 ∨ n = 2 ∨ n = 3 ∨ n = 4 ∨ n = 5 ∨ n = 6) := fun e => by rw [kindB_iff.2 e] at h; cases h
    simp only [not_or] at h2
    obtain ⟨g1, g2, g3, g4, g5, g6⟩ := h2
    simp [kindOf, g1, g2, g3, g4, g5, g6]
  · rcases kindB_iff.1 h with rfl | rfl | rfl | rfl | rfl | rfl <;> rfl
theorem flatMap_len {α β : Type} {f : α → List β} {M : Nat} : ∀ {l : List α}, (∀ x, (f x).length ≤ M) → (l.flatMap f).length ≤ l.length * M
  | [], _ => by simp
  | x :: l, h => by
    have ih := flatMap_len (l := l) h
    have := h x
    rw [List.flatMap_cons, List.length_append, List.length_cons, Nat.succ_mul]
    omega
theorem oneK_le2 {n : Int} {key : ByteArray} {a b : List ByteArray} (ha : a.length ≤ 120) (hb : b.length ≤ 120) : (oneK n key a b).length ≤ 14640 := by
  have h1 : ∀ x : ByteArray, (headK n key x b.length ++ bodyK n key x b).length ≤ 121 := by
    intro x
    have h1 : (headK n key x b.length).length ≤ 1 := by
      unfold headK
      split
      · simp
      · split <;> simp
    have h2 : (bodyK n key x b).length ≤ 120 := by
      unfold bodyK
      split
      · simpa using hb
      · simp
    rw [List.length_append]
    omega
  have h2 : (tailK n key a.length b).length ≤ 120 := by
    unfold tailK
    split
    · simpa using hb
    · simp
  have h3 := flatMap_len (l := a) h1
  have e : oneK n key a b = (a.flatMap fun x => headK n key x b.length ++ bodyK n key x b) ++ tailK n key a.length b := rfl
  rw [e, List.length_append]
  have h4 : a.length * 121 ≤ 120 * 121 := Nat.mul_le_mul_right _ ha
  omega
theorem l5J_le {n : Int} {a b : List RowV} (ha : a.length ≤ 120) (hb : b.length ≤ 120) : (l5J n a b).length ≤ 4194304 := by
  have h1 : ∀ key, (oneK n key (valsK (sortL a) key) (valsK (sortL b) key)).length ≤ 14640 := fun key => by
    have h1 := valsK_le (sortL a) key
    have h2 := valsK_le (sortL b) key
    rw [sortL_length] at h1 h2
    exact oneK_le2 (by omega) (by omega)
  have h2 := flatMap_len (l := keysOf (sortL (a ++ b))) h1
  have h3 := keysOf_le (sortL (a ++ b))
  rw [sortL_length, List.length_append] at h3
  have h4 : (keysOf (sortL (a ++ b))).length * 14640 ≤ 240 * 14640 := Nat.mul_le_mul_right _ (by omega)
  unfold l5J
  omega
theorem rowsOk_le5 {rs : List RowV} (h : rowsOk rs = true) : rs.length ≤ 120 := by
  unfold rowsOk at h
  exact of_decide_eq_true (Bool.and_eq_true _ _ ▸ h).1
def joinOfB (a b : List RowV) (n : Int) : Bool := rowsOk a && rowsOk b && kindB n
def joinOfS (a b : List RowV) (n : Int) : List PairV := if joinOfB a b n = true then l5J n a b else []
theorem joinOfS_le (a b : List RowV) (n : Int) : (joinOfS a b n).length ≤ 4194304 := by
  unfold joinOfS
  split
  · rename_i h
    simp only [joinOfB, Bool.and_eq_true] at h
    exact l5J_le (rowsOk_le5 h.1.1) (rowsOk_le5 h.1.2)
  · simp
def PairsB (w : World) (l : List PairV) (q : Bool) (e : Ending) (w' : World) : Prop := ∃ a c, e = .returned (.tuple #[.slice a l.length c, .bool q]) ∧ Below w.heap.size w w' ∧ w'.ownsRow w.heap.size 88 5 (.slice a l.length c) l.length (flatP l)
theorem PairsB.no {w w' : World} (hb : Below w.heap.size w w') : PairsB w [] false (.returned (.tuple #[.slice none 0 0, .bool false])) w' := ⟨none, 0, rfl, hb, World.ownsRow_nil _ _ _ _⟩
set_option maxRecDepth 100000 in
theorem l1In_kind (n : Int) (b : Bool) (w : World) (h : kindB n = b) : Calls Try.prog 66 #[.int .i64 n, .int .i64 1, .int .i64 6] w fun e w' => e = .returned (.bool b) ∧ Below w.heap.size w w' := by
  unfold kindB at h
  have E := Lib.hid h
  clear h
  by_cases h1 : 1 ≤ n
  · have d1 : decide (1 ≤ n) = true := by simp [h1]
    go_enter Try.func66, Try.ntmps66
    go_wp2
    go_ret
    exact ⟨ret_bool (by rw [← E.out, d1, Bool.true_and]), Below.refl _ _⟩
  · have d1 : decide (1 ≤ n) = false := by simp [h1]
    go_enter Try.func66, Try.ntmps66
    go_wp2
    go_ret
    exact ⟨ret_bool (by rw [← E.out, d1, Bool.false_and]), Below.refl _ _⟩
set_option maxRecDepth 100000 in
theorem l5Kind_any (n : Int) (b : Bool) (w : World) (h : kindB n = b) : Calls Try.prog 133 #[.int .i64 n] w fun e w' => e = .returned (.bool b) ∧ Below w.heap.size w w' := by
  have C := l1In_kind n b w h
  clear h
  go_enter Try.func133, Try.ntmps133
  go_wp2_with fail
  refine C.mono ?_
  rintro e w1 ⟨rfl, hb⟩
  go_wp2_with fail
  go_ret
  exact ⟨rfl, hb⟩
theorem joinOf_no {a b : List RowV} {n : Int} (h : joinOfB a b n = false) : joinOfS a b n = [] := by unfold joinOfS; rw [h]; rfl
theorem joinOf_yes {a b : List RowV} {n : Int} (h : joinOfB a b n = true) : joinOfS a b n = l5J n a b := by unfold joinOfS; rw [if_pos h]
set_option maxRecDepth 100000 in
set_option maxHeartbeats 2000000 in
theorem specJoinOf_any (a0 : Option Addr) (len0 cap0 : Nat) (x0 : List RowV) (a1 : Option Addr) (len1 cap1 : Nat) (x1 : List RowV) (n : Int) (w : World) (hm0 : len0 ≤ 1048576) (hok0 : ∀ r ∈ x0, r.Ok) (hR0 : Rd w w.heap.size 3 a0 len0 (flat x0)) (hm1 : len1 ≤ 1048576) (hok1 : ∀ r ∈ x1, r.Ok) (hR1 : Rd w w.heap.size 3 a1 len1 (flat x1)) :
    Calls Try.prog 101 #[.slice a0 len0 cap0, .slice a1 len1 cap1, .int .i64 n] w (PairsB w (joinOfS x0 x1 n) (joinOfB x0 x1 n)) := by
  have C0 := specRowsOk_any a0 len0 cap0 x0 w hm0 hok0 hR0
  have hl0 := hR0.rows_length
  have hl1 := hR1.rows_length
  cases h0 : rowsOk x0
  · have hB : joinOfB x0 x1 n = false := by unfold joinOfB; rw [h0]; rfl
    rw [joinOf_no hB, hB]
    rw [h0] at C0
    clear h0 hB hl0 hl1
    go_enter Try.func101, Try.ntmps101
    go_wp2_with fail
    refine C0.mono ?_
    rintro e w1 ⟨rfl, hb⟩
    go_wp2_with fail
    go_ret2
    exact PairsB.no hb
  rw [h0] at C0
  cases h1 : rowsOk x1
  · have hB : joinOfB x0 x1 n = false := by unfold joinOfB; rw [h1, Bool.and_false]; rfl
    rw [joinOf_no hB, hB]
    clear h0 hB hl0 hl1
    go_enter Try.func101, Try.ntmps101
    go_wp2_with fail
    refine C0.mono ?_
    rintro e w1 ⟨rfl, hb⟩
    have C1 := specRowsOk_any a1 len1 cap1 x1 w1 hm1 hok1 ((hR1.below hb (Nat.le_refl _)).more hb.size)
    rw [h1] at C1
    clear h1
    go_wp2_with fail
    refine C1.mono ?_
    rintro e w2 ⟨rfl, hb2⟩
    have B2 := hb.trans (hb2.mono hb.size)
    go_wp2_with fail
    go_ret2
    exact PairsB.no B2
  cases h2 : kindB n
  · have hB : joinOfB x0 x1 n = false := by unfold joinOfB; rw [h2, Bool.and_false]
    rw [joinOf_no hB, hB]
    clear h0 hB hl0 hl1
    go_enter Try.func101, Try.ntmps101
    go_wp2_with fail
    refine C0.mono ?_
    rintro e w1 ⟨rfl, hb⟩
    have C1 := specRowsOk_any a1 len1 cap1 x1 w1 hm1 hok1 ((hR1.below hb (Nat.le_refl _)).more hb.size)
    rw [h1] at C1
    clear h1
    go_wp2_with fail
    refine C1.mono ?_
    rintro e w2 ⟨rfl, hb2⟩
    have B2 := hb.trans (hb2.mono hb.size)
    have C2 := l5Kind_any n false w2 h2
    clear h2
    go_wp2_with fail
    refine C2.mono ?_
    rintro e w3 ⟨rfl, hb3⟩
    have B3 := B2.trans (hb3.mono B2.size)
    go_wp2_with fail
    go_ret2
    exact PairsB.no B3
  have hB : joinOfB x0 x1 n = true := by unfold joinOfB; rw [h0, h1, h2]; rfl
  rw [joinOf_yes hB, hB]
  have q0 : len0 ≤ 120 := by rw [← hl0]; exact rowsOk_le5 h0
  have q1 : len1 ≤ 120 := by rw [← hl1]; exact rowsOk_le5 h1
  have hn := kindB_iff.1 h2
  clear hB hl0 hl1 h0
  go_enter Try.func101, Try.ntmps101
  go_wp2_with fail
  refine C0.mono ?_
  rintro e w1 ⟨rfl, hb⟩
  have C1 := specRowsOk_any a1 len1 cap1 x1 w1 hm1 hok1 ((hR1.below hb (Nat.le_refl _)).more hb.size)
  rw [h1] at C1
  clear h1
  go_wp2_with fail
  refine C1.mono ?_
  rintro e w2 ⟨rfl, hb2⟩
  have B2 := hb.trans (hb2.mono hb.size)
  have C2 := l5Kind_any n true w2 h2
  clear h2
  have HN := Lib.hid hn
  clear hn
  go_wp2_with fail
  refine C2.mono ?_
  rintro e w3 ⟨rfl, hb3⟩
  have B3 := B2.trans (hb3.mono B2.size)
  have C3 := l5Join_any n HN.out a0 a1 len0 cap0 len1 cap1 x0 x1 w3 q0 q1 ((hR0.below B3 (Nat.le_refl _)).more B3.size) ((hR1.below B3 (Nat.le_refl _)).more B3.size)
  clear C0 C1 C2
  go_wp2_with fail
  refine C3.mono ?_
  rintro e w4 ⟨a, c, rfl, hb4, hO⟩
  have B4 := B3.trans (hb4.mono B3.size)
  generalize l5J n x0 x1 = ll at *
  have hO4 := own_base' hO B3.size
  clear C3
  go_wp2_with fail
  go_ret2
  exact ⟨a, c, rfl, B4, hO4⟩
theorem sortedR_yes {rs : List RowV} (h : rowsOk rs = true) : sortedR rs = sortL rs := if_pos h
set_option maxRecDepth 100000 in
set_option maxHeartbeats 2000000 in
theorem implJoinOf_any (a0 : Option Addr) (len0 cap0 : Nat) (x0 : List RowV) (a1 : Option Addr) (len1 cap1 : Nat) (x1 : List RowV) (n : Int) (w : World) (hm0 : len0 ≤ 1048576) (hok0 : ∀ r ∈ x0, r.Ok) (hR0 : Rd w w.heap.size 3 a0 len0 (flat x0)) (hm1 : len1 ≤ 1048576) (hok1 : ∀ r ∈ x1, r.Ok) (hR1 : Rd w w.heap.size 3 a1 len1 (flat x1)) :
    Calls Try.prog 63 #[.slice a0 len0 cap0, .slice a1 len1 cap1, .int .i64 n] w (PairsB w (joinOfS x0 x1 n) (joinOfB x0 x1 n)) := by
  have C0 := implSorted_any a0 len0 cap0 x0 w hm0 hok0 hR0
  have hl0 := hR0.rows_length
  have hl1 := hR1.rows_length
  have hks := kindOf_some n
  have HQ0 := Lib.hid (fun h : rowsOk x0 = true => rowsOk_le5 h)
  have HQ1 := Lib.hid (fun h : rowsOk x1 = true => rowsOk_le5 h)
  have HB := Lib.hid (show joinOfB x0 x1 n = (rowsOk x0 && rowsOk x1 && kindB n) from rfl)
  go_enter Try.func63, Try.ntmps63
  go_wp2_with fail
  refine C0.mono ?_
  clear C0
  rintro e w1 ⟨p0, pc0, rfl, hb1, hO1⟩
  have C1 := implSorted_any a1 len1 cap1 x1 w1 hm1 hok1 ((hR1.below hb1 (Nat.le_refl _)).more hb1.size)
  go_wp2_with fail
  refine C1.mono ?_
  clear C1
  rintro e w2 ⟨p1, pc1, rfl, hb2, hO2⟩
  have B2 := hb1.trans (hb2.mono hb1.size)
  have O1 := own_below hO1 hb2
  clear hR0 hR1 hO1
  go_wp2_with fail
  refine (joinKindOf_any n w2).mono ?_
  rintro e w3 ⟨rfl, rfl⟩
  rw [hks]
  cases h0 : rowsOk x0
  · have hB : joinOfB x0 x1 n = false := by rw [HB.out, h0]; rfl
    have HX := Lib.hid hB
    clear h0 hB HB HQ0 HQ1 hl0 hl1
    go_wp2_with fail
    go_ret2
    rw [joinOf_no HX.out, HX.out]
    exact PairsB.no B2
  cases h1 : rowsOk x1
  · have hB : joinOfB x0 x1 n = false := by rw [HB.out, h1, Bool.and_false]; rfl
    have HX := Lib.hid hB
    clear h0 h1 hB HB HQ0 HQ1 hl0 hl1
    go_wp2_with fail
    go_ret2
    rw [joinOf_no HX.out, HX.out]
    exact PairsB.no B2
  cases h2 : kindB n
  · have hB : joinOfB x0 x1 n = false := by rw [HB.out, h2, Bool.and_false]
    have HX := Lib.hid hB
    clear h0 h1 h2 hB HB HQ0 HQ1 hl0 hl1 hks
    go_wp2_with fail
    go_ret2
    rw [joinOf_no HX.out, HX.out]
    exact PairsB.no B2
  have hB : joinOfB x0 x1 n = true := by rw [HB.out, h0, h1, h2]; rfl
  have HX := Lib.hid hB
  have q0 : len0 ≤ 120 := by rw [← hl0]; exact HQ0.out h0
  have q1 : len1 ≤ 120 := by rw [← hl1]; exact HQ1.out h1
  obtain ⟨k, hk⟩ : ∃ k, kindOf n = some k := by
    rw [h2] at hks
    exact Option.isSome_iff_exists.1 hks
  have HJ := Lib.hid (show joinOfS x0 x1 n = joinL k (sortL x0) (sortL x1) by rw [joinOf_yes hB, joinL_l5J hk])
  rw [hk]
  rw [sortedR_yes h0, sortL_length, hl0] at O1
  rw [sortedR_yes h1, sortL_length, hl1] at hO2
  rw [sortedR_yes h0, sortedR_yes h1, sortL_length, sortL_length, hl0, hl1]
  have hc0 : len0 ≤ pc0 := by
    obtain ⟨g, c', e, h⟩ := own_slice2 O1
    injection e with _ _ e
    rw [e]; exact h
  have hc1 : len1 ≤ pc1 := by
    obtain ⟨g, c', e, h⟩ := own_slice2 hO2
    injection e with _ _ e
    rw [e]; exact h
  have C3 := joined_any k p0 p1 len0 pc0 len1 pc1 (sortL x0) (sortL x1) w2 q0 q1 hc0 hc1 (Rd.of_own O1) (Rd.of_own hO2)
  generalize joinL k (sortL x0) (sortL x1) = ll at *
  clear h0 h1 h2 hB HB HQ0 HQ1 hl0 hl1 hks hk O1 hO2
  go_wp2_with fail
  refine C3.mono ?_
  rintro e w4 ⟨a, c, rfl, hb4, hO⟩
  have B4 := B2.trans (hb4.mono B2.size)
  have hO4 := own_base' hO B2.size
  clear C3
  go_wp2_with fail
  go_ret2
  rw [HX.out, HJ.out]
  exact ⟨a, c, rfl, B4, hO4⟩
end Go.Proofs.Ytgdbpckobngmjaa
