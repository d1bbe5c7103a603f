/-
  Rows.FnExactMergedRunsSaid: laws.FnExactMergedRuns returns true for every input, and each argument reads afterwards as it read before. No conditions.
-/
import Derived.Test.YtpnbbedfbglekaaRowOrd
import Derived.Test.YtpnbbedfbglekaaCmpRows
import Derived.Test.YtpnbbedfbglekaaSortedOkFns
import Derived.Test.YtpnbbedfbglekaaRunsOk
import Derived.Test.YtpnbbedfbglekaaCutsMath
import Derived.Test.YtpnbbedfbglekaaJoinKeys
import Derived.Test.YtpnbbedfbglekaaAppendAny
import Derived.Test.YtpnbbedfbglekaaStepG
import Derived.Test.YtpnbbedfbglekaaPairRead
import Derived.StillTailTactics
import Derived.Deep.RegionHeld3
import Derived.Test.YtpnbbedfbglekaaPlain
import Derived.Lib.QuietBelow
import Derived.Test.YtpnbbedfbglekaaRdIn
import Derived.Test.YtpnbbedfbglekaaSortedFns
import Derived.Maps.AppendAt
import Derived.Laws.EntriesVeiled
import Derived.Test.YtpnbbedfbglekaaPartMem
import Derived.Test.YtpnbbedfbglekaaRowsMem
import Derived.Test.YtpnbbedfbglekaaPartsDeal
import Derived.Test.YtpnbbedfbglekaaMarkRows
import Derived.Test.YtpnbbedfbglekaaSort
import Derived.Test.YtpnbbedfbglekaaOpen
namespace Go.Proofs.Ytpnbbedfbglekaa
open Go.RowKit
/-- Does the row of the list stay ahead? -/
def leR (a b : RowV) : Bool := !(b.less a)
def mergeR (I S : List RowV) : List RowV := List.merge I S leR
theorem mergeR_nil (S : List RowV) : mergeR [] S = S := List.nil_merge S
theorem mergeR_none (I : List RowV) : mergeR I [] = I := List.merge_right I
theorem mergeR_left {r x : RowV} (R S : List RowV) (h : x.less r = false) : mergeR (r :: R) (x :: S) = r :: mergeR R (x :: S) := by
  unfold mergeR
  rw [List.cons_merge_cons, if_pos (by unfold leR; rw [h]; rfl)]
theorem mergeR_right {r x : RowV} (R S : List RowV) (h : x.less r = true) : mergeR (r :: R) (x :: S) = x :: mergeR (r :: R) S := by
  unfold mergeR
  rw [List.cons_merge_cons, if_neg (by unfold leR; rw [h]; decide)]
theorem mergeR_one (x : RowV) (S : List RowV) : mergeR [] (x :: S) = x :: mergeR [] S := by rw [mergeR_nil, mergeR_nil]
theorem mergeR_sorted {I S : List RowV} (hI : Asc RowV.less I) (hS : Asc RowV.less S) : mergeR I S = sortL (I ++ S) := by
  refine sortL_unique ?_ (List.merge_perm_append _)
  have h := List.pairwise_merge (le := leR) (fun a b c h1 h2 => by
    unfold leR at *
    rw [Bool.not_eq_true'] at *
    exact ordRow.trans _ _ _ h1 h2) (fun a b => by
    unfold leR
    cases h : b.less a
    · rfl
    · rw [ordRow.asym _ _ h]; rfl) I S (hI.imp fun {a b} h => by unfold leR; rw [h]; rfl) (hS.imp fun {a b} h => by unfold leR; rw [h]; rfl)
  exact h.imp fun {a b} h => by unfold leR at h; simpa using h
theorem mergeR_length (I S : List RowV) : (mergeR I S).length = I.length + S.length := by
  have := (List.merge_perm_append leR (xs := I) (ys := S)).length_eq
  rw [List.length_append] at this
  exact this
/-- All runs, merged one behind the other. -/
def mergedL (ps : List (List RowV)) : List RowV := ps.foldl mergeR []
theorem mergedL_snoc (ps : List (List RowV)) (S : List RowV) : mergedL (ps ++ [S]) = mergeR (mergedL ps) S := by simp [mergedL]
theorem mergedL_sorted : ∀ {ps : List (List RowV)}, (∀ S ∈ ps, Asc RowV.less S) → mergedL ps = sortL ps.flatten := by
  intro ps h
  rcases List.eq_nil_or_concat ps with rfl | ⟨qs, S, rfl⟩
  · rfl
  · rw [List.concat_eq_append] at h ⊢
    have ih := mergedL_sorted (ps := qs) fun T hT => h T (List.mem_append_left _ hT)
    rw [mergedL_snoc, ih, mergeR_sorted (sortL_asc _) (h S (by simp)), List.flatten_append, List.flatten_singleton]
    exact sortL_of_perm ((sortL_perm' _).append_right S)
termination_by ps => ps.length
decreasing_by simp_all
theorem mergedL_runs {ps : List (List RowV)} (h : runsB ps = true) : mergedL ps = sortL ps.flatten := by
  refine mergedL_sorted fun S hS => ?_
  unfold runsB at h
  rw [Bool.and_eq_true] at h
  have := List.all_eq_true.1 h.2 S hS
  unfold sortedOk at this
  rw [Bool.and_eq_true] at this
  exact adjOk_asc this.2
theorem mergedL_length : ∀ ps : List (List RowV), (mergedL ps).length = ps.flatten.length := by
  intro ps
  rcases List.eq_nil_or_concat ps with rfl | ⟨qs, S, rfl⟩
  · rfl
  · rw [List.concat_eq_append, mergedL_snoc, mergeR_length, mergedL_length qs, List.flatten_append, List.flatten_singleton, List.length_append]
termination_by ps => ps.length
decreasing_by simp_all
theorem cmpS_turn (a b : ByteArray) : cmpS a b = - cmpS b a := by
  unfold cmpS
  cases h : Op.bytesLess a.toList b.toList
  · rcases bl_total h with e | e
    · rw [e]; simp [bl_irrefl]
    · rw [e]
      have hne : (!a.toList == b.toList) = true := by
        rw [Bool.not_eq_true', beq_eq_false_iff_ne]
        intro e2
        rw [e2, bl_irrefl] at e; cases e
      rw [hne]; simp
  · have hne : (!b.toList == a.toList) = true := by
      rw [Bool.not_eq_true', beq_eq_false_iff_ne]
      intro e2
      rw [e2, bl_irrefl] at h; cases h
    rw [bl_asymm h, hne]; simp
theorem cmpI_turn (a b : Int) : cmpI a b = - cmpI b a := by
  unfold cmpI
  rcases Int.lt_trichotomy a b with h | h | h
  · rw [if_pos h, if_neg (by omega), if_pos h]
  · subst h; simp
  · rw [if_neg (by omega), if_pos h, if_pos h]; rfl
theorem or3_turn (x y z : Int) : or3 (-x) (-y) (-z) = - or3 x y z := by
  unfold or3
  by_cases hx : x = 0
  · subst hx
    by_cases hy : y = 0
    · subst hy; simp
    · simp [hy]
  · simp [hx]
def cmpR (a b : RowV) : Int := or3 (cmpS a.key b.key) (cmpI a.tag b.tag) (cmpS a.val b.val)
theorem cmpR_le (a b : RowV) : decide (cmpR a b ≤ 0) = !(b.less a) := by
  have e : cmpR a b = - cmpR b a := by
    unfold cmpR
    rw [cmpS_turn, cmpI_turn, cmpS_turn a.val b.val, or3_turn]
  have h : decide (cmpR b a < 0) = b.less a := or3_less ..
  rw [← h, e]
  by_cases h2 : cmpR b a < 0
  · rw [decide_eq_true h2, decide_eq_false (by omega)]; rfl
  · rw [decide_eq_false h2, decide_eq_true (by omega)]; rfl
end Go.Proofs.Ytpnbbedfbglekaa

namespace Go.Proofs.Ytpnbbedfbglekaa
open Go.RowKit
/-- Where a slice goes on from k. -/
def fromA (a : Option Addr) (cap k : Nat) : Option Addr := if cap = k then a else a.map (·.add (k * 3))
theorem Rd.from_ {w : World} {B n k cap : Nat} {a : Option Addr} {rs : List RowV} (h : Rd w B 3 a n (flat rs)) (hk : k ≤ n) (hn : n ≤ cap) : Rd w B 3 (fromA a cap k) (n - k) (flat (rs.drop k)) := by
  have hl : rs.length = n := h.rows_length
  refine ⟨by rw [flat_length, List.length_drop, hl], fun hp => ?_⟩
  obtain ⟨b, off, rfl, hb, hc⟩ := h.2 (by omega)
  refine ⟨b, off + k * 3, ?_, hb, fun j u hu => ?_⟩
  · unfold fromA
    rw [if_neg (by omega)]
    simp [Addr.add_mid]
  · have e : flat rs = flat (rs.take k) ++ flat (rs.drop k) := by rw [← flat_append, List.take_append_drop]
    have := hc (k * 3 + j) u (by
      rw [e, List.getElem?_append_right (by rw [flat_length, List.length_take]; omega), flat_length, List.length_take, show k * 3 + j - min k rs.length * 3 = j by rw [hl, Nat.min_eq_left hk]; omega]
      exact hu)
    rw [Nat.add_assoc]; exact this
theorem Rd.head {w : World} {B n k : Nat} {a : Option Addr} {rs : List RowV} (h : Rd w B 3 a n (flat rs)) (hk : k ≤ n) : Rd w B 3 a k (flat (rs.take k)) := by
  have hl : rs.length = n := h.rows_length
  refine ⟨by rw [flat_length, List.length_take, hl, Nat.min_eq_left hk], fun hp => ?_⟩
  obtain ⟨b, off, rfl, hb, hc⟩ := h.2 (by omega)
  refine ⟨b, off, rfl, hb, fun j u hu => hc j u ?_⟩
  have e : flat rs = flat (rs.take k) ++ flat (rs.drop k) := by rw [← flat_append, List.take_append_drop]
  rw [e, List.getElem?_append_left (List.getElem?_eq_some_iff.1 hu).1]
  exact hu
theorem joinF_enough (k : JK) : ∀ (f g : Nat) (a b : List RowV), a.length + b.length ≤ f → a.length + b.length ≤ g → joinF k f a b = joinF k g a b
  | 0, g, a, b, hf, _ => by rw [joinF_none k 0 (by omega), joinF_none k g (by omega)]
  | f + 1, g, a, b, hf, hg => by
    by_cases h : a.length + b.length = 0
    · rw [joinF_none k _ h, joinF_none k _ h]
    · obtain ⟨g, rfl⟩ : ∃ q, g = q + 1 := ⟨g - 1, by omega⟩
      have hl := join_less h
      rw [joinF_next k f h, joinF_next k g h, joinF_enough k f g _ _ (by omega) (by omega)]
theorem joinL_next (k : JK) {a b : List RowV} (h : a.length + b.length ≠ 0) : joinL k a b = joinStep k a b ++ joinL k (a.drop (leadN (firstK a b) a)) (b.drop (leadN (firstK a b) b)) := by
  have hl := join_less h
  unfold joinL
  obtain ⟨f, hf⟩ : ∃ f, a.length + b.length = f + 1 := ⟨a.length + b.length - 1, by omega⟩
  rw [hf, joinF_next k f h, joinF_enough k f _ _ _ (by omega) (Nat.le_refl _)]
theorem joinL_nil (k : JK) : joinL k [] [] = [] := rfl
set_option maxRecDepth 100000 in
set_option maxHeartbeats 4000000 in
theorem joinedBoth_any (bu bv : Bool) (aa ba : Option Addr) (la ca lb cb : Nat) (a b : List RowV) (w : World) (hla : la ≤ 120) (hlb : lb ≤ 120) (hca : la ≤ ca) (hcb : lb ≤ cb) (hA : Rd w w.heap.size 3 aa la (flat a)) (hB : Rd w w.heap.size 3 ba lb (flat b)) :
    Calls Try.prog 81 #[.slice aa la ca, .slice ba lb cb, .iface 164 (.agg #[.bool bu, .bool bv])] w (PairsOut w (joinL (JK.both bu bv) a b)) := by
  obtain ⟨i0, hi, hz0, hz1, hz2⟩ := info_parts infoPair
  go_enter Try.func81, Try.ntmps81
  go_wp2_with fail
  go_loopw [0, 1, 7] (fun x y v wr => ∃ (xa ya g : Option Addr) (xl xc yl yc q c : Nat) (ra rb : List RowV) (done : List PairV), x = .slice xa xl xc ∧ y = .slice ya yl yc ∧ v = .slice g q c ∧ xl ≤ la ∧ yl ≤ lb ∧ xl ≤ xc ∧ yl ≤ yc ∧ q + 1000000 * (xl + yl) ≤ 1000000 * (la + lb) ∧ Rd wr w.heap.size 3 xa xl (flat ra) ∧ Rd wr w.heap.size 3 ya yl (flat rb) ∧ Hid (done.length = q) ∧ wr.ownsRow w.heap.size 54 5 (.slice g q c) q (flatP done) ∧ Hid (joinL (JK.both bu bv) a b = done ++ joinL (JK.both bu bv) ra rb) ∧ Below w.heap.size w wr) (fun x y _ _ => (match x with | .slice _ n _ => n | _ => 0) + (match y with | .slice _ n _ => n | _ => 0))
  case atStart => exact ⟨_, _, _, _, _, _, _, _, _, _, _, [], rfl, rfl, rfl, Nat.le_refl _, Nat.le_refl _, hca, hcb, by omega, hA, hB, Lib.hid rfl, World.ownsRow_nil _ _ _ _, Lib.hid rfl, Below.refl _ _⟩
  case round =>
    obtain ⟨xa, ya, g, xl, xc, yl, yc, q, c, ra, rb, done, rfl, rfl, rfl, hx1, hy1, hx2, hy2, hq, hX, hY, HQ, hO, HJ, hb⟩ := hrel
    clear hA hB
    by_cases hne : xl = 0 ∧ yl = 0
    · obtain ⟨h0, h1⟩ := hne
      have ra0 : ra = [] := List.eq_nil_of_length_eq_zero (by rw [hX.rows_length]; exact h0)
      have rb0 : rb = [] := List.eq_nil_of_length_eq_zero (by rw [hY.rows_length]; exact h1)
      have E := Lib.hid (show joinL (JK.both bu bv) a b = done by rw [HJ.out, ra0, rb0, joinL_nil, List.append_nil])
      have x0 : decide (0 < (xl : Int)) = false := by simp; omega
      have y0 : decide (0 < (yl : Int)) = false := by simp; omega
      have x1 : decide (0 < xl) = false := by simp; omega
      have y1 : decide (0 < yl) = false := by simp; omega
      clear h0 h1 ra0 rb0 HJ
      go_wp2_with fail
      go_ret
      refine ⟨g, c, ?_, hb, ?_⟩
      · rw [E.out, HQ.out]; rfl
      · rw [E.out, HQ.out]; exact hO
    have hl1 := hX.rows_length
    have hl2 := hY.rows_length
    have hnn : ra.length + rb.length ≠ 0 := by omega
    have HN := Lib.hid (joinL_next (JK.both bu bv) hnn)
    have HF := Lib.hid (first_lead hnn)
    have HS := Lib.hid (joinStep_le (JK.both bu bv) (a := ra) (b := rb) (by omega) (by omega))
    have hws : w.heap.size ≤ wr.heap.size := hb.size
    have CF := firstKey_any xa ya xl xc yl yc ra rb wr (by omega) (by omega) (hX.more hws) (hY.more hws) (by omega)
    have hbool : (decide (0 < (xl : Int)) = true ∧ decide (0 < xl) = true) ∨ (decide (0 < (xl : Int)) = false ∧ decide (0 < xl) = false ∧ decide (0 < (yl : Int)) = true ∧ decide (0 < yl) = true) := by
      rcases Nat.eq_zero_or_pos xl with h | h
      · right; simp; omega
      · left; simp; omega
    have HL1 := Lib.hid hl1
    have HL2 := Lib.hid hl2
    clear hnn hne hl1 hl2
    rcases hbool with ⟨hbl, hbl1⟩ | ⟨hbl, hbl1, hbl2, hbl3⟩
    all_goals
      go_wp2_with fail
      refine CF.mono ?_
      clear CF
      rintro e w1 ⟨key, hkey, rfl, hb1⟩
      have B1 := hb.trans (hb1.mono hws)
      have X1 := hX.below hb1 hws
      have Y1 := hY.below hb1 hws
      have O1 := own_below hO hb1
      have hn1 := leadN_le key ra
      have hm1 := leadN_le key rb
      rw [HL1.out] at hn1
      rw [HL2.out] at hm1
      have s1 : w.heap.size ≤ w1.heap.size := B1.size
      have LA := leadingRows_any xa xl xc ra key w1 (by omega) (X1.more s1)
      have LB := leadingRows_any ya yl yc rb key w1 (by omega) (Y1.more s1)
      have HK := Lib.hid (show joinStep (JK.both bu bv) ra rb = if (JK.both bu bv).ret (decide (0 < leadN key ra)) (decide (0 < leadN key rb)) = true then pairsOfK (JK.both bu bv) key (ra.take (leadN key ra)) (rb.take (leadN key rb)) else [] by rw [hkey]; rfl)
      rw [← hkey] at HN HF
      have HKey := Lib.hid hkey
      clear hkey hb1 hX hY hO hb hbl hbl1
      obtain ⟨n, hn⟩ : ∃ n, leadN key ra = n := ⟨_, rfl⟩
      obtain ⟨m, hm⟩ : ∃ m, leadN key rb = m := ⟨_, rfl⟩
      rw [hn] at LA HN HF HK hn1
      rw [hm] at LB HN HF HK hm1
      have HF2 := HF.out
      clear HF hn hm
      go_wp2_with fail
      refine LA.mono ?_
      rintro e w2 ⟨rfl, rfl⟩
      go_wp2_with fail
      refine LB.mono ?_
      rintro e w2 ⟨rfl, rfl⟩
      clear LA LB
      obtain ⟨p, hp⟩ : ∃ p, decide (0 < n) = p := ⟨_, rfl⟩
      obtain ⟨r, hr⟩ : ∃ r, decide (0 < m) = r := ⟨_, rfl⟩
      have hp2 : decide (0 < (n : Int)) = p := by rw [← hp]; simp
      have hr2 : decide (0 < (m : Int)) = r := by rw [← hr]; simp
      rw [hp, hr] at HK
      have CR := bothReturns_any bu bv p r w1
      go_wp2_with fail
      refine CR.mono ?_
      clear CR
      rintro e w3 ⟨rfl, hb3⟩
      have B3 := B1.trans (hb3.mono s1)
      have O3 := own_below O1 hb3
      have X3 := X1.below hb3 s1
      have Y3 := Y1.below hb3 s1
      have s3 : w.heap.size ≤ w3.heap.size := B3.size
      clear B1 O1 X1 Y1 hb3
      have hn9 : (n : Int) ≤ (xl : Int) := by omega
      have hm9 : (m : Int) ≤ (yl : Int) := by omega
      have hn8 : (n : Int) ≤ (xc : Int) := by omega
      have hm8 : (m : Int) ≤ (yc : Int) := by omega
      have HX4 := Lib.hid (X3.from_ hn1 hx2)
      have HY4 := Lib.hid (Y3.from_ hm1 hy2)
      cases hret : (JK.both bu bv).ret p r
      · have E := Lib.hid (show joinStep (JK.both bu bv) ra rb = [] by rw [HK.out, hret]; rfl)
        have HJ2 := Lib.hid (show joinL (JK.both bu bv) a b = done ++ joinL (JK.both bu bv) (ra.drop n) (rb.drop m) by rw [HJ.out, HN.out, E.out]; rfl)
        clear hret HK HN E HJ hp hr hp2 hr2 HKey
        go_wp2_with fail
        go_quiet (fail)
        have hb4 := B3.trans ((drewN_below w3 nq).mono s3)
        have O4 := own_below O3 (drewN_below w3 nq)
        have X4 := HX4.out.below (drewN_below w3 nq) s3
        have Y4 := HY4.out.below (drewN_below w3 nq) s3
        clear HX4 HY4 X3 Y3 O3 B3
        generalize w3.drewN nq = w4 at *
        go_wp2_with fail
        go_roundw
        case rel => exact ⟨_, _, g, xl - n, xc - n, yl - m, yc - m, q, c, ra.drop n, rb.drop m, done, rfl, rfl, rfl, by omega, by omega, by omega, by omega, by omega, X4, Y4, HQ, O4, HJ2, hb4⟩
        case measure => simp; omega
      · have E := Lib.hid (show joinStep (JK.both bu bv) ra rb = pairsOfK (JK.both bu bv) key (ra.take n) (rb.take m) by rw [HK.out, hret]; rfl)
        have HSl := HS.out
        rw [E.out] at HSl
        have HJ2 := Lib.hid (show joinL (JK.both bu bv) a b = done ++ pairsOfK (JK.both bu bv) key (ra.take n) (rb.take m) ++ joinL (JK.both bu bv) (ra.drop n) (rb.drop m) by rw [HJ.out, HN.out, E.out, List.append_assoc])
        have HXh := Lib.hid ((X3.head hn1).more s3)
        have HYh := Lib.hid ((Y3.head hm1).more s3)
        have HO3 := Lib.hid O3
        have hqm1 : ∀ pl : Nat, pl ≤ 1000000 → q + pl ≤ maxLen := by intro pl h; unfold maxLen; omega
        have hqm2 : ∀ pl : Nat, pl ≤ 1000000 → (q + pl) * 56 ≤ 140737488355328 := by intro pl h; omega
        have HP := Lib.hid HSl
        clear hret HK HN E HJ hp hr hp2 hr2 O3 HKey HSl
        go_wp2_with fail
        have s3' : w.heap.size ≤ w3.drew.heap.size := Nat.le_trans s3 (Below.refl w3.heap.size w3).drew.size
        have HS0 := Lib.hid (show True ∧ Below w.heap.size w w3.drew from ⟨trivial, B3.drew⟩)
        have hd := (Below.refl w3.heap.size w3).drew
        have sd : w3.heap.size ≤ w3.drew.heap.size := hd.size
        have CP := Lib.hid (pairsOfKey_any (JK.both bu bv) key xa ya n xc m yc (ra.take n) (rb.take m) w3.drew (by omega) (by omega) ((HXh.out.below hd (Nat.le_refl _)).more sd) ((HYh.out.below hd (Nat.le_refl _)).more sd))
        have HOd := Lib.hid (own_below HO3.out hd)
        have hp1 := hqm1 _ HP.out
        have hp2 := hqm2 _ HP.out
        have hp3 := HP.out
        clear hd HXh HYh HO3 B3 hqm1 hqm2 HP sd
        generalize pairsOfK (JK.both bu bv) key (ra.take n) (rb.take m) = pl at *
        go_region_held3 (fun w' => True ∧ Below w.heap.size w w') (first | exact HS0.out | exact ⟨trivial, hb6⟩ | exact ⟨trivial, hb'⟩)
          (first
            | (go_at_call 127; refine CP.out.mono ?_; rintro e w5 ⟨pa, pc, rfl, hb5, hO5⟩; have hb' := HS0.out.2.trans (hb5.mono HS0.out.2.size))
            | (refine step_append_g (by rfl) (.tmp 34) (.tmp 43) 47 (by rfl) w.heap.size 54 i0 (.agg #[.string ⟨#[]⟩, .string ⟨#[]⟩, .string ⟨#[]⟩, .bool false, .bool false]) 5 56 Try.underlying47 hi hz0 hz1 hz2 rfl (by decide) (.slice g q c) q (flatP done) (by rfl) (own_below HOd.out hb5) pa _ pl.length pc (flatP pl) (by rfl) (Rd.of_own hO5) (flatP_one _) hp1 hp2 hb'.size ?_; intro v6 w6 hO6 hg6 _; rw [← flatP_append] at hO6; obtain ⟨a6, c6, rfl⟩ := own_slice' hO6; have hb6 := hb'.grown hg6 hb'.size (fun q e => (own_ge HOd.out q e).1)))
        have B6 := hb6
        have hb36 : Below w.heap.size w3 w6 := (Below.refl w.heap.size w3).drew.trans ((hb5.mono s3').grown hg6 (Nat.le_trans s3' hb5.size) (fun q e => (own_ge HOd.out q e).1))
        have HX7 := Lib.hid (HX4.out.below hb36 (Nat.le_refl _))
        have HY7 := Lib.hid (HY4.out.below hb36 (Nat.le_refl _))
        clear hb' hb5 hO5 HOd CP HS0 hp1 hp2 hb36 hg6 HX4 HY4 hb6
        have HQ6 := Lib.hid (show (done ++ pl).length = q + pl.length by rw [List.length_append, HQ.out])
        clear HQ
        go_wp2_with fail
        go_quiet (fail)
        have hb4 := B6.trans ((drewN_below w6 nq).mono B6.size)
        have O4 := own_below hO6 (drewN_below w6 nq)
        have X4 := HX7.out.below (drewN_below w6 nq) B6.size
        have Y4 := HY7.out.below (drewN_below w6 nq) B6.size
        clear HX7 HY7 hO6 B6
        generalize w6.drewN nq = w7 at *
        go_wp2_with fail
        go_roundw
        case rel => exact ⟨_, _, a6, xl - n, xc - n, yl - m, yc - m, q + pl.length, c6, ra.drop n, rb.drop m, done ++ pl, rfl, rfl, rfl, by omega, by omega, by omega, by omega, by omega, X4, Y4, HQ6, O4, HJ2, hb4⟩
        case measure => simp; omega
set_option maxRecDepth 100000 in
set_option maxHeartbeats 4000000 in
theorem joinedKeep_any (bu : Bool) (aa ba : Option Addr) (la ca lb cb : Nat) (a b : List RowV) (w : World) (hla : la ≤ 120) (hlb : lb ≤ 120) (hca : la ≤ ca) (hcb : lb ≤ cb) (hA : Rd w w.heap.size 3 aa la (flat a)) (hB : Rd w w.heap.size 3 ba lb (flat b)) :
    Calls Try.prog 81 #[.slice aa la ca, .slice ba lb cb, .iface 166 (.agg #[.bool bu])] w (PairsOut w (joinL (JK.keep bu) a b)) := by
  obtain ⟨i0, hi, hz0, hz1, hz2⟩ := info_parts infoPair
  go_enter Try.func81, Try.ntmps81
  go_wp2_with fail
  go_loopw [0, 1, 7] (fun x y v wr => ∃ (xa ya g : Option Addr) (xl xc yl yc q c : Nat) (ra rb : List RowV) (done : List PairV), x = .slice xa xl xc ∧ y = .slice ya yl yc ∧ v = .slice g q c ∧ xl ≤ la ∧ yl ≤ lb ∧ xl ≤ xc ∧ yl ≤ yc ∧ q + 1000000 * (xl + yl) ≤ 1000000 * (la + lb) ∧ Rd wr w.heap.size 3 xa xl (flat ra) ∧ Rd wr w.heap.size 3 ya yl (flat rb) ∧ Hid (done.length = q) ∧ wr.ownsRow w.heap.size 54 5 (.slice g q c) q (flatP done) ∧ Hid (joinL (JK.keep bu) a b = done ++ joinL (JK.keep bu) ra rb) ∧ Below w.heap.size w wr) (fun x y _ _ => (match x with | .slice _ n _ => n | _ => 0) + (match y with | .slice _ n _ => n | _ => 0))
  case atStart => exact ⟨_, _, _, _, _, _, _, _, _, _, _, [], rfl, rfl, rfl, Nat.le_refl _, Nat.le_refl _, hca, hcb, by omega, hA, hB, Lib.hid rfl, World.ownsRow_nil _ _ _ _, Lib.hid rfl, Below.refl _ _⟩
  case round =>
    obtain ⟨xa, ya, g, xl, xc, yl, yc, q, c, ra, rb, done, rfl, rfl, rfl, hx1, hy1, hx2, hy2, hq, hX, hY, HQ, hO, HJ, hb⟩ := hrel
    clear hA hB
    by_cases hne : xl = 0 ∧ yl = 0
    · obtain ⟨h0, h1⟩ := hne
      have ra0 : ra = [] := List.eq_nil_of_length_eq_zero (by rw [hX.rows_length]; exact h0)
      have rb0 : rb = [] := List.eq_nil_of_length_eq_zero (by rw [hY.rows_length]; exact h1)
      have E := Lib.hid (show joinL (JK.keep bu) a b = done by rw [HJ.out, ra0, rb0, joinL_nil, List.append_nil])
      have x0 : decide (0 < (xl : Int)) = false := by simp; omega
      have y0 : decide (0 < (yl : Int)) = false := by simp; omega
      have x1 : decide (0 < xl) = false := by simp; omega
      have y1 : decide (0 < yl) = false := by simp; omega
      clear h0 h1 ra0 rb0 HJ
      go_wp2_with fail
      go_ret
      refine ⟨g, c, ?_, hb, ?_⟩
      · rw [E.out, HQ.out]; rfl
      · rw [E.out, HQ.out]; exact hO
    have hl1 := hX.rows_length
    have hl2 := hY.rows_length
    have hnn : ra.length + rb.length ≠ 0 := by omega
    have HN := Lib.hid (joinL_next (JK.keep bu) hnn)
    have HF := Lib.hid (first_lead hnn)
    have HS := Lib.hid (joinStep_le (JK.keep bu) (a := ra) (b := rb) (by omega) (by omega))
    have hws : w.heap.size ≤ wr.heap.size := hb.size
    have CF := firstKey_any xa ya xl xc yl yc ra rb wr (by omega) (by omega) (hX.more hws) (hY.more hws) (by omega)
    have hbool : (decide (0 < (xl : Int)) = true ∧ decide (0 < xl) = true) ∨ (decide (0 < (xl : Int)) = false ∧ decide (0 < xl) = false ∧ decide (0 < (yl : Int)) = true ∧ decide (0 < yl) = true) := by
      rcases Nat.eq_zero_or_pos xl with h | h
      · right; simp; omega
      · left; simp; omega
    have HL1 := Lib.hid hl1
    have HL2 := Lib.hid hl2
    clear hnn hne hl1 hl2
    rcases hbool with ⟨hbl, hbl1⟩ | ⟨hbl, hbl1, hbl2, hbl3⟩
    all_goals
      go_wp2_with fail
      refine CF.mono ?_
      clear CF
      rintro e w1 ⟨key, hkey, rfl, hb1⟩
      have B1 := hb.trans (hb1.mono hws)
      have X1 := hX.below hb1 hws
      have Y1 := hY.below hb1 hws
      have O1 := own_below hO hb1
      have hn1 := leadN_le key ra
      have hm1 := leadN_le key rb
      rw [HL1.out] at hn1
      rw [HL2.out] at hm1
      have s1 : w.heap.size ≤ w1.heap.size := B1.size
      have LA := leadingRows_any xa xl xc ra key w1 (by omega) (X1.more s1)
      have LB := leadingRows_any ya yl yc rb key w1 (by omega) (Y1.more s1)
      have HK := Lib.hid (show joinStep (JK.keep bu) ra rb = if (JK.keep bu).ret (decide (0 < leadN key ra)) (decide (0 < leadN key rb)) = true then pairsOfK (JK.keep bu) key (ra.take (leadN key ra)) (rb.take (leadN key rb)) else [] by rw [hkey]; rfl)
      rw [← hkey] at HN HF
      have HKey := Lib.hid hkey
      clear hkey hb1 hX hY hO hb hbl hbl1
      obtain ⟨n, hn⟩ : ∃ n, leadN key ra = n := ⟨_, rfl⟩
      obtain ⟨m, hm⟩ : ∃ m, leadN key rb = m := ⟨_, rfl⟩
      rw [hn] at LA HN HF HK hn1
      rw [hm] at LB HN HF HK hm1
      have HF2 := HF.out
      clear HF hn hm
      go_wp2_with fail
      refine LA.mono ?_
      rintro e w2 ⟨rfl, rfl⟩
      go_wp2_with fail
      refine LB.mono ?_
      rintro e w2 ⟨rfl, rfl⟩
      clear LA LB
      obtain ⟨p, hp⟩ : ∃ p, decide (0 < n) = p := ⟨_, rfl⟩
      obtain ⟨r, hr⟩ : ∃ r, decide (0 < m) = r := ⟨_, rfl⟩
      have hp2 : decide (0 < (n : Int)) = p := by rw [← hp]; simp
      have hr2 : decide (0 < (m : Int)) = r := by rw [← hr]; simp
      rw [hp, hr] at HK
      have CR := keepReturns_any bu p r w1
      go_wp2_with fail
      refine CR.mono ?_
      clear CR
      rintro e w3 ⟨rfl, hb3⟩
      have B3 := B1.trans (hb3.mono s1)
      have O3 := own_below O1 hb3
      have X3 := X1.below hb3 s1
      have Y3 := Y1.below hb3 s1
      have s3 : w.heap.size ≤ w3.heap.size := B3.size
      clear B1 O1 X1 Y1 hb3
      have hn9 : (n : Int) ≤ (xl : Int) := by omega
      have hm9 : (m : Int) ≤ (yl : Int) := by omega
      have hn8 : (n : Int) ≤ (xc : Int) := by omega
      have hm8 : (m : Int) ≤ (yc : Int) := by omega
      have HX4 := Lib.hid (X3.from_ hn1 hx2)
      have HY4 := Lib.hid (Y3.from_ hm1 hy2)
      cases hret : (JK.keep bu).ret p r
      · have E := Lib.hid (show joinStep (JK.keep bu) ra rb = [] by rw [HK.out, hret]; rfl)
        have HJ2 := Lib.hid (show joinL (JK.keep bu) a b = done ++ joinL (JK.keep bu) (ra.drop n) (rb.drop m) by rw [HJ.out, HN.out, E.out]; rfl)
        clear hret HK HN E HJ hp hr hp2 hr2 HKey
        go_wp2_with fail
        go_quiet (fail)
        have hb4 := B3.trans ((drewN_below w3 nq).mono s3)
        have O4 := own_below O3 (drewN_below w3 nq)
        have X4 := HX4.out.below (drewN_below w3 nq) s3
        have Y4 := HY4.out.below (drewN_below w3 nq) s3
        clear HX4 HY4 X3 Y3 O3 B3
        generalize w3.drewN nq = w4 at *
        go_wp2_with fail
        go_roundw
        case rel => exact ⟨_, _, g, xl - n, xc - n, yl - m, yc - m, q, c, ra.drop n, rb.drop m, done, rfl, rfl, rfl, by omega, by omega, by omega, by omega, by omega, X4, Y4, HQ, O4, HJ2, hb4⟩
        case measure => simp; omega
      · have E := Lib.hid (show joinStep (JK.keep bu) ra rb = pairsOfK (JK.keep bu) key (ra.take n) (rb.take m) by rw [HK.out, hret]; rfl)
        have HSl := HS.out
        rw [E.out] at HSl
        have HJ2 := Lib.hid (show joinL (JK.keep bu) a b = done ++ pairsOfK (JK.keep bu) key (ra.take n) (rb.take m) ++ joinL (JK.keep bu) (ra.drop n) (rb.drop m) by rw [HJ.out, HN.out, E.out, List.append_assoc])
        have HXh := Lib.hid ((X3.head hn1).more s3)
        have HYh := Lib.hid ((Y3.head hm1).more s3)
        have HO3 := Lib.hid O3
        have hqm1 : ∀ pl : Nat, pl ≤ 1000000 → q + pl ≤ maxLen := by intro pl h; unfold maxLen; omega
        have hqm2 : ∀ pl : Nat, pl ≤ 1000000 → (q + pl) * 56 ≤ 140737488355328 := by intro pl h; omega
        have HP := Lib.hid HSl
        clear hret HK HN E HJ hp hr hp2 hr2 O3 HKey HSl
        go_wp2_with fail
        have s3' : w.heap.size ≤ w3.drew.heap.size := Nat.le_trans s3 (Below.refl w3.heap.size w3).drew.size
        have HS0 := Lib.hid (show True ∧ Below w.heap.size w w3.drew from ⟨trivial, B3.drew⟩)
        have hd := (Below.refl w3.heap.size w3).drew
        have sd : w3.heap.size ≤ w3.drew.heap.size := hd.size
        have CP := Lib.hid (pairsOfKey_any (JK.keep bu) key xa ya n xc m yc (ra.take n) (rb.take m) w3.drew (by omega) (by omega) ((HXh.out.below hd (Nat.le_refl _)).more sd) ((HYh.out.below hd (Nat.le_refl _)).more sd))
        have HOd := Lib.hid (own_below HO3.out hd)
        have hp1 := hqm1 _ HP.out
        have hp2 := hqm2 _ HP.out
        have hp3 := HP.out
        clear hd HXh HYh HO3 B3 hqm1 hqm2 HP sd
        generalize pairsOfK (JK.keep bu) key (ra.take n) (rb.take m) = pl at *
        go_region_held3 (fun w' => True ∧ Below w.heap.size w w') (first | exact HS0.out | exact ⟨trivial, hb6⟩ | exact ⟨trivial, hb'⟩)
          (first
            | (go_at_call 127; refine CP.out.mono ?_; rintro e w5 ⟨pa, pc, rfl, hb5, hO5⟩; have hb' := HS0.out.2.trans (hb5.mono HS0.out.2.size))
            | (refine step_append_g (by rfl) (.tmp 34) (.tmp 43) 47 (by rfl) w.heap.size 54 i0 (.agg #[.string ⟨#[]⟩, .string ⟨#[]⟩, .string ⟨#[]⟩, .bool false, .bool false]) 5 56 Try.underlying47 hi hz0 hz1 hz2 rfl (by decide) (.slice g q c) q (flatP done) (by rfl) (own_below HOd.out hb5) pa _ pl.length pc (flatP pl) (by rfl) (Rd.of_own hO5) (flatP_one _) hp1 hp2 hb'.size ?_; intro v6 w6 hO6 hg6 _; rw [← flatP_append] at hO6; obtain ⟨a6, c6, rfl⟩ := own_slice' hO6; have hb6 := hb'.grown hg6 hb'.size (fun q e => (own_ge HOd.out q e).1)))
        have B6 := hb6
        have hb36 : Below w.heap.size w3 w6 := (Below.refl w.heap.size w3).drew.trans ((hb5.mono s3').grown hg6 (Nat.le_trans s3' hb5.size) (fun q e => (own_ge HOd.out q e).1))
        have HX7 := Lib.hid (HX4.out.below hb36 (Nat.le_refl _))
        have HY7 := Lib.hid (HY4.out.below hb36 (Nat.le_refl _))
        clear hb' hb5 hO5 HOd CP HS0 hp1 hp2 hb36 hg6 HX4 HY4 hb6
        have HQ6 := Lib.hid (show (done ++ pl).length = q + pl.length by rw [List.length_append, HQ.out])
        clear HQ
        go_wp2_with fail
        go_quiet (fail)
        have hb4 := B6.trans ((drewN_below w6 nq).mono B6.size)
        have O4 := own_below hO6 (drewN_below w6 nq)
        have X4 := HX7.out.below (drewN_below w6 nq) B6.size
        have Y4 := HY7.out.below (drewN_below w6 nq) B6.size
        clear HX7 HY7 hO6 B6
        generalize w6.drewN nq = w7 at *
        go_wp2_with fail
        go_roundw
        case rel => exact ⟨_, _, a6, xl - n, xc - n, yl - m, yc - m, q + pl.length, c6, ra.drop n, rb.drop m, done ++ pl, rfl, rfl, rfl, by omega, by omega, by omega, by omega, by omega, X4, Y4, HQ6, O4, HJ2, hb4⟩
        case measure => simp; omega
theorem joined_any (k : JK) (aa ba : Option Addr) (la ca lb cb : Nat) (a b : List RowV) (w : World) (hla : la ≤ 120) (hlb : lb ≤ 120) (hca : la ≤ ca) (hcb : lb ≤ cb) (hA : Rd w w.heap.size 3 aa la (flat a)) (hB : Rd w w.heap.size 3 ba lb (flat b)) :
    Calls Try.prog 81 #[.slice aa la ca, .slice ba lb cb, k.val] w (PairsOut w (joinL k a b)) := by
  cases k with
  | both x y => exact joinedBoth_any x y aa ba la ca lb cb a b w hla hlb hca hcb hA hB
  | keep x => exact joinedKeep_any x aa ba la ca lb cb a b w hla hlb hca hcb hA hB
end Go.Proofs.Ytpnbbedfbglekaa

namespace Go.Proofs.Ytpnbbedfbglekaa
open Go.RowKit

structure WQ (P : Program) (ops : Array Oper) (C : World → Prop) (Q : Act → Prop) (l : List Oper) (a : Act) : Prop where
  out : wpQuiet P ops C Q l a
section
variable {P : Program} {ops : Array Oper} {C : World → Prop} {Q : Act → Prop} {a : Act} {o : Oper} {rest : List Oper}
theorem WQ.nil (h : Q a) : WQ P ops C Q [] a := ⟨wpQuiet_nil h⟩
theorem WQ.step (h : ∀ K : Act → Prop, (∀ a, WQ P ops C Q rest a → K a) → if Region.wanted o (yielded ops a.tmps) then o.quiet P a C K else K (a.put o.dst undef)) : WQ P ops C Q (o :: rest) a :=
  ⟨wpQuiet_step fun K hK => h K fun a h => hK a h.out⟩
end
theorem wp_region_wq {P : Program} {id : Nat} {Q : Exit → Act → World → Prop} {a : Act} {w : World} {l : List Oper} (hm : P.follows .mixedOrders = true) (hB : Region.lexB .any l.toArray = true)
    (h : WQ P l.toArray (fun w' => ∃ p : Regrown, w' = Go.Sort.grow (redrawn w p.d) p.os) (fun a' => ∀ w', (∃ p : Regrown, w' = Go.Sort.grow (redrawn w p.d) p.os) → Q .normal a' w') l a) : (Code.region id l.toArray true).wp P Q a w :=
  wp_region_quiet_below hm hB h.out
end Go.Proofs.Ytpnbbedfbglekaa

namespace Go.Proofs.Ytpnbbedfbglekaa
open Go.RowKit
def HaltM_ (p : Prop) : Prop := p
theorem haltM_ {p : Prop} (h : HaltM_ p) : p := h
theorem unhaltM_ {p : Prop} (h : p) : HaltM_ p := h
theorem cell_rowM (W : World) (r : RowV) (t : TypeId) : ∀ j u, [Value.string r.key, .int .i64 r.tag, .string r.val][j]? = some u → (W.alloc (.cells #[.string r.key, .int .i64 r.tag, .string r.val] t)).cell? ((⟨W.heap.size, 0, none⟩ : Addr).add j) = some u := by
  intro j u hj
  match j, hj with
  | 0, hj => simp at hj; subst hj; simp [go_sem]
  | 1, hj => simp at hj; subst hj; simp [go_sem, Addr.add]
  | 2, hj => simp at hj; subst hj; simp [go_sem, Addr.add]
theorem flat_snocM (l : List RowV) (r : RowV) : flat (l ++ [r]) = flat l ++ [.string r.key, .int .i64 r.tag, .string r.val] := by rw [flat_append]; rfl
theorem flat_oneM (l : List RowV) : ∀ u ∈ flat l, u.oneCell' = true := by
  intro u hu
  unfold flat at hu
  obtain ⟨r, _, hr⟩ := List.mem_flatMap.1 hu
  simp [RowV.cells] at hr
  rcases hr with rfl | rfl | rfl <;> rfl
/-- Block b holds a sorted list of rows, whole; none of its cells is frozen. -/
def Sl (w : World) (b : Nat) (v : Value) : Prop := ∃ ty : TypeId, w.heap[b]? = some (.cells #[.func (.func 114) #[] #[], v] ty (0, 0))
theorem Sl.new (w : World) (v : Value) (t : TypeId) : Sl (w.alloc (.cells #[.func (.func 114) #[] #[], v] t)) w.heap.size v := ⟨t, heap_alloc_new w _⟩
theorem Sl.lt {w : World} {b : Nat} {v : Value} (h : Sl w b v) : b < w.heap.size := by
  obtain ⟨ty, h⟩ := h
  rcases Nat.lt_or_ge b w.heap.size with hlt | hge
  · exact hlt
  · rw [Array.getElem?_eq_none hge] at h; cases h
theorem Sl.cells {w : World} {b : Nat} {v : Value} (h : Sl w b v) : w.cell? ⟨b, 0, none⟩ = some (.func (.func 114) #[] #[]) ∧ w.cell? ⟨b, 1, none⟩ = some v := by
  obtain ⟨ty, h⟩ := h
  refine ⟨?_, ?_⟩ <;> simp [World.cell?, h]
theorem Sl.frozen {w : World} {b : Nat} {v : Value} (h : Sl w b v) : w.frozen? ⟨b, 0, none⟩ = false ∧ w.frozen? ⟨b, 1, none⟩ = false := by
  obtain ⟨ty, h⟩ := h
  refine ⟨?_, ?_⟩ <;> simp [World.frozen?, h]
theorem Sl.below {w w' : World} {B b : Nat} {v : Value} (h : Sl w b v) (hb : Below B w w') (hB : b < B) : Sl w' b v := by
  obtain ⟨ty, h⟩ := h
  exact ⟨ty, (hb.block b hB).trans h⟩
theorem Sl.keep {w w' : World} {b : Nat} {v : Value} (h : Sl w b v) (hb : Below w.heap.size w w') : Sl w' b v := h.below hb h.lt
theorem Sl.put {w : World} {b : Nat} {v : Value} (h : Sl w b v) (u : Value) : Sl (w.setCell ⟨b, 1, none⟩ u) b u := by
  obtain ⟨ty, h⟩ := h
  exact ⟨ty, (heap_setCell_same w b 1 _ ty u h).trans (by simp)⟩
theorem Sl.grown {w w' : World} {b : Nat} {v : Value} {row : Option Nat} (h : Sl w b v) (hg : w.grownBy w' row) (hne : some b ≠ row) : Sl w' b v := by
  have hl := h.lt
  obtain ⟨ty, h⟩ := h
  exact ⟨ty, (hg.block b hl hne).trans h⟩
set_option maxRecDepth 100000 in
set_option maxHeartbeats 4000000 in
theorem merge_any (B : Nat) (ia : Option Addr) (ni ic : Nat) (I : List RowV) (sa : Option Addr) (ns sc : Nat) (S : List RowV) (w : World) (hni : ni ≤ 1000) (hns : ns ≤ 1000) (hic : ni ≤ ic) (hL : Sl w B (.slice ia ni ic)) (hI : Rd w w.heap.size 3 ia ni (flat I)) (hS : Rd w w.heap.size 3 sa ns (flat S)) :
    Calls Try.prog 135 #[.pointer (some ⟨B, 0, none⟩), .slice sa ns sc] w fun e w' => (∃ v, e = .returned v) ∧ ∃ a c, Sl w' B (.slice a (ni + ns) c) ∧ w.grownBy w' (some B) ∧ w'.ownsRow w.heap.size 52 3 (.slice a (ni + ns) c) (ni + ns) (flat (mergeR I S)) := by
  obtain ⟨i0, hi, hz0, hz1, hz2⟩ := info_parts infoRow
  have hBl := hL.lt
  obtain ⟨l0, l1⟩ := hL.cells
  have HL := Lib.hid hL
  have hIl : I.length = ni := hI.rows_length
  have hSl := Lib.hid hS.rows_length
  have HI := Lib.hid hIl
  clear hIl
  generalize hT : mergeR I S = T
  have HT := Lib.hid hT
  clear hT hL
  go_enter Try.func135, Try.ntmps135
  go_wp2_with (at_make; refine wpList_make_own _ rfl _ _ 44 rfl w.heap.size 52 i0 (.agg #[.string ⟨#[]⟩, .int .i64 0, .string ⟨#[]⟩]) 3 Try.underlying44 hi hz0 hz1 .i64 .i64 _ (ni + ns) rfl rfl (by omega) (by rw [hz2]; omega) (by unfold maxLen; omega) (Nat.le_refl _) ?_; intro w1 hown hgrow; have hb1 := (Below.refl w.heap.size w).grown hgrow (Nat.le_refl _) (by simp); have l1' := (hb1.cell (p := ⟨B, 1, none⟩) hBl).trans l1; clear hgrow)
  clear l1'
  go_loopw [4, 5, 23] (fun v r i wr => ∃ (k m q : Nat) (g : Option Addr) (c : Nat) (ra : Option Addr) (rc : Nat) (R A : List RowV), k ≤ ns ∧ i = .int .i64 k ∧ v = .slice g q c ∧ r = .slice ra m rc ∧ m ≤ rc ∧ q + m = ni + k ∧ Hid (A.length = q) ∧ Hid (T = A ++ mergeR R (S.drop k)) ∧ Hid (Rd w w.heap.size 3 ra m (flat R)) ∧ wr.ownsRow w.heap.size 52 3 (.slice g q c) q (flat A) ∧ Below w.heap.size w wr) (fun _ _ i _ => ns - (intOf i).toNat)
  case atStart => exact ⟨0, ni, 0, _, _, _, _, I, [], Nat.zero_le _, rfl, rfl, rfl, hic, by omega, Lib.hid rfl, Lib.hid HT.out.symm, Lib.hid hI, hown, hb1⟩
  case round =>
    obtain ⟨k, m, q, g, c, ra, rc, R, A, hk, rfl, rfl, rfl, hmr, hqm, HQ, HA, HR, hO, hb⟩ := hrel
    clear hown hb1 hI
    by_cases hlt : k < ns
    · obtain ⟨b1, o1, x, rfl, hB1, hx, c0, c1, c2⟩ := (hS.below hb (Nat.le_refl _)).row hlt
      have hSd : S.drop k = x :: S.drop (k + 1) := by
        obtain ⟨hk', e⟩ := List.getElem?_eq_some_iff.1 hx
        rw [← e]; exact List.drop_eq_getElem_cons hk'
      have HA0 := Lib.hid (show T = A ++ mergeR R (x :: S.drop (k + 1)) by rw [HA.out, hSd])
      obtain ⟨xk, xt, xv⟩ := x
      have hb2 := bl1 wr (.cells #[.string xk, .int .i64 xt, .string xv] 52)
      have hX0 : (wr.alloc (.cells #[.string xk, .int .i64 xt, .string xv] 52)).cell? ⟨wr.heap.size, 0, none⟩ = some (.string xk) := by simp [go_sem]
      have hX1 : (wr.alloc (.cells #[.string xk, .int .i64 xt, .string xv] 52)).cell? ⟨wr.heap.size, 1, none⟩ = some (.int .i64 xt) := by simp [go_sem]
      have hX2 : (wr.alloc (.cells #[.string xk, .int .i64 xt, .string xv] 52)).cell? ⟨wr.heap.size, 2, none⟩ = some (.string xv) := by simp [go_sem]
      have hXl : wr.heap.size < (wr.alloc (.cells #[.string xk, .int .i64 xt, .string xv] 52)).heap.size := by simp
      have hO2 := own_below hO hb2
      have hB2 := hb.trans (hb2.mono hb.size)
      have hXw : w.heap.size ≤ wr.heap.size := hb.size
      have hNX : ∀ q', (Value.slice g q c).ownBlock = some q' → q' ≠ wr.heap.size := fun q' e => by have := (own_ge hO q' e).2; omega
      clear hb2 hO hb hx hSd HA
      go_wp2_with fail
      generalize wr.alloc (.cells #[.string xk, .int .i64 xt, .string xv] 52) = w2 at *
      generalize wr.heap.size = X at *
      clear c0 c1 c2
      go_loopw [4, 5] (fun v r wi => ∃ (m q : Nat) (g : Option Addr) (c : Nat) (ra : Option Addr) (rc : Nat) (R A : List RowV), v = .slice g q c ∧ r = .slice ra m rc ∧ m ≤ rc ∧ q + m = ni + k ∧ Hid (A.length = q) ∧ Hid (T = A ++ mergeR R (⟨xk, xt, xv⟩ :: S.drop (k + 1))) ∧ Hid (Rd w w.heap.size 3 ra m (flat R)) ∧ wi.ownsRow w.heap.size 52 3 (.slice g q c) q (flat A) ∧ Below w.heap.size w wi ∧ wi.cell? ⟨X, 0, none⟩ = some (.string xk) ∧ wi.cell? ⟨X, 1, none⟩ = some (.int .i64 xt) ∧ wi.cell? ⟨X, 2, none⟩ = some (.string xv) ∧ X < wi.heap.size ∧ Hid (∀ q', (Value.slice g q c).ownBlock = some q' → q' ≠ X)) (fun _ r _ => match r with | .slice _ n _ => n | _ => 0)
      case atStart => exact ⟨m, q, g, c, ra, rc, R, A, rfl, rfl, hmr, hqm, HQ, HA0, HR, hO2, hB2, hX0, hX1, hX2, hXl, Lib.hid hNX⟩
      case round =>
        clear hNX hX0 hX1 hX2 hXl hO2 hB2 HQ HA0 HR hmr hqm
        obtain ⟨m, q, g, c, ra, rc, R, A, rfl, rfl, hmr, hqm, HQ, HA, HR, hO, hb, hX0, hX1, hX2, hXl, HN⟩ := hrel
        by_cases hm0 : m = 0
        · subst hm0
          have hRn : R = [] := by
            have := HR.out.rows_length
            exact List.length_eq_zero_iff.1 this
          have HT2 := Lib.hid (show T = (A ++ [⟨xk, xt, xv⟩]) ++ mergeR R (S.drop (k + 1)) by rw [HA.out, hRn, mergeR_one, List.append_assoc]; rfl)
          clear hRn HA
          go_wp2_with fail
          go_quiet (fail)
          have hbw : Below wr.heap.size wr (wr.drewN nq) := below_drewN (Below.refl _ _) nq
          have hb3 := hb.trans (hbw.mono hb.size)
          have hO3 := own_below hO hbw
          have y0 := (hbw.cell (p := ⟨X, 0, none⟩) hXl).trans hX0
          have y1 := (hbw.cell (p := ⟨X, 1, none⟩) hXl).trans hX1
          have y2 := (hbw.cell (p := ⟨X, 2, none⟩) hXl).trans hX2
          have hXl3 := Nat.lt_of_lt_of_le hXl hbw.size
          clear hbw hb hO hX0 hX1 hX2 hXl
          generalize wr.drewN nq = w3 at *
          have hg8 : w.heap.size ≤ w3.heap.size := hb3.size
          have hq1 : q + 1 ≤ maxLen := by unfold maxLen; omega
          have hq2 : (q + 1) * 40 ≤ 140737488355328 := by omega
          go_wp2_with (at_builtin; refine wpList_append_own_at _ rfl _ _ 44 rfl w.heap.size 52 i0 (.agg #[.string ⟨#[]⟩, .int .i64 0, .string ⟨#[]⟩]) 3 40 Try.underlying44 hi hz0 hz1 hz2 rfl (by decide) (.slice g q c) _ _ rfl (hO3.alloc _) ⟨w3.heap.size, 0, none⟩ 1 1 [.string xk, .int .i64 xt, .string xv] rfl rfl (cell_rowM w3 ⟨xk, xt, xv⟩ _) (by simp [Value.oneCell']) hq1 hq2 (Nat.le_trans hg8 (bl1 w3 _).size) ?_; intro v' w4 hO4 hg4 _ hat; refine haltM_ ?_)
          refine unhaltM_ ?_
          obtain ⟨a', cap', rfl⟩ := own_slice' hO4
          have hb4 := below_grown1 hb3 hO3 hg4
          have hO5 : w4.ownsRow w.heap.size 52 3 (.slice a' (q + 1) cap') (q + 1) (flat (A ++ [⟨xk, xt, xv⟩])) := by rw [flat_snocM]; exact hO4
          have HQ2 := Lib.hid (show (A ++ [(⟨xk, xt, xv⟩ : RowV)]).length = q + 1 by rw [List.length_append, HQ.out]; rfl)
          clear hg4 hat hO3 hO4 hb3 y0 y1 y2 hXl3 HN HQ
          go_wp2_with fail
          go_roundw
          case rel => exact ⟨k + 1, 0, q + 1, a', cap', _, rc, R, A ++ [⟨xk, xt, xv⟩], by omega, by go_num, rfl, rfl, hmr, by omega, HQ2, HT2, HR, hO5, hb4⟩
          case measure => simp [intOf]; omega
        obtain ⟨r, R, rfl⟩ : ∃ r R', R = r :: R' := by
          have := HR.out.rows_length
          cases R with
          | nil => simp at this; omega
          | cons r R => exact ⟨r, R, rfl⟩
        obtain ⟨b2, o2, r', rfl, hB2, hr', d0, d1, d2⟩ := (HR.out.below hb (Nat.le_refl _)).row (show 0 < m by omega)
        obtain rfl : r = r' := by simpa using hr'
        clear hr'
        have hcl := (hb.cell (p := ⟨B, 0, none⟩) hBl).trans l0
        have hcle := cmpR_le r ⟨xk, xt, xv⟩
        have CM := fun w => compareRows_any r.key r.val r.tag xk xv xt w
        simp only [Nat.zero_mul, Nat.add_zero] at d0 d1 d2
        have d0' := fun d os => cell_regrown d0 d os
        have d1' := fun d os => cell_regrown d1 d os
        have d2' := fun d os => cell_regrown d2 d os
        have x0' := fun d os => cell_regrown hX0 d os
        have x1' := fun d os => cell_regrown hX1 d os
        have x2' := fun d os => cell_regrown hX2 d os
        have l0' := fun d os => cell_regrown hcl d os
        have hm1 : decide ((0 : Int) < (m : Int)) = true := decide_eq_true (by omega)
        have hm2 : decide (0 < m) = true := decide_eq_true (by omega)
        have hm3 : (0 : Int) < (m : Int) := by omega
        have hm4 : 0 < m := by omega
        unfold cmpR at hcle
        generalize or3 (cmpS r.key xk) (cmpI r.tag xt) (cmpS r.val xv) = z at CM hcle
        cases hq : (⟨xk, xt, xv⟩ : RowV).less r
        · rw [hq] at hcle
          have hcle' : decide (z ≤ 0) = true := hcle
          have HT2 := Lib.hid (show T = (A ++ [r]) ++ mergeR R (⟨xk, xt, xv⟩ :: S.drop (k + 1)) by rw [HA.out, mergeR_left _ _ hq, List.append_assoc]; rfl)
          obtain ⟨rk, rt, rv⟩ := r
          simp only at d0 d1 d2 d0' d1' d2' CM
          clear HA hcle hq
          go_wp2_with fail
          have cM := Lib.hid (fun d os => Calls.regrown_of (w := wr) (d := d) (os := os) (CM _))
          clear CM
          refine wp_region_wq (by kernel_rfl) (by kernel_rfl) ?_
          repeat (refine WQ.step (fun K hK => ?_); go_simp; first | (refine hK _ ?_; clear hK K) | (apply Exists.intro; refine ⟨fun _ => ?_, hK _ ?_⟩; (first | with_reducible exact cM.out _ _); clear hK K))
          refine WQ.nil ?_
          intro _ hw'
          obtain ⟨⟨dq, osq⟩, hw''⟩ := hw'
          subst hw''
          have hbw := below_regrown wr dq osq
          have hb3 := hb.trans (hbw.mono hb.size)
          have hO3 := own_below hO hbw
          have y0 := x0' dq osq
          have y1 := x1' dq osq
          have y2 := x2' dq osq
          have hXl3 := Nat.lt_of_lt_of_le hXl hbw.size
          have r0 := d0' dq osq
          have r1 := d1' dq osq
          have r2 := d2' dq osq
          clear d0' d1' d2' x0' x1' x2' l0' cM hbw hb hO hX0 hX1 hX2 hXl d0 d1 d2 hcl
          generalize Go.Sort.grow (redrawn wr dq) osq = w3 at *
          have hg8 : w.heap.size ≤ w3.heap.size := hb3.size
          have hq1 : q + 1 ≤ maxLen := by unfold maxLen; omega
          have hq2 : (q + 1) * 40 ≤ 140737488355328 := by omega
          go_wp2_with (at_builtin; refine wpList_append_own_at _ rfl _ _ 44 rfl w.heap.size 52 i0 (.agg #[.string ⟨#[]⟩, .int .i64 0, .string ⟨#[]⟩]) 3 40 Try.underlying44 hi hz0 hz1 hz2 rfl (by decide) (.slice g q c) _ _ rfl (hO3.alloc _) ⟨w3.heap.size, 0, none⟩ 1 1 [.string rk, .int .i64 rt, .string rv] rfl rfl (cell_rowM w3 ⟨rk, rt, rv⟩ _) (by simp [Value.oneCell']) hq1 hq2 (Nat.le_trans hg8 (bl1 w3 _).size) ?_; intro v' w4 hO4 hg4 _ hat; refine haltM_ ?_)
          refine unhaltM_ ?_
          obtain ⟨a', cap', rfl⟩ := own_slice' hO4
          have hb4 := below_grown1 hb3 hO3 hg4
          have hO5 : w4.ownsRow w.heap.size 52 3 (.slice a' (q + 1) cap') (q + 1) (flat (A ++ [⟨rk, rt, rv⟩])) := by rw [flat_snocM]; exact hO4
          have HQ2 := Lib.hid (show (A ++ [(⟨rk, rt, rv⟩ : RowV)]).length = q + 1 by rw [List.length_append, HQ.out]; rfl)
          have hne : some X ≠ (Value.slice g q c).ownBlock := fun e => HN.out X e.symm rfl
          have hY0 : w4.cell? ⟨X, 0, none⟩ = some (.string xk) := hg4.cell (a := ⟨X, 0, none⟩) (by rw [World.cell?_alloc_past _ _ _ hXl3]; exact y0) hne
          have hY1 : w4.cell? ⟨X, 1, none⟩ = some (.int .i64 xt) := hg4.cell (a := ⟨X, 1, none⟩) (by rw [World.cell?_alloc_past _ _ _ hXl3]; exact y1) hne
          have hY2 : w4.cell? ⟨X, 2, none⟩ = some (.string xv) := hg4.cell (a := ⟨X, 2, none⟩) (by rw [World.cell?_alloc_past _ _ _ hXl3]; exact y2) hne
          have hYl : X < w4.heap.size := Nat.lt_of_lt_of_le (by simp; omega) hg4.size
          have HN4 : Hid (∀ q', (Value.slice a' (q + 1) cap').ownBlock = some q' → q' ≠ X) := Lib.hid (by
            intro q' e
            rcases hat with h | h
            · exact HN.out q' (h ▸ e)
            · rw [h] at e
              have : w3.heap.size + 1 = q' := by simpa using e
              omega)
          have HR2 := Lib.hid (HR.out.from_ (k := 1) (by omega) hmr)
          clear hg4 hat hO3 hO4 hb3 y0 y1 y2 r0 r1 r2 hXl3 hne HN HQ
          go_wp2_with fail
          go_roundw
          case rel => exact ⟨m - 1, q + 1, a', cap', _, rc - 1, R, A ++ [⟨rk, rt, rv⟩], rfl, rfl, by omega, by omega, HQ2, HT2, HR2, hO5, hb4, hY0, hY1, hY2, hYl, HN4⟩
          case measure => simp; omega
        · rw [hq] at hcle
          have hcle' : decide (z ≤ 0) = false := hcle
          have HT2 := Lib.hid (show T = (A ++ [⟨xk, xt, xv⟩]) ++ mergeR (r :: R) (S.drop (k + 1)) by rw [HA.out, mergeR_right _ _ hq, List.append_assoc]; rfl)
          obtain ⟨rk, rt, rv⟩ := r
          simp only at d0 d1 d2 d0' d1' d2' CM
          clear HA hcle hq
          go_wp2_with fail
          have cM := Lib.hid (fun d os => Calls.regrown_of (w := wr) (d := d) (os := os) (CM _))
          clear CM
          refine wp_region_wq (by kernel_rfl) (by kernel_rfl) ?_
          repeat (refine WQ.step (fun K hK => ?_); go_simp; first | (refine hK _ ?_; clear hK K) | (apply Exists.intro; refine ⟨fun _ => ?_, hK _ ?_⟩; (first | with_reducible exact cM.out _ _); clear hK K))
          refine WQ.nil ?_
          intro _ hw'
          obtain ⟨⟨dq, osq⟩, hw''⟩ := hw'
          subst hw''
          have hbw := below_regrown wr dq osq
          have hb3 := hb.trans (hbw.mono hb.size)
          have hO3 := own_below hO hbw
          have y0 := x0' dq osq
          have y1 := x1' dq osq
          have y2 := x2' dq osq
          have hXl3 := Nat.lt_of_lt_of_le hXl hbw.size
          skip
          clear d0' d1' d2' x0' x1' x2' l0' cM hbw hb hO hX0 hX1 hX2 hXl d0 d1 d2 hcl
          generalize Go.Sort.grow (redrawn wr dq) osq = w3 at *
          have hg8 : w.heap.size ≤ w3.heap.size := hb3.size
          have hq1 : q + 1 ≤ maxLen := by unfold maxLen; omega
          have hq2 : (q + 1) * 40 ≤ 140737488355328 := by omega
          go_wp2_with (at_builtin; refine wpList_append_own_at _ rfl _ _ 44 rfl w.heap.size 52 i0 (.agg #[.string ⟨#[]⟩, .int .i64 0, .string ⟨#[]⟩]) 3 40 Try.underlying44 hi hz0 hz1 hz2 rfl (by decide) (.slice g q c) _ _ rfl (hO3.alloc _) ⟨w3.heap.size, 0, none⟩ 1 1 [.string xk, .int .i64 xt, .string xv] rfl rfl (cell_rowM w3 ⟨xk, xt, xv⟩ _) (by simp [Value.oneCell']) hq1 hq2 (Nat.le_trans hg8 (bl1 w3 _).size) ?_; intro v' w4 hO4 hg4 _ hat; refine haltM_ ?_)
          refine unhaltM_ ?_
          obtain ⟨a', cap', rfl⟩ := own_slice' hO4
          have hb4 := below_grown1 hb3 hO3 hg4
          have hO5 : w4.ownsRow w.heap.size 52 3 (.slice a' (q + 1) cap') (q + 1) (flat (A ++ [⟨xk, xt, xv⟩])) := by rw [flat_snocM]; exact hO4
          have HQ2 := Lib.hid (show (A ++ [(⟨xk, xt, xv⟩ : RowV)]).length = q + 1 by rw [List.length_append, HQ.out]; rfl)
          clear hg4 hat hO3 hO4 hb3 y0 y1 y2 hXl3 HN HQ
          go_wp2_with fail
          go_roundw
          case rel => exact ⟨k + 1, m, q + 1, a', cap', _, rc, (⟨rk, rt, rv⟩ :: R), A ++ [⟨xk, xt, xv⟩], by omega, by go_num, rfl, rfl, hmr, by omega, HQ2, HT2, HR, hO5, hb4⟩
          case measure => simp [intOf]; omega
    · obtain rfl : k = ns := by omega
      have HTE := Lib.hid (show T = A ++ R by rw [HA.out, List.drop_of_length_le (by rw [hSl.out]; exact Nat.le_refl _), mergeR_none])
      have hR2 := HR.out.below hb (Nat.le_refl _)
      have hL2 := HL.out.below hb hBl
      have hq1 : q + m ≤ maxLen := by unfold maxLen; omega
      have hq2 : (q + m) * 40 ≤ 140737488355328 := by omega
      go_wp2_with (at_builtin; refine wpList_append_rd rfl _ _ 44 rfl w.heap.size 52 i0 (.agg #[.string ⟨#[]⟩, .int .i64 0, .string ⟨#[]⟩]) 3 40 Try.underlying44 hi hz0 hz1 hz2 rfl (by decide) (.slice g q c) q (flat A) rfl hO ra w.heap.size m rc (flat R) rfl hR2 (flat_oneM _) hq1 hq2 hb.size ?_; intro v' w4 hO4 hg4 hat; refine haltM_ ?_)
      refine unhaltM_ ?_
      obtain ⟨a', cap', rfl⟩ := own_slice' hO4
      have hL4 : Sl w4 B (.slice ia ni ic) := hL2.grown hg4 (fun e => by have := (own_ge hO B e.symm).1; omega)
      have hb4 : Below w.heap.size w w4 := hb.grown hg4 hb.size (fun q' e => (own_ge hO q' e).1)
      obtain ⟨p0, p1⟩ := hL4.cells
      obtain ⟨f0, f1⟩ := hL4.frozen
      rw [← flat_append, ← HTE.out] at hO4
      have hO5 : (w4.setCell ⟨B, 1, none⟩ (.slice a' (q + m) cap')).ownsRow w.heap.size 52 3 (.slice a' (q + m) cap') (q + m) (flat T) := hO4.kept (gb_store (World.grownBy.refl w4 (some B)) 1 _) (by
        cases hv : (Value.slice a' (q + m) cap').ownBlock with
        | none => exact .inl rfl
        | some g' =>
          right
          intro he
          have h1 := (own_ge hO4 g' hv).1
          have h2 : g' = B := by simpa using he
          omega)
      have hL5 := hL4.put (.slice a' (q + m) cap')
      have hG5 : w.grownBy (w4.setCell ⟨B, 1, none⟩ (.slice a' (q + m) cap')) (some B) := gb_store (gb_of_below hb4 (some B)) 1 _
      rw [hqm] at hL5 hO5 hG5
      clear hL2 hL4 hO hO4 hg4 hat hb hb4 hR2 HR HA HL
      go_wp2_with fail
      rw [hqm]
      first | (refine bodyPost_ret (results_none rfl _ _ _) rfl ?_) | go_end0
      exact ⟨⟨_, rfl⟩, a', cap', hL5, hG5, hO5⟩
end Go.Proofs.Ytpnbbedfbglekaa


namespace Go.Proofs.Ytpnbbedfbglekaa
open Go.RowKit

theorem rowsIn_flatten : ∀ ps : List (List RowV), rowsIn ps = ps.flatten.length
  | [] => rfl
  | r :: ps => by rw [List.flatten_cons, List.length_append, ← rowsIn_flatten ps]; simp [rowsIn]
def mergedRunsB (ps : List (List RowV)) : Bool := runsB ps
def mergedRunsS (ps : List (List RowV)) : List RowV := if runsB ps then sortL ps.flatten else []
theorem mergedRunsS_le (ps : List (List RowV)) : (mergedRunsS ps).length ≤ 1048576 := by
  unfold mergedRunsS
  split
  · rename_i h
    simp only [runsB, Bool.and_eq_true, decide_eq_true_eq] at h
    rw [sortL_length]
    omega
  · simp
set_option maxRecDepth 100000 in
set_option maxHeartbeats 1000000 in
theorem specMergedRuns_any (a : Option Addr) (n cap : Nat) (ps : List (List RowV)) (w : World) (hn : n ≤ 1048576) (hr : rowsIn ps ≤ 1048576) (hok : ∀ rs ∈ ps, rs.length ≤ maxLen ∧ ∀ r ∈ rs, r.Ok) (hP : PRd w w.heap.size a n ps) :
    Calls Try.prog 46 #[.slice a n cap] w fun e w' => ∃ b c, e = .returned (.tuple #[.slice b (mergedRunsS ps).length c, .bool (mergedRunsB ps)]) ∧ Below w.heap.size w w' ∧ w'.ownsRow w.heap.size 52 3 (.slice b (mergedRunsS ps).length c) (mergedRunsS ps).length (flat (mergedRunsS ps)) := by
  rw [rowsIn_flatten] at hr
  have hok2 : ∀ rs ∈ ps, ∀ r ∈ rs, r.Ok := fun rs h => (hok rs h).2
  cases hq : runsB ps
  · have E1 : mergedRunsS ps = [] := by unfold mergedRunsS; rw [hq]; rfl
    have E2 : mergedRunsB ps = false := hq
    rw [E1, E2]
    have HC := Lib.hid (l3Runs_any a n cap ps w hn hr hok2 hP)
    rw [hq] at HC
    clear E1 E2 hq
    go_enter Try.func46, Try.ntmps46
    go_wp2_with fail
    refine HC.out.mono ?_
    rintro e w1 ⟨rfl, hb⟩
    go_wp2_with fail
    go_ret2
    exact ⟨none, 0, rfl, hb, World.ownsRow_nil _ _ _ _⟩
  · have E1 : mergedRunsS ps = sortL ps.flatten := by unfold mergedRunsS; rw [hq]; rfl
    have E2 : mergedRunsB ps = true := hq
    rw [E1, E2, sortL_length]
    have HC := Lib.hid (l3Runs_any a n cap ps w hn hr hok2 hP)
    rw [hq] at HC
    clear E1 E2 hq
    go_enter Try.func46, Try.ntmps46
    go_wp2_with fail
    refine HC.out.mono ?_
    rintro e w1 ⟨rfl, hb⟩
    have P1 := (hP.below hb (Nat.le_refl _)).more hb.size
    go_wp2_with fail
    refine (l3All_any a n cap ps w1 hn hr P1).mono ?_
    rintro e w2 ⟨b, c, rfl, hb2, hO⟩
    have B2 := hb.trans (hb2.mono hb.size)
    have hfl : ∃ fl, fl = ps.flatten.length := ⟨_, rfl⟩
    obtain ⟨fl, hfl⟩ := hfl
    have Hfl := Lib.hid hfl
    rw [← hfl] at hO hr ⊢
    clear hfl
    go_wp2_with fail
    refine (l3Sort_any b fl c ps.flatten w2 (by omega) (Rd.of_own hO)).mono ?_
    rintro e w3 ⟨b3, c3, rfl, hO3, hb3⟩
    have B3 := B2.trans (hb3.mono B2.size)
    have hO4 := own_base' hO3 B2.size
    go_wp2_with fail
    go_ret2
    rw [← Hfl.out]
    exact ⟨b3, c3, rfl, B3, hO4⟩
end Go.Proofs.Ytpnbbedfbglekaa

namespace Go.Proofs.Ytpnbbedfbglekaa
open Go.RowKit
theorem capM {w : World} {base e s n c : Nat} {a : Option Addr} {xs : List Value} (h : w.ownsRow base e s (.slice a n c) n xs) : n ≤ c := by
  cases a with
  | none =>
    rcases h.2 with ⟨h0, h1⟩ | ⟨g', c', cur, hv, _⟩
    · first | omega | (injection h0; omega)
    · injection hv with e1; cases e1
  | some x =>
    rcases h.2 with ⟨h0, _⟩ | ⟨g', c', cur, hv, _, _, hnc, _⟩
    · cases h0
    · injection hv with _ _ e3; rw [e3]; exact hnc
theorem take_runs {ps : List (List RowV)} {k : Nat} {r : List RowV} (h : ps[k]? = some r) : ps.take (k + 1) = ps.take k ++ [r] := by
  rw [List.take_add_one, h, Option.toList_some]
theorem flatten_take_leM (ps : List (List RowV)) (k : Nat) : (ps.take k).flatten.length ≤ ps.flatten.length := by
  have e : ps.flatten = (ps.take k).flatten ++ (ps.drop k).flatten := by rw [← List.flatten_append, List.take_append_drop]
  rw [e, List.length_append]; omega
set_option maxRecDepth 100000 in
set_option maxHeartbeats 2000000 in
theorem merged_any (a : Option Addr) (n cap : Nat) (ps : List (List RowV)) (w : World) (hn : n ≤ 1000) (hf : ps.flatten.length ≤ 1000) (hP : PRd w w.heap.size a n ps) :
    Calls Try.prog 93 #[.slice a n cap] w fun e w' => ∃ b c, e = .returned (.slice b (mergedL ps).length c) ∧ Below w.heap.size w w' ∧ w'.ownsRow w.heap.size 52 3 (.slice b (mergedL ps).length c) (mergedL ps).length (flat (mergedL ps)) := by
  have hpl := Lib.hid hP.len
  have hb0 := bl1 w (.cells #[.func (.func 114) #[] #[], .slice none 0 0] 161)
  have L0 := Sl.new w (.slice none 0 0) 161
  have HFL := Lib.hid (fun k => flatten_take_leM ps k)
  go_enter Try.func93, Try.ntmps93
  go_wp2_with fail
  generalize w.alloc (.cells #[.func (.func 114) #[] #[], .slice none 0 0] 161) = w0 at *
  go_loopw [9] (fun i wr => ∃ (k ni ic : Nat) (ia : Option Addr), k ≤ n ∧ i = .int .i64 k ∧ Sl wr w.heap.size (.slice ia ni ic) ∧ Hid ((mergedL (ps.take k)).length = ni) ∧ wr.ownsRow w.heap.size 52 3 (.slice ia ni ic) ni (flat (mergedL (ps.take k))) ∧ Below w.heap.size w wr) (fun i _ => n - (intOf i).toNat)
  case atStart => exact ⟨0, 0, 0, none, Nat.zero_le _, rfl, L0, Lib.hid rfl, World.ownsRow_nil _ _ _ _, hb0⟩
  case round =>
    obtain ⟨k, ni, ic, ia, hk, rfl, hL, HN, hO, hb⟩ := hrel
    clear L0 hb0
    by_cases hlt : k < n
    · obtain ⟨b3, o3, a3, c3, r3, rfl, hB3, hr3, d3, R3⟩ := ((hP.below hb (Nat.le_refl _)).more hb.size).at_ hlt
      have hT := take_runs hr3
      have hfl := HFL.out (k + 1)
      have hni : ni ≤ 1000 := by
        rw [← HN.out, mergedL_length]
        exact Nat.le_trans (HFL.out k) hf
      have hns : r3.length ≤ 1000 := by
        rw [hT, List.flatten_append, List.flatten_singleton, List.length_append] at hfl
        omega
      have HT := Lib.hid (show mergedL (ps.take (k + 1)) = mergeR (mergedL (ps.take k)) r3 by rw [hT, mergedL_snoc])
      have HN2 := Lib.hid (show (mergedL (ps.take (k + 1))).length = ni + r3.length by rw [HT.out, mergeR_length, HN.out])
      have hb1 := bl1 wr (.cells #[.slice a3 r3.length c3] 59)
      have hv0 : (wr.alloc (.cells #[.slice a3 r3.length c3] 59)).cell? ⟨wr.heap.size, 0, none⟩ = some (.slice a3 r3.length c3) := by simp [go_sem]
      have hL1 := hL.keep hb1
      have hO1 := own_below hO hb1
      have hB1 := hb.trans (hb1.mono hb.size)
      have R1 := (R3.below hb1 (Nat.le_refl _)).more hb1.size
      have hic := capM hO
      have CM := merge_any w.heap.size ia ni ic (mergedL (ps.take k)) a3 r3.length c3 r3 _ hni hns hic hL1 (Rd.of_own hO1) R1
      clear hr3 hT hfl hL hO hb hb1 R3
      go_wp2_with fail
      generalize wr.alloc (.cells #[.slice a3 r3.length c3] 59) = w2 at *
      refine CM.mono ?_
      rintro e w3 ⟨⟨v, rfl⟩, a', c', hL3, hG3, hO3⟩
      have hB3 := hB1.trans (gb_below hG3 hB1.size (fun g e => Nat.le_of_eq (Option.some.inj e)))
      have hO4 := own_base' hO3 hB1.size
      rw [← HT.out] at hO4
      clear CM hL1 hO1 hB1 R1 hG3 hO3 d3 hv0
      go_wp2_with fail
      go_roundw
      case rel => exact ⟨k + 1, ni + r3.length, c', a', by omega, by go_num, hL3, HN2, hO4, hB3⟩
      case measure => simp [intOf]; omega
    · obtain rfl : k = n := by omega
      have hT : ps.take k = ps := List.take_of_length_le (by rw [hpl.out]; exact Nat.le_refl _)
      rw [hT] at HN hO
      obtain ⟨p0, p1⟩ := hL.cells
      clear hT hL
      go_wp2_with fail
      go_ret
      exact ⟨ia, ic, by rw [HN.out]; rfl, hb, by rw [HN.out]; exact hO⟩
set_option maxRecDepth 100000 in
set_option maxHeartbeats 1000000 in
theorem implMergedRuns_any (a : Option Addr) (n cap : Nat) (ps : List (List RowV)) (w : World) (hn : n ≤ 1048576) (hr : rowsIn ps ≤ 1048576) (hok : ∀ rs ∈ ps, rs.length ≤ maxLen ∧ ∀ r ∈ rs, r.Ok) (hP : PRd w w.heap.size a n ps) :
    Calls Try.prog 41 #[.slice a n cap] w fun e w' => ∃ b c, e = .returned (.tuple #[.slice b (mergedRunsS ps).length c, .bool (mergedRunsB ps)]) ∧ Below w.heap.size w w' ∧ w'.ownsRow w.heap.size 52 3 (.slice b (mergedRunsS ps).length c) (mergedRunsS ps).length (flat (mergedRunsS ps)) := by
  rw [rowsIn_flatten] at hr
  have hok2 : ∀ rs ∈ ps, ∀ r ∈ rs, r.Ok := fun rs h => (hok rs h).2
  have hpl := hP.len
  cases hq : runsB ps
  · have E1 : mergedRunsS ps = [] := by unfold mergedRunsS; rw [hq]; rfl
    have E2 : mergedRunsB ps = false := hq
    rw [E1, E2]
    have HC := Lib.hid (runsOk_any a n cap ps w hn hr hok2 hP)
    rw [hq] at HC
    clear E1 E2 hq
    go_enter Try.func41, Try.ntmps41
    go_wp2_with fail
    refine HC.out.mono ?_
    rintro e w1 ⟨rfl, hb⟩
    go_wp2_with fail
    go_ret2
    exact ⟨none, 0, rfl, hb, World.ownsRow_nil _ _ _ _⟩
  · have E1 : mergedRunsS ps = mergedL ps := by unfold mergedRunsS; rw [hq, mergedL_runs hq]; rfl
    have E2 : mergedRunsB ps = true := hq
    have hlim : n ≤ 1000 ∧ ps.flatten.length ≤ 1000 := by
      simp only [runsB, Bool.and_eq_true, decide_eq_true_eq] at hq
      omega
    obtain ⟨hl1, hl2⟩ := hlim
    rw [E1, E2]
    have HC := Lib.hid (runsOk_any a n cap ps w hn hr hok2 hP)
    rw [hq] at HC
    clear E1 E2 hq
    have CM := fun w1 h => merged_any a n cap ps w1 hl1 hl2 h
    generalize mergedL ps = T at *
    go_enter Try.func41, Try.ntmps41
    go_wp2_with fail
    refine HC.out.mono ?_
    rintro e w1 ⟨rfl, hb⟩
    have P1 := (hP.below hb (Nat.le_refl _)).more hb.size
    go_wp2_with fail
    refine (CM w1 P1).mono ?_
    rintro e w2 ⟨b, c, rfl, hb2, hO⟩
    have B2 := hb.trans (hb2.mono hb.size)
    have hO2 := own_base' hO hb.size
    clear hO hb hb2 P1 CM
    go_wp2_with fail
    go_ret2
    exact ⟨b, c, rfl, B2, hO2⟩
end Go.Proofs.Ytpnbbedfbglekaa

namespace Go.Proofs.Ytpnbbedfbglekaa
open Go.RowKit

/-- What szRowS returns, with the number of rows taken off. -/
def SzSum (left : Int) (len : Nat) (w : World) (e : Ending) (w' : World) : Prop := ∃ z : Int, e = .returned (.int .i64 z) ∧ Below w.heap.size w w' ∧ (z = -1 ∨ 0 ≤ z ∧ z + len ≤ left)
set_option maxRecDepth 100000 in
set_option maxHeartbeats 1000000 in
theorem szRowS_sum (a : Option Addr) (len cap : Nat) (rs : List RowV) (left : Int) (w : World) (hm : len ≤ maxLen) (hok : ∀ r ∈ rs, r.Ok) (hR : Rd w w.heap.size 3 a len (flat rs)) (h0 : 0 ≤ left) (h1 : left ≤ 1048576) :
    Calls Try.prog 53 #[.slice a len cap, .int .i64 left] w (SzSum left len w) := by
  unfold maxLen at hm
  by_cases hs : left < len
  · go_enter Try.func53, Try.ntmps53
    go_wp2
    go_ret
    exact ⟨-1, rfl, Below.refl _ _, .inl rfl⟩
  go_enter Try.func53, Try.ntmps53
  go_wp2
  go_loopw [1, 5] (fun l i wr => ∃ (k : Nat) (z : Int), k ≤ len ∧ i = .int .i64 k ∧ l = .int .i64 z ∧ 0 ≤ z ∧ z + len ≤ left ∧ Below w.heap.size w wr) (fun _ i _ => len - (intOf i).toNat)
  case atStart => exact ⟨0, left - len, Nat.zero_le _, rfl, rfl, by omega, by omega, Below.refl _ _⟩
  case round =>
    obtain ⟨k, z, hk, rfl, rfl, hz0, hz1, hb⟩ := hrel
    by_cases hlt : k < len
    · obtain ⟨b, off, r, rfl, hB, hr, c0, c1, c2⟩ := (hR.below hb (Nat.le_refl _)).row hlt
      have hro := RowV.Ok.of hok hr
      clear hr
      obtain ⟨key, tag, val⟩ := r
      obtain ⟨hkk, _, hvv⟩ := hro
      have hz2 := szV_le key val z hz0 (by omega)
      go_wp2_with fail
      refine (szRow_any key val tag z _ hkk hvv (by omega) (by omega)).mono ?_
      rintro e w1 ⟨rfl, hb1⟩
      clear c0 c1 c2
      generalize szV key val z = z' at *
      rcases hz2 with rfl | ⟨hz20, hz21⟩
      · go_wp2_with fail
        go_ret
        exact ⟨-1, rfl, hb.trans (hb1.mono hb.size), .inl rfl⟩
      go_wp2_with fail
      go_roundw
      case rel => exact ⟨k + 1, z', by omega, by go_num, rfl, hz20, by omega, hb.trans (hb1.mono hb.size)⟩
      case measure => simp [intOf]; omega
    · go_wp2_with fail
      go_ret
      exact ⟨z, rfl, hb, .inr ⟨hz0, hz1⟩⟩
set_option maxRecDepth 100000 in
theorem szPart_any (a : Option Addr) (len cap : Nat) (rs : List RowV) (left : Int) (w : World) (hm : len ≤ maxLen) (hok : ∀ r ∈ rs, r.Ok) (hR : Rd w w.heap.size 3 a len (flat rs)) (h0 : 0 ≤ left) (h1 : left ≤ 1048576) :
    Calls Try.prog 100 #[.agg #[.slice a len cap], .int .i64 left] w (SzSum left len w) := by
  have hb0 := bl1 w (.cells #[.slice a len cap] 132)
  have R1 := (hR.below hb0 (Nat.le_refl _)).more hb0.size
  go_enter Try.func100, Try.ntmps100
  go_wp2_with fail
  generalize w.alloc (.cells #[.slice a len cap] 132) = w0 at *
  refine (szRowS_sum a len cap rs left w0 hm hok R1 h0 h1).mono ?_
  rintro e w1 ⟨z, rfl, hb, hz⟩
  have b9 := hb0.trans (hb.mono hb0.size)
  rcases hz with rfl | ⟨z0, z1⟩
  · go_wp2_with fail
    go_ret
    exact ⟨-1, rfl, b9, .inl rfl⟩
  · go_wp2_with fail
    go_ret
    exact ⟨z, rfl, b9, .inr ⟨z0, z1⟩⟩
/-- What a law on parts is handed. -/
def IsParts (w : World) (a : Option Addr) (len cap : Nat) (ps : List (List RowV)) : Prop := len ≤ cap ∧ cap ≤ maxLen ∧ (∀ rs ∈ ps, rs.length ≤ maxLen ∧ ∀ r ∈ rs, r.Ok) ∧ PRd w w.heap.size a len ps
set_option maxRecDepth 100000 in
set_option maxHeartbeats 1000000 in
theorem szPartS_any (a : Option Addr) (len cap : Nat) (ps : List (List RowV)) (left : Int) (w : World) (hm : len ≤ maxLen) (hok : ∀ rs ∈ ps, rs.length ≤ maxLen ∧ ∀ r ∈ rs, r.Ok) (hP : PRd w w.heap.size a len ps) (h0 : 0 ≤ left) (h1 : left ≤ 1048576) :
    Calls Try.prog 45 #[.slice a len cap, .int .i64 left] w fun e w' => ∃ z : Int, e = .returned (.int .i64 z) ∧ Below w.heap.size w w' ∧ (z = -1 ∨ 0 ≤ z ∧ z ≤ left ∧ (len : Int) ≤ left ∧ (rowsIn ps : Int) ≤ left) := by
  have hpl := Lib.hid hP.len
  unfold maxLen at hm
  by_cases hs : left < len
  · go_enter Try.func45, Try.ntmps45
    go_wp2
    go_ret
    exact ⟨-1, rfl, Below.refl _ _, .inl rfl⟩
  go_enter Try.func45, Try.ntmps45
  go_wp2
  go_loopw [1, 5] (fun l i wr => ∃ (k : Nat) (z : Int) (q : Nat), k ≤ len ∧ i = .int .i64 k ∧ l = .int .i64 z ∧ 0 ≤ z ∧ z + q ≤ left ∧ Hid (rowsIn (ps.take k) = q) ∧ Below w.heap.size w wr) (fun _ i _ => len - (intOf i).toNat)
  case atStart => exact ⟨0, left - len, 0, Nat.zero_le _, rfl, rfl, by omega, by omega, Lib.hid (by simp [rowsIn]), Below.refl _ _⟩
  case round =>
    obtain ⟨k, z, q, hk, rfl, rfl, hz0, hz1, HQ, hb⟩ := hrel
    by_cases hlt : k < len
    · obtain ⟨b1, o1, a1, c1, r1, rfl, hB1, hr1, d1, R1⟩ := (hP.below hb (Nat.le_refl _)).at_ hlt
      obtain ⟨hl1, hok1⟩ := hok r1 (List.mem_of_getElem? hr1)
      have HC := Lib.hid (rowsIn_take_succ hr1)
      clear hr1
      go_wp2_with fail
      refine (szPart_any a1 r1.length c1 r1 z _ hl1 hok1 (R1.more hb.size) (by omega) (by omega)).mono ?_
      rintro e w1 ⟨z', rfl, hb1, hz⟩
      have b9 := hb.trans (hb1.mono hb.size)
      clear d1
      rcases hz with rfl | ⟨z0, z1⟩
      · go_wp2_with fail
        go_ret
        exact ⟨-1, rfl, b9, .inl rfl⟩
      go_wp2_with fail
      go_roundw
      case rel => exact ⟨k + 1, z', q + r1.length, by omega, by go_num, rfl, z0, by omega, Lib.hid (by rw [HC.out, HQ.out]), b9⟩
      case measure => simp [intOf]; omega
    · have HA : rowsIn (ps.take k) = rowsIn ps := by rw [List.take_of_length_le (by rw [hpl.out]; omega)]
      have HL := HQ.out
      rw [HA] at HL
      clear HA
      go_wp2_with fail
      go_ret
      exact ⟨z, rfl, hb, .inr ⟨hz0, by omega, by omega, by omega⟩⟩
set_option maxRecDepth 100000 in
theorem toPart_any (a : Option Addr) (len cap : Nat) (rs : List RowV) (w : World) (hm : len ≤ 1048576) (hR : Rd w w.heap.size 3 a len (flat rs)) :
    Calls Try.prog 104 #[.agg #[.slice a len cap]] w fun e w' => ∃ g : Nat, w.heap.size ≤ g ∧ e = .returned (.agg #[.slice (some ⟨g, 0, none⟩) len len]) ∧ Below w.heap.size w w' ∧ w'.ownsRow w.heap.size 52 3 (.slice (some ⟨g, 0, none⟩) len len) len (flat rs) := by
  have hb0 := bl3 w (.cells #[.slice a len cap] 132) (.cells #[.slice none 0 0] 59) (.cells #[.slice none 0 0] 59)
  have R1 := (hR.below hb0 (Nat.le_refl _)).more hb0.size
  go_enter Try.func104, Try.ntmps104
  go_wp2_with fail
  have s0 : (((w.alloc (.cells #[.slice a len cap] 132)).alloc (.cells #[.slice none 0 0] 59)).alloc (.cells #[.slice none 0 0] 59)).heap.size = w.heap.size + 3 := by simp
  have x1 : (((w.alloc (.cells #[.slice a len cap] 132)).alloc (.cells #[.slice none 0 0] 59)).alloc (.cells #[.slice none 0 0] 59)).cell? ⟨w.heap.size + 1, 0, none⟩ = some (.slice none 0 0) := by simp [go_sem]
  have x2 : (((w.alloc (.cells #[.slice a len cap] 132)).alloc (.cells #[.slice none 0 0] 59)).alloc (.cells #[.slice none 0 0] 59)).cell? ⟨w.heap.size + 1 + 1, 0, none⟩ = some (.slice none 0 0) := by simp [go_sem]
  have f1 : (((w.alloc (.cells #[.slice a len cap] 132)).alloc (.cells #[.slice none 0 0] 59)).alloc (.cells #[.slice none 0 0] 59)).frozen? ⟨w.heap.size + 1, 0, none⟩ = false := by simp [go_sem]
  have f2 : (((w.alloc (.cells #[.slice a len cap] 132)).alloc (.cells #[.slice none 0 0] 59)).alloc (.cells #[.slice none 0 0] 59)).frozen? ⟨w.heap.size + 1 + 1, 0, none⟩ = false := by simp [go_sem]
  generalize ((w.alloc (.cells #[.slice a len cap] 132)).alloc (.cells #[.slice none 0 0] 59)).alloc (.cells #[.slice none 0 0] 59) = w0 at *
  refine (toRowS_any a len cap rs w0 hm R1).mono ?_
  rintro e w1 ⟨rfl, hb1, hO⟩
  have l1 : w.heap.size + 1 < w0.heap.size := by omega
  have l2 : w.heap.size + 1 + 1 < w0.heap.size := by omega
  have l3 : w.heap.size ≤ w.heap.size + 1 := by omega
  have l4 : w.heap.size ≤ w.heap.size + 1 + 1 := by omega
  replace x1 := (hb1.cell (p := ⟨w.heap.size + 1, 0, none⟩) l1).trans x1
  replace x2 := (hb1.cell (p := ⟨w.heap.size + 1 + 1, 0, none⟩) l2).trans x2
  replace f1 := (hb1.frozen (p := ⟨w.heap.size + 1, 0, none⟩) l1).trans f1
  replace f2 := (hb1.frozen (p := ⟨w.heap.size + 1 + 1, 0, none⟩) l2).trans f2
  have hB := hb0.trans (hb1.mono (by omega))
  have hg : w.heap.size ≤ w0.heap.size := by omega
  have h9 := (hB.setCell (p := ⟨w.heap.size + 1 + 1, 0, none⟩) l4 (.slice (some ⟨w0.heap.size, 0, none⟩) len len)).setCell (p := ⟨w.heap.size + 1, 0, none⟩) l3 (.slice (some ⟨w0.heap.size, 0, none⟩) len len)
  have hO9 : ((w1.setCell ⟨w.heap.size + 1 + 1, 0, none⟩ (.slice (some ⟨w0.heap.size, 0, none⟩) len len)).setCell ⟨w.heap.size + 1, 0, none⟩ (.slice (some ⟨w0.heap.size, 0, none⟩) len len)).ownsRow w.heap.size 52 3 (.slice (some ⟨w0.heap.size, 0, none⟩) len len) len (flat rs) := by
    refine own_base' (own_other (own_other hO (gb_store (World.grownBy.refl w1 (some (w.heap.size + 1 + 1))) 0 _) ?_) (gb_store (World.grownBy.refl _ (some (w.heap.size + 1))) 0 _) ?_) hg
    · intro g e h; injection e with e; injection h with h; simp at e; omega
    · intro g e h; injection e with e; injection h with h; simp at e; omega
  clear hO hb1 R1 hb0 s0
  go_wp2_with fail
  refine bodyPost_ret (v := .agg #[.slice (some ⟨w0.heap.size, 0, none⟩) len len]) ?_ rfl ⟨w0.heap.size, hg, rfl, h9, hO9⟩
  simp [results, Try.results104, asAddr, go_sem, x1]
theorem Fam.put {w : World} {lo G j : Nat} {vs : List Value} {ps : List (List RowV)} (h : Fam w lo vs ps) (hG : G < lo) (v : Value) : Fam (w.setCell ⟨G, j, none⟩ v) lo vs ps :=
  ⟨h.len, fun i u rs h1 h2 => own_other (h.own i u rs h1 h2) (gb_store (World.grownBy.refl w (some G)) j v) (fun g hg e => by
    have := (own_ge (h.own i u rs h1 h2) g hg).1
    injection e with e
    omega), h.sep⟩
set_option maxRecDepth 100000 in
set_option maxHeartbeats 1000000 in
theorem toPartS_any (a : Option Addr) (len cap : Nat) (ps : List (List RowV)) (w : World) (hm : len ≤ 1048576) (hr : rowsIn ps ≤ 1048576) (hP : PRd w w.heap.size a len ps) :
    Calls Try.prog 47 #[.slice a len cap] w fun e w' => ∃ (p : Option Addr) (vs : List Value), e = .returned (.slice p len len) ∧ Below w.heap.size w w' ∧ POwn w' w.heap.size p len len vs ps := by
  obtain ⟨i0, hi, hz0, hz1, hz2⟩ := info_parts infoPart
  have hpl := Lib.hid hP.len
  go_enter Try.func47, Try.ntmps47
  go_wp2_with (at_make; refine wpList_make_full _ rfl _ _ 55 rfl w.heap.size 59 i0 (.agg #[.slice none 0 0]) 1 Try.underlying55 hi hz0 hz1 .i64 .i64 _ _ len rfl rfl (by omega) (by omega) (by rw [hz2]; omega) (by unfold maxLen; omega) (Nat.le_refl _) ?_; intro w1 hown hgrow)
  have hb1 := (Below.refl w.heap.size w).grown hgrow (Nat.le_refl _) (by simp)
  clear hgrow
  go_loopw [4] (fun i wr => ∃ (k : Nat) (xs vs : List Value), k ≤ len ∧ i = .int .i64 k ∧ Below w.heap.size w wr ∧ wr.ownsRow w.heap.size 59 1 (.slice (some ⟨w.heap.size, 0, none⟩) len len) len xs ∧ Hid (xs.take k = vs) ∧ Hid (Fam wr (w.heap.size + 1) vs (ps.take k))) (fun i _ => len - (intOf i).toNat)
  case atStart => exact ⟨0, _, [], Nat.zero_le _, rfl, hb1, hown, Lib.hid (by simp), Lib.hid (by simpa using Fam.nil _ _)⟩
  case round =>
    obtain ⟨k, xs, vs, hk, rfl, hb, hO, Hx, HF⟩ := hrel
    clear hown hb1
    by_cases hlt : k < len
    · obtain ⟨b1, o1, a1, c1, r1, rfl, hB1, hr1, d1, R1⟩ := (hP.below hb (Nat.le_refl _)).at_ hlt
      have hl1 := rowsIn_at hr1
      have Hr := Lib.hid hr1
      have HT := Lib.hid (show ps.take (k + 1) = ps.take k ++ [r1] by rw [List.take_add_one, hr1]; rfl)
      clear hr1
      have hgw : w.heap.size < wr.heap.size := (own_ge hO w.heap.size rfl).2
      go_wp2_with fail
      refine (toPart_any a1 r1.length c1 r1 wr (by omega) (R1.more hb.size)).mono ?_
      rintro e w2 ⟨g, hg, rfl, hb2, hO1⟩
      have hO2 := own_below hO hb2
      have hxl : k < xs.length := by rw [hO.1]; omega
      have HF2 := Lib.hid ((HF.out.snoc hb2 (v := .slice (some ⟨g, 0, none⟩) r1.length r1.length) (own_base' hO1 (by omega)) (fun q e => by injection e with e; simp at e; omega)).put (G := w.heap.size) (j := k) (by omega) (.slice (some ⟨g, 0, none⟩) r1.length r1.length))
      rw [← HT.out] at HF2
      have Hx2 := Lib.hid (take_set1 (.slice (some ⟨g, 0, none⟩) r1.length r1.length) Hx.out hxl)
      have f0 := hO2.frozenAt k
      obtain ⟨u0, e0⟩ := own_cell hO2 (j := k) (by omega)
      have hB2 : Below w.heap.size w w2 := hb.trans (hb2.mono hb.size)
      have hO3 := (hO2.stored k (.slice (some ⟨g, 0, none⟩) r1.length r1.length)).1
      have hB3 := hB2.setCell (p := ⟨w.heap.size, k, none⟩) (Nat.le_refl _) (.slice (some ⟨g, 0, none⟩) r1.length r1.length)
      clear d1 hb2 hO hO1 R1 HF Hx hO2 hB2
      go_wp2_with fail
      go_roundw
      case rel => exact ⟨k + 1, _, _, by omega, by go_num, hB3, hO3, Hx2, HF2⟩
      case measure => simp [intOf]; omega
    · obtain rfl : k = len := by omega
      have hx := Hx.out
      rw [List.take_of_length_le (by rw [hO.1]; omega)] at hx
      subst hx
      have hF := HF.out
      rw [List.take_of_length_le (by rw [hpl.out]; omega)] at hF
      clear HF Hx
      go_wp2_with fail
      go_ret
      refine ⟨some ⟨w.heap.size, 0, none⟩, xs, rfl, hb, ⟨hO, hF.base (Nat.le_succ _), fun v hv q hq e => ?_⟩⟩
      obtain ⟨i, hi⟩ := List.getElem?_of_mem hv
      have hil : i < ps.length := by rw [← hF.len]; exact (List.getElem?_eq_some_iff.1 hi).1
      have := (own_ge (hF.own i v ps[i] hi (List.getElem?_eq_getElem hil)) q hq).1
      injection e with e
      simp at e
      omega
end Go.Proofs.Ytpnbbedfbglekaa

namespace Go.Proofs.Ytpnbbedfbglekaa
open Go.RowKit

/-- The marks of parts, the first of them K. -/
def marksP (K : Nat) : List (List RowV) → List (List RowV)
  | [] => []
  | r :: ps => marksR K r.length :: marksP (K + 3 * r.length) ps
theorem marksP_length (K : Nat) (ps : List (List RowV)) : (marksP K ps).length = ps.length := by
  induction ps generalizing K with
  | nil => rfl
  | cons r ps ih => simp [marksP, ih]
theorem marksR_length (K j : Nat) : (marksR K j).length = j := by simp [marksR]
theorem marksP_get {ps : List (List RowV)} {i K : Nat} {rs : List RowV} (h : ps[i]? = some rs) : (marksP K ps)[i]? = some (marksR (K + 3 * rowsIn (ps.take i)) rs.length) := by
  induction ps generalizing i K with
  | nil => simp at h
  | cons r ps ih =>
    cases i with
    | zero => simp at h; subst h; simp [marksP, rowsIn]
    | succ i =>
      have := ih (i := i) (K := K + 3 * r.length) (by simpa using h)
      simp only [marksP, List.getElem?_cons_succ, List.take_succ_cons, rowsIn]
      rw [this]
      congr 2
      omega
theorem marksP_rowsIn (K : Nat) (ps : List (List RowV)) : rowsIn (marksP K ps) = rowsIn ps := by
  induction ps generalizing K with
  | nil => rfl
  | cons r ps ih => simp [marksP, rowsIn, ih, marksR_length]

theorem eqPart_same (a b : Option Addr) (ca cb : Nat) (rs : List RowV) (w : World) (hm : rs.length ≤ 1048576) (hA : Rd w w.heap.size 3 a rs.length (flat rs)) (hB : Rd w w.heap.size 3 b rs.length (flat rs)) :
    Calls Try.prog 106 #[.agg #[.slice a rs.length ca], .agg #[.slice b rs.length cb]] w fun e w' => e = .returned (.bool true) ∧ Below w.heap.size w w' := by
  have hb2 := bl2 w (.cells #[.slice a rs.length ca] 59) (.cells #[.slice b rs.length cb] 59)
  go_enter Try.func106, Try.ntmps106
  go_wp2_with fail
  refine (eqRowS_same a b rs.length ca cb rs _ hm ((hA.below hb2 (Nat.le_refl _)).more hb2.size) ((hB.below hb2 (Nat.le_refl _)).more hb2.size)).mono ?_
  rintro e w1 ⟨rfl, hb1⟩
  go_wp2_with fail
  go_ret
  exact ⟨rfl, hb2.trans (hb1.mono hb2.size)⟩
set_option maxRecDepth 100000 in
set_option maxHeartbeats 1000000 in
theorem eqPartS_same (a b : Option Addr) (n ca cb : Nat) (ps : List (List RowV)) (w : World) (hm : n ≤ 1048576) (hr : rowsIn ps ≤ 1048576) (hA : PRd w w.heap.size a n ps) (hB : PRd w w.heap.size b n ps) :
    Calls Try.prog 49 #[.slice a n ca, .slice b n cb] w fun e w' => e = .returned (.bool true) ∧ Below w.heap.size w w' := by
  go_enter Try.func49, Try.ntmps49
  go_wp2
  go_loopw [5] (fun i wr => ∃ k : Nat, k ≤ n ∧ i = .int .i64 k ∧ Below w.heap.size w wr) (fun i _ => n - (intOf i).toNat)
  case atStart => exact ⟨0, Nat.zero_le _, rfl, Below.refl _ _⟩
  case round =>
    obtain ⟨k, hk, rfl, hb⟩ := hrel
    by_cases hlt : k < n
    · obtain ⟨b1, o1, a1, c1, rs, rfl, hB1, hr1, d1, R1⟩ := (hA.below hb (Nat.le_refl _)).at_ hlt
      obtain ⟨b2, o2, a2, c2, rs', rfl, hB2, hr2, d2, R2⟩ := (hB.below hb (Nat.le_refl _)).at_ hlt
      obtain rfl : rs = rs' := by rw [hr1] at hr2; injection hr2
      have hl := rowsIn_at hr1
      have R1' := (R1.more hb.size)
      have R2' := (R2.more hb.size)
      clear hr1 hr2 R1 R2
      go_wp2_with fail
      refine wp_region_still_tail 8 (by kernel_rfl) (by kernel_rfl) ?_
      simp only [List.take_succ_cons, List.take_zero, List.drop_succ_cons, List.drop_zero]
      change wpStill _ _ wr.drew _ _ _
      repeat still_step
      refine wpStill_nil ?_
      change wpList _ _ _ _ _ wr.drew
      go_wp2_with fail
      refine (eqPart_same a1 a2 c1 c2 rs _ (by omega) R1'.drew' R2'.drew').mono ?_
      rintro e w1 ⟨rfl, hb1⟩
      clear d1 d2
      go_wp2_with fail
      go_roundw
      case rel => exact ⟨k + 1, by omega, by go_num, hb.drew.trans (hb1.mono hb.size)⟩
      case measure => simp [intOf]; omega
    · go_wp2_with fail
      go_ret
      exact ⟨rfl, hb⟩
set_option maxRecDepth 100000 in
set_option maxHeartbeats 1000000 in
theorem markPartS_any (a : Option Addr) (n cap lo hi : Nat) (vs : List Value) (ps : List (List RowV)) (w : World) (hm : n ≤ 1048576) (hr : rowsIn ps ≤ 1048576) (hO : POwn w lo a n cap vs ps) (hB : Bnd hi vs) :
    Calls Try.prog 50 #[.slice a n cap, .int .i64 1] w fun e w' => e = .returned (.int .i64 (1 + 3 * rowsIn ps : Nat)) ∧ POwn w' lo a n cap vs (marksP 1 ps) ∧ Since lo hi w w' := by
  have hl := Lib.hid hO.len
  have HM := Lib.hid (marksP_length 1 ps)
  go_enter Try.func50, Try.ntmps50
  go_wp2
  go_loopw [1, 5] (fun q i wr => ∃ (j K : Nat), j ≤ n ∧ i = .int .i64 j ∧ q = .int .i64 K ∧ 1 ≤ K ∧ K ≤ 4194304 ∧ Hid (K = 1 + 3 * rowsIn (ps.take j)) ∧ POwn wr lo a n cap vs (part2 (marksP 1 ps) ps j) ∧ Since lo hi w wr) (fun _ i _ => n - (intOf i).toNat)
  case atStart => exact ⟨0, 1, Nat.zero_le _, rfl, rfl, by omega, by omega, Lib.hid (by simp [rowsIn]), by rw [part2_zero]; exact hO, Since.refl _ _ _⟩
  case round =>
    obtain ⟨j, K, hj, rfl, rfl, hK1, hK2, HK, hP, hS⟩ := hrel
    clear hO
    by_cases hlt : j < n
    · obtain ⟨b, off, a', c', rs, rfl, hB1, hr1, d1, _⟩ := hP.rd.at_ hlt
      have hpj : ps[j]? = some rs := by
        have := part2_get (P := []) (S := []) (A := marksP 1 ps) (B := ps) (n := n) (i := j) (a := 0) (x := ps[j]'(by rw [hl.out]; exact hlt)) (HM.out.trans hl.out) hlt (List.getElem?_eq_getElem _) rfl
        simp only [List.nil_append, List.append_nil, Nat.zero_add] at this
        rw [hr1] at this
        injection this with this
        rw [List.getElem?_eq_getElem (by rw [hl.out]; exact hlt), this]
      have hrl := rowsIn_at hpj
      obtain ⟨va, vc, rs2, hv1, hv2, hv3⟩ := hP.fam.at_ (i := j) (by rw [part2_length (HM.out.trans hl.out) hl.out (by omega)]; exact hlt)
      obtain rfl : rs = rs2 := by rw [hr1] at hv2; injection hv2
      obtain ⟨g0, hg0, hga, hgb⟩ := own_form hP.outer (show 0 < n by omega)
      obtain ⟨rfl, rfl⟩ : b = g0 ∧ off = 0 := by injection hg0 with e; injection e with e1 e2; exact ⟨e1, e2⟩
      rw [Nat.zero_add] at d1
      have hvv : Value.slice va rs.length vc = .slice a' rs.length c' := by
        have h1 := hP.outer.cellAt j (by omega)
        rw [hv1, d1] at h1
        injection h1 with h1; exact h1.symm
      rw [hvv] at hv1 hv3
      have HP := Lib.hid hpj
      have HK2 := Lib.hid (show K + 3 * rs.length = 1 + 3 * rowsIn (ps.take (j + 1)) by rw [rowsIn_take_succ hpj, HK.out]; omega)
      have hle : K + 3 * rs.length ≤ 4194304 := by
        have h1 := rowsIn_take_le ps (j + 1)
        have h2 := HK2.out
        omega
      have HG := Lib.hid (marksP_get (K := 1) hpj)
      rw [← HK.out] at HG
      clear hr1 hpj hv2 hvv hg0
      go_wp2_with fail
      refine (markRowS_any a' rs.length c' K lo _ _ (by omega) hK1 (by omega) hv3).mono ?_
      rintro e w1 ⟨rfl, hM, hg1⟩
      have hF := hP.fam.set (rs' := marksR K rs.length) hv1 hg1 (by rw [marksR_length]; exact hM) (.inl rfl)
      have hself : vs.set j (.slice a' rs.length c') = vs := by
        apply List.ext_getElem?
        intro i
        by_cases e : j = i
        · subst e; rw [List.getElem?_set_self (List.getElem?_eq_some_iff.1 hv1).1, hv1]
        · rw [List.getElem?_set_ne e]
      have hset : (part2 (marksP 1 ps) ps j).set j (marksR K rs.length) = part2 (marksP 1 ps) ps (j + 1) := by
        have := part2_set (P := []) (S := []) (A := marksP 1 ps) (B := ps) (n := n) (i := j) (a := 0) (HM.out.trans hl.out) hl.out hlt HG.out rfl
        simpa using this
      rw [hself, hset] at hF
      have hP2 : POwn w1 lo (some ⟨b, 0, none⟩) n cap vs (part2 (marksP 1 ps) ps (j + 1)) := ⟨own_other hP.outer hg1 (fun g hg he => hP.out _ (List.mem_of_getElem? hv1) g he hg), hF, hP.out⟩
      have hS2 := hS.trans (Since.of_gb hg1 (fun g e => ⟨(own_ge hv3 g e).1, hB _ (List.mem_of_getElem? hv1) g e⟩))
      clear hF hself hset hM hg1 hP hS hv1 hv3 d1
      go_wp2_with fail
      go_roundw
      case rel => exact ⟨j + 1, K + 3 * rs.length, by omega, by go_num, by go_num, by omega, hle, HK2, hP2, hS2⟩
      case measure => simp [intOf]; omega
    · obtain rfl : j = n := by omega
      rw [part2_all (HM.out.trans hl.out) hl.out] at hP
      have hK := HK.out
      rw [List.take_of_length_le (Nat.le_of_eq hl.out)] at hK
      have HK' := Lib.hid hK
      clear hK HK
      go_wp2_with fail
      go_ret
      exact ⟨ret_int (by rw [HK'.out]), hP, hS⟩
end Go.Proofs.Ytpnbbedfbglekaa

namespace Go.Proofs.Ytpnbbedfbglekaa
open Go.RowKit

theorem markRowS_one (a : Option Addr) (n cap base : Nat) (xs : List Value) (w : World) (hm : n ≤ 1048576) (hO : w.ownsRow base 52 3 (.slice a n cap) n xs) :
    Calls Try.prog 51 #[.slice a n cap, .int .i64 1] w fun e w' => e = .returned (.int .i64 (1 + 3 * n)) ∧ w'.ownsRow base 52 3 (.slice a n cap) n (flat (marksR 1 n)) ∧ w.grownBy w' (Value.slice a n cap).ownBlock := markRowS_any a n cap 1 base xs w hm (by omega) (by omega) hO
theorem heldRowS_one (a : Option Addr) (n cap : Nat) (w : World) (hm : n ≤ 1048576) (hR : Rd w w.heap.size 3 a n (flat (marksR 1 n))) :
    Calls Try.prog 52 #[.slice a n cap, .int .i64 1] w fun e w' => e = .returned (.int .i64 (1 + 3 * n)) ∧ Below w.heap.size w w' := heldRowS_any a n cap 1 w hm (by omega) (by omega) hR
/-- An older slice does not lie in a younger owned block. -/
theorem Rd.gb_own {w w' : World} {B size n base e s k cap : Nat} {a b : Option Addr} {xs ys : List Value} (h : Rd w B size a n xs) (hg : w.grownBy w' (Value.slice b k cap).ownBlock) (hO : w.ownsRow base e s (.slice b k cap) k ys) (hB : B ≤ base) (hBw : B ≤ w.heap.size) : Rd w' B size a n xs :=
  ⟨h.1, fun hn => by
    obtain ⟨g, off, e, hb, hc⟩ := h.2 hn
    have hne : some g ≠ (Value.slice b k cap).ownBlock := fun h' => by have := (own_ge hO g h'.symm).1; omega
    exact ⟨g, off, e, hb, fun j u hu => (World.cell?_of_block (a := ⟨g, off + j, none⟩) (hg.block g (by omega) hne)).trans (hc j u hu)⟩⟩
end Go.Proofs.Ytpnbbedfbglekaa

namespace Go.Proofs.Ytpnbbedfbglekaa
open Go.RowKit

set_option maxRecDepth 100000 in
set_option maxHeartbeats 4000000 in
theorem walk_ExactMergedRuns (a0 : Option Addr) (len0 cap0 : Nat) (x0 : List (List RowV)) (w : World) (hI0 : IsParts w a0 len0 cap0 x0) :
    Calls Try.prog 11 #[.slice a0 len0 cap0] w fun e w' => e = .returned (.bool true) ∧ Below w.heap.size w w' := by
  obtain ⟨hlc0, hcm0, hok0, hR0⟩ := hI0
  have CS : ∀ (b0 : Option Addr) (c0 : Nat) (w : World), len0 ≤ 1048576 → rowsIn x0 ≤ 1048576 → PRd w w.heap.size b0 len0 x0 → Calls Try.prog 46 #[.slice b0 len0 c0] w fun e w' => ∃ a c, e = .returned (.tuple #[.slice a (mergedRunsS x0).length c, .bool (mergedRunsB x0)]) ∧ Below w.heap.size w w' ∧ w'.ownsRow w.heap.size 52 3 (.slice a (mergedRunsS x0).length c) (mergedRunsS x0).length (flat (mergedRunsS x0)) := fun b0 c0 w m0 r0 d0 => specMergedRuns_any b0 len0 c0 x0 w  m0 r0 hok0 d0
  have CI : ∀ (b0 : Option Addr) (c0 : Nat) (w : World), len0 ≤ 1048576 → rowsIn x0 ≤ 1048576 → PRd w w.heap.size b0 len0 x0 → Calls Try.prog 41 #[.slice b0 len0 c0] w fun e w' => ∃ a c, e = .returned (.tuple #[.slice a (mergedRunsS x0).length c, .bool (mergedRunsB x0)]) ∧ Below w.heap.size w w' ∧ w'.ownsRow w.heap.size 52 3 (.slice a (mergedRunsS x0).length c) (mergedRunsS x0).length (flat (mergedRunsS x0)) := fun b0 c0 w m0 r0 d0 => implMergedRuns_any b0 len0 c0 x0 w  m0 r0 hok0 d0
  have hsl := mergedRunsS_le x0
  generalize (mergedRunsB x0) = ok at CS CI
  generalize mergedRunsS x0 = ss at CS CI hsl
  have hsm := hsl
  clear hsl
  generalize hln : ss.length = m at CS CI hsm
  clear hln
  go_enter Try.func11, Try.ntmps11
  have B0 := Below.refl w.heap.size w
  go_wp2_with fail
  refine (szPartS_any a0 len0 cap0 x0 _ _ (by omega) hok0 ((hR0.below B0 (Nat.le_refl _)).more B0.size) (by omega) (by omega)).mono ?_
  rintro e w1 ⟨z1, rfl, hb, hz⟩
  rcases hz with rfl | ⟨hz0_0, hz1_0, hz2_0, hz3_0⟩
  · go_wp2_with fail
    go_ret
    exact ⟨rfl, B0.trans (hb.mono B0.size)⟩
  have B1 := B0.trans (hb.mono B0.size)
  have s1 : w.heap.size ≤ w1.heap.size := hb.size
  clear hb B0
  have hm0 : len0 ≤ 1048576 := by omega
  have hr0 : rowsIn x0 ≤ 1048576 := by omega
  go_wp2_with fail
  refine (toPartS_any a0 len0 cap0 x0 _ hm0 hr0 ((hR0.below B1 (Nat.le_refl _)).more B1.size)).mono ?_
  rintro e w2 ⟨pS0, vS0, rfl, hb, hO⟩
  have B2 := B1.trans (hb.mono B1.size)
  have s2 : w1.heap.size ≤ w2.heap.size := hb.size
  clear hb B1
  have S0_2 := hO
  clear hO
  go_wp2_with fail
  refine (CS _ len0 _ hm0 hr0 S0_2.rd).mono ?_
  rintro e w3 ⟨aW, cW, rfl, hb, hO⟩
  have B3 := B2.trans (hb.mono B2.size)
  have s3 : w2.heap.size ≤ w3.heap.size := hb.size
  have S0_3 := S0_2.below hb
  clear S0_2
  clear hb B2
  have V_3 := Rd.of_own hO
  clear hO CS
  clear S0_3
  go_wp2_with fail
  refine (toPartS_any a0 len0 cap0 x0 _ hm0 hr0 ((hR0.below B3 (Nat.le_refl _)).more B3.size)).mono ?_
  rintro e w4 ⟨pX0, vX0, rfl, hb, hO⟩
  have B4 := B3.trans (hb.mono B3.size)
  have s4 : w3.heap.size ≤ w4.heap.size := hb.size
  have V_4 := V_3.below hb (by omega)
  clear V_3
  clear hb B3
  have X0_4 := hO
  clear hO
  have hBX0 := X0_4.bnd
  go_wp2_with fail
  refine (CI _ len0 _ hm0 hr0 X0_4.rd).mono ?_
  rintro e w5 ⟨aG, cG, rfl, hb, hO⟩
  have B5 := B4.trans (hb.mono B4.size)
  have s5 : w4.heap.size ≤ w5.heap.size := hb.size
  have V_5 := V_4.below hb (by omega)
  clear V_4
  have X0_5 := X0_4.below hb
  clear X0_4
  clear hb B4
  have G_5 := hO
  clear hO
  go_wp2_with fail
  refine (eqRowS_same aG aW m cG cW ss _ (by omega) (Rd.of_own G_5) (V_5.more (by omega))).mono ?_
  rintro e w6 ⟨rfl, hb⟩
  have B6 := B5.trans (hb.mono B5.size)
  have s6 : w5.heap.size ≤ w6.heap.size := hb.size
  have V_6 := V_5.below hb (by omega)
  clear V_5
  have X0_6 := X0_5.below hb
  clear X0_5
  have G_6 := own_below G_5 hb
  clear G_5
  clear hb B5
  go_wp2_with fail
  refine (toPartS_any a0 len0 cap0 x0 _ hm0 hr0 ((hR0.below B6 (Nat.le_refl _)).more B6.size)).mono ?_
  rintro e w7 ⟨pY0, vY0, rfl, hb, hO⟩
  have B7 := B6.trans (hb.mono B6.size)
  have s7 : w6.heap.size ≤ w7.heap.size := hb.size
  have V_7 := V_6.below hb (by omega)
  clear V_6
  have X0_7 := X0_6.below hb
  clear X0_6
  have G_7 := own_below G_6 hb
  clear G_6
  clear hb B6
  have Y0_7 := hO
  clear hO
  go_wp2_with fail
  refine (eqPartS_same _ _ len0 _ _ x0 _ hm0 hr0 X0_7.rd Y0_7.rd).mono ?_
  rintro e w8 ⟨rfl, hb⟩
  have B8 := B7.trans (hb.mono B7.size)
  have s8 : w7.heap.size ≤ w8.heap.size := hb.size
  have V_8 := V_7.below hb (by omega)
  clear V_7
  have X0_8 := X0_7.below hb
  clear X0_7
  have G_8 := own_below G_7 hb
  clear G_7
  have Y0_8 := Y0_7.below hb
  clear Y0_7
  clear hb B7
  clear Y0_8
  go_wp2_with fail
  refine (markPartS_any _ len0 _ w3.heap.size _ _ x0 _ hm0 hr0 X0_8 hBX0).mono ?_
  rintro e w9 ⟨rfl, _, hS⟩
  clear X0_8
  have s9 : w8.heap.size ≤ w9.heap.size := hS.size
  have B9 := B8.trans (hS.below (B := w.heap.size) (by have := B8.size; omega) B8.size)
  have V_9 := V_8.below (hS.below (B := w3.heap.size) (by omega) (by omega)) (Nat.le_refl _)
  clear V_8
  have G_9 := Since.own G_8 hS (by omega)
  clear G_8
  clear hS B8
  go_wp2_with fail
  refine (eqRowS_same aG aW m cG cW ss _ (by omega) (Rd.of_own G_9) (V_9.more (by omega))).mono ?_
  rintro e w10 ⟨rfl, hb⟩
  have B10 := B9.trans (hb.mono B9.size)
  have s10 : w9.heap.size ≤ w10.heap.size := hb.size
  have V_10 := V_9.below hb (by omega)
  clear V_9
  have G_10 := own_below G_9 hb
  clear G_9
  clear hb B9
  go_wp2_with fail
  refine (markRowS_any aG m cG 1 w4.heap.size _ _ (by omega) (by omega) (by omega) G_10).mono ?_
  rintro e w11 ⟨rfl, hG2, hg⟩
  have hS : Since w4.heap.size w10.heap.size w10 w11 := Since.of_gb hg (fun g e => own_ge G_10 g e)
  clear hg
  clear G_10
  have s11 : w10.heap.size ≤ w11.heap.size := hS.size
  have B11 := B10.trans (hS.below (B := w.heap.size) (by have := B10.size; omega) B10.size)
  have V_11 := V_10.below (hS.below (B := w3.heap.size) (by omega) (by omega)) (Nat.le_refl _)
  clear V_10
  clear hS B10
  have Z_11 := Rd.of_own hG2
  clear hG2
  go_wp2_with fail
  refine (heldRowS_any aG m cG 1 _ (by omega) (by omega) (by omega) (Z_11.more (by omega))).mono ?_
  rintro e w12 ⟨rfl, hb⟩
  have B12 := B11.trans (hb.mono B11.size)
  have s12 : w11.heap.size ≤ w12.heap.size := hb.size
  have V_12 := V_11.below hb (by omega)
  clear V_11
  have Z_12 := Z_11.below hb (by omega)
  clear Z_11
  clear hb B11
  go_wp2_with fail
  refine (toPartS_any a0 len0 cap0 x0 _ hm0 hr0 ((hR0.below B12 (Nat.le_refl _)).more B12.size)).mono ?_
  rintro e w13 ⟨pQ0, vQ0, rfl, hb, hO⟩
  have B13 := B12.trans (hb.mono B12.size)
  have s13 : w12.heap.size ≤ w13.heap.size := hb.size
  have V_13 := V_12.below hb (by omega)
  clear V_12
  have Z_13 := Z_12.below hb (by omega)
  clear Z_12
  clear hb B12
  have Q0_13 := hO
  clear hO
  go_wp2_with fail
  refine (CI _ len0 _ hm0 hr0 Q0_13.rd).mono ?_
  rintro e w14 ⟨aH, cH, rfl, hb, hO⟩
  have B14 := B13.trans (hb.mono B13.size)
  have s14 : w13.heap.size ≤ w14.heap.size := hb.size
  have V_14 := V_13.below hb (by omega)
  clear V_13
  have Z_14 := Z_13.below hb (by omega)
  clear Z_13
  have Q0_14 := Q0_13.below hb
  clear Q0_13
  clear hb B13
  have H_14 := hO
  clear hO
  clear Q0_14
  go_wp2_with fail
  refine (eqRowS_same aH aW m cH cW ss _ (by omega) (Rd.of_own H_14) (V_14.more (by omega))).mono ?_
  rintro e w15 ⟨rfl, hb⟩
  have B15 := B14.trans (hb.mono B14.size)
  have s15 : w14.heap.size ≤ w15.heap.size := hb.size
  have V_15 := V_14.below hb (by omega)
  clear V_14
  have Z_15 := Z_14.below hb (by omega)
  clear Z_14
  have H_15 := own_below H_14 hb
  clear H_14
  clear hb B14
  clear H_15
  clear V_15
  go_wp2_with fail
  refine (heldRowS_any aG m cG 1 _ (by omega) (by omega) (by omega) (Z_15.more (by omega))).mono ?_
  rintro e w16 ⟨rfl, hb⟩
  have B16 := B15.trans (hb.mono B15.size)
  have s16 : w15.heap.size ≤ w16.heap.size := hb.size
  have Z_16 := Z_15.below hb (by omega)
  clear Z_15
  clear hb B15
  go_wp2_with fail
  go_ret
  exact ⟨rfl, B16⟩
end Go.Proofs.Ytpnbbedfbglekaa

namespace Go.Proofs.Ytpnbbedfbglekaa
open Go.ChangeShapes Go.WideShapes Go.ChangeAt Go.RowKit Go.Joins Go.Deep
section
variable {H : Type} {enc : TypeId × Value → H} {W : World} {base : Nat}
theorem cellsPart : Try.prog.cellsOf 132 = 1 := by kernel_rfl
variable (W)
set_option maxRecDepth 100000 in
theorem open_Rows_at {t e : TypeId} {f0 f1 f2 : Field} {v : Value} {d : DataW H} {p : List MemPlace} {fuel : Nat} (ht : Try.prog.underlying t = some (.slice e)) (he : Try.prog.underlying e = some (.struct #[f0, f1, f2])) (hone : oneCellFields Try.prog #[f0, f1, f2] = true)
    (hC : Try.prog.cellsOf e = 3) (t0 : Try.prog.underlying f0.type = some .string) (t1 : Try.prog.underlying f1.type = some (.int .i64)) (t2 : Try.prog.underlying f2.type = some .string)
    (hf : DataW.trod enc Try.prog W 0 (fun _ => true) true fuel t [v] = some (d, p)) :
    ∃ a len cap rs, v = .slice a len cap ∧ IsRows W a len cap rs := by
  rcases open_slice ht hf with ⟨hcs, _⟩ | ⟨x, len, c, m, n, D, Pl, hcs, _, hl, hm, hmm, _, hi⟩
  · simp at hcs
    subst hcs
    exact ⟨none, 0, 0, [], rfl, Nat.le_refl _, Nat.zero_le _, by simp, by simp [flat], fun h => absurd h (by omega)⟩
  · simp at hcs
    subst hcs
    simp only [if_true] at hmm
    subst hmm
    rw [hC] at hi
    have key : ∀ i, i < len → ∃ r : RowV, r.Ok ∧ W.cell? (x.add (i * 3) |>.add 0) = some (.string r.key) ∧ W.cell? (x.add (i * 3) |>.add 1) = some (.int .i64 r.tag) ∧ W.cell? (x.add (i * 3) |>.add 2) = some (.string r.val) := by
      intro i hil
      obtain ⟨cs', hc, ht'⟩ := hi i (by omega)
      obtain ⟨ys, n', hn', hy, hlen, hyl, hf'⟩ := DataW.trod_struct he ht'
      obtain ⟨_, hcl, hat⟩ := World.cells?_some hc
      obtain ⟨o0, q0⟩ := hone_of hone 0 f0 rfl
      obtain ⟨o1, q1⟩ := hone_of hone 1 f1 rfl
      obtain ⟨o2, q2⟩ := hone_of hone 2 f2 rfl
      have l3 : cs'.length = 3 := hcl
      obtain ⟨c0, c1, c2, rfl⟩ : ∃ c0 c1 c2, cs' = [c0, c1, c2] := by
        match cs', l3 with
        | [c0, c1, c2], _ => exact ⟨c0, c1, c2, rfl⟩
      have g0 := hf' 0 f0 rfl
      have g1 := hf' 1 f1 rfl
      have g2 := hf' 2 f2 rfl
      simp only [o0, q0, o1, q1, o2, q2, List.drop_zero, List.drop_succ_cons, List.take_succ_cons, List.take_zero] at g0 g1 g2
      have y3 : ys.length = 3 := hyl
      rw [List.getElem?_eq_getElem (show 0 < ys.length by omega)] at g0
      rw [List.getElem?_eq_getElem (show 1 < ys.length by omega)] at g1
      rw [List.getElem?_eq_getElem (show 2 < ys.length by omega)] at g2
      obtain ⟨k, e0, _, hk⟩ := DataW.trod_string t0 g0
      obtain ⟨tt, e1, _, htt⟩ := DataW.trod_int t1 g1
      obtain ⟨u, e2, _, hu⟩ := DataW.trod_string t2 g2
      simp only [List.cons.injEq, and_true] at e0 e1 e2
      subst e0 e1 e2
      exact ⟨⟨k, tt, u⟩, ⟨hk, htt, hu⟩, hat 0 (by omega), hat 1 (by omega), hat 2 (by omega)⟩
    have lists : ∀ q, q ≤ len → ∃ rs : List RowV, rs.length = q ∧ (∀ r ∈ rs, r.Ok) ∧ ∀ j u, (flat rs)[j]? = some u → W.cell? (x.add (j / 3 * 3) |>.add (j % 3)) = some u := by
      intro q
      induction q with
      | zero => intro _; exact ⟨[], rfl, by simp, fun j u hu => by simp [flat] at hu⟩
      | succ q ih =>
        intro hq
        obtain ⟨rs, hrl, hok, hcell⟩ := ih (by omega)
        obtain ⟨r, hr, k0, k1, k2⟩ := key q (by omega)
        refine ⟨rs ++ [r], by simp [hrl], fun y hy => by
          rcases List.mem_append.1 hy with h1 | h1
          · exact hok y h1
          · rw [List.mem_singleton.1 h1]; exact hr, fun j u hu => ?_⟩
        rw [flat_append] at hu
        rcases Nat.lt_or_ge j (flat rs).length with hj | hj
        · rw [List.getElem?_append_left hj] at hu
          exact hcell j u hu
        · rw [List.getElem?_append_right hj, flat_length, hrl] at hu
          rw [flat_length, hrl] at hj
          have hj3 : j - q * 3 < 3 := by
            have := (List.getElem?_eq_some_iff.1 hu).1
            simpa [flat, RowV.cells] using this
          have hd : j / 3 = q := by omega
          rw [hd]
          rcases (show j - q * 3 = 0 ∨ j - q * 3 = 1 ∨ j - q * 3 = 2 by omega) with h3 | h3 | h3
          · rw [h3] at hu
            rw [show j % 3 = 0 by omega, k0]
            simpa [flat, RowV.cells] using hu
          · rw [h3] at hu
            rw [show j % 3 = 1 by omega, k1]
            simpa [flat, RowV.cells] using hu
          · rw [h3] at hu
            rw [show j % 3 = 2 by omega, k2]
            simpa [flat, RowV.cells] using hu
    obtain ⟨rs, hrl, hok, hcell⟩ := lists len (Nat.le_refl _)
    refine ⟨_, _, _, rs, rfl, hl, hm, hok, by rw [flat_length, hrl], fun hn => ?_⟩
    obtain ⟨r, _, k0, _, _⟩ := key 0 hn
    have hsp : x.spot = none := by
      have := World.cell?_spot k0
      obtain ⟨b, o, s⟩ := x
      simpa [Addr.add] using this
    have add2 : ∀ i j, (x.add i).add j = ⟨x.block, x.off + (i + j), none⟩ := by
      intro i j
      rw [addr_add x hsp, addr_add _ rfl, Nat.add_assoc]
    rw [add2] at k0
    refine ⟨x.block, x.off, ?_, lt_of_cell k0, fun j u hu => ?_⟩
    · obtain ⟨b, o, s⟩ := x
      simp only at hsp
      subst hsp
      rfl
    · have hc := hcell j u hu
      rw [add2, show j / 3 * 3 + j % 3 = j by omega] at hc
      exact hc
set_option maxRecDepth 100000 in
theorem open_Parts_of {t e : TypeId} {f0 : Field} {v : Value} {d : DataW H} {p : List MemPlace} (ht : Try.prog.underlying t = some (.slice e)) (he : Try.prog.underlying e = some (.struct #[f0])) (hone : oneCellFields Try.prog #[f0] = true)
    (hC : Try.prog.cellsOf e = 1) (hrows : ∀ {u : Value} {n : Nat} {d : DataW H} {p : List MemPlace}, DataW.trod enc Try.prog W 0 (fun _ => true) true n f0.type [u] = some (d, p) → ∃ a len cap rs, u = .slice a len cap ∧ IsRows W a len cap rs)
    (hv : Value.okWide Try.prog W .any base t v) (h : DataW.Trod enc Try.prog W 0 (fun _ => true) true t v d p) :
    ∃ a len cap ps, v = .slice a len cap ∧ IsParts W a len cap ps := by
  obtain ⟨a, len, cap, rfl⟩ := okWide_slice ht hv
  obtain ⟨fuel, hf⟩ := h
  rcases open_slice ht hf with ⟨hcs, _⟩ | ⟨x, l, c, m, n, D, Pl, hcs, _, hl, hm, hmm, _, hi⟩
  · simp [Value.cells] at hcs
    obtain ⟨rfl, rfl, rfl⟩ := hcs
    exact ⟨none, 0, 0, [], rfl, Nat.le_refl _, Nat.zero_le _, by simp, [], ⟨rfl, fun h => absurd h (by omega)⟩, rfl, fun i v rs hv => by simp at hv⟩
  · simp [Value.cells] at hcs
    obtain ⟨rfl, rfl, rfl⟩ := hcs
    simp only [if_true] at hmm
    subst hmm
    rw [hC] at hi
    have key : ∀ i, i < len → ∃ (u : Value) (rs : List RowV), W.cell? (x.add (i * 1) |>.add 0) = some u ∧ (∃ a' c', u = .slice a' rs.length c' ∧ Rd W W.heap.size 3 a' rs.length (flat rs)) ∧ rs.length ≤ maxLen ∧ ∀ r ∈ rs, r.Ok := by
      intro i hil
      obtain ⟨cs', hc, ht'⟩ := hi i (by omega)
      obtain ⟨ys, n', hn', hy, hlen, hyl, hf'⟩ := DataW.trod_struct he ht'
      obtain ⟨_, hcl, hat⟩ := World.cells?_some hc
      obtain ⟨o0, q0⟩ := hone_of hone 0 f0 rfl
      have l3 : cs'.length = 1 := hcl
      obtain ⟨c0, rfl⟩ : ∃ c0, cs' = [c0] := by
        match cs', l3 with
        | [c0], _ => exact ⟨c0, rfl⟩
      have g0 := hf' 0 f0 rfl
      simp only [o0, q0, List.drop_zero, List.take_succ_cons, List.take_zero] at g0
      have y3 : ys.length = 1 := hyl
      rw [List.getElem?_eq_getElem (show 0 < ys.length by omega)] at g0
      obtain ⟨a', len', cap', rs, rfl, h1, h2, h3, h4⟩ := hrows (d := ys[0].1) (p := ys[0].2) g0
      have hl' := h4.rows_length
      exact ⟨_, rs, hat 0 (by omega), ⟨a', cap', by rw [hl'], by rw [hl']; exact h4⟩, by omega, h3⟩
    have lists : ∀ q, q ≤ len → ∃ (vs : List Value) (ps : List (List RowV)), vs.length = q ∧ ps.length = q ∧ (∀ j u, vs[j]? = some u → W.cell? (x.add (j * 1) |>.add 0) = some u) ∧
        (∀ (i : Nat) (v : Value) (rs : List RowV), vs[i]? = some v → ps[i]? = some rs → ∃ a' c', v = .slice a' rs.length c' ∧ Rd W W.heap.size 3 a' rs.length (flat rs)) ∧ ∀ rs ∈ ps, rs.length ≤ maxLen ∧ ∀ r ∈ rs, r.Ok := by
      intro q
      induction q with
      | zero => intro _; exact ⟨[], [], rfl, rfl, fun j u hu => by simp at hu, fun i v rs hv => by simp at hv, by simp⟩
      | succ q ih =>
        intro hq
        obtain ⟨vs, ps, hvl, hpl, hc, hp, hok⟩ := ih (by omega)
        obtain ⟨u, rs, k0, k1, k2⟩ := key q (by omega)
        refine ⟨vs ++ [u], ps ++ [rs], by simp [hvl], by simp [hpl], fun j y hy => ?_, fun i y z hy hz => ?_, fun z hz => ?_⟩
        · rcases Nat.lt_or_ge j vs.length with hj | hj
          · rw [List.getElem?_append_left hj] at hy
            exact hc j y hy
          · rw [List.getElem?_append_right hj] at hy
            have hj0 : j - vs.length = 0 := by
              have := (List.getElem?_eq_some_iff.1 hy).1
              simp at this
              omega
            rw [hj0] at hy
            have : u = y := by simpa using hy
            subst this
            rw [show j = q by omega]
            exact k0
        · rcases Nat.lt_or_ge i vs.length with hj | hj
          · rw [List.getElem?_append_left hj] at hy
            rw [List.getElem?_append_left (by omega)] at hz
            exact hp i y z hy hz
          · rw [List.getElem?_append_right hj] at hy
            rw [List.getElem?_append_right (by omega)] at hz
            have hj0 : i - vs.length = 0 := by
              have := (List.getElem?_eq_some_iff.1 hy).1
              simp at this
              omega
            rw [hj0] at hy
            rw [show i - ps.length = 0 by omega] at hz
            have e1 : u = y := by simpa using hy
            have e2 : rs = z := by simpa using hz
            subst e1 e2
            exact k1
        · rcases List.mem_append.1 hz with h1 | h1
          · exact hok z h1
          · rw [List.mem_singleton.1 h1]; exact k2
    obtain ⟨vs, ps, hvl, hpl, hc, hp, hok⟩ := lists len (Nat.le_refl _)
    refine ⟨_, _, _, ps, rfl, hl, hm, hok, vs, ⟨by omega, fun hn => ?_⟩, by omega, hp⟩
    obtain ⟨u, _, k0, _⟩ := key 0 hn
    have hsp : x.spot = none := by
      have := World.cell?_spot k0
      obtain ⟨b, o, s⟩ := x
      simpa [Addr.add] using this
    have add2 : ∀ i j, (x.add i).add j = ⟨x.block, x.off + (i + j), none⟩ := by
      intro i j
      rw [addr_add x hsp, addr_add _ rfl, Nat.add_assoc]
    rw [add2] at k0
    refine ⟨x.block, x.off, ?_, lt_of_cell k0, fun j u hu => ?_⟩
    · obtain ⟨b, o, s⟩ := x
      simp only at hsp
      subst hsp
      rfl
    · have h2 := hc j u hu
      rw [add2, Nat.mul_one, Nat.add_zero] at h2
      exact h2
variable {W}
set_option maxRecDepth 100000 in
theorem open_Parts {v : Value} {d : DataW H} {p : List MemPlace} (hv : Value.okWide Try.prog W .any base 72 v) (h : DataW.Trod enc Try.prog W 0 (fun _ => true) true 72 v d p) :
    ∃ a len cap ps, v = .slice a len cap ∧ IsParts W a len cap ps :=
  open_Parts_of W Try.underlying72 Try.underlying132 (by kernel_rfl) cellsPart (fun h => open_Rows_at W Try.underlying78 Try.underlying138 (by kernel_rfl) cellsRow Try.underlying9 Try.underlying2 Try.underlying9 h) hv h
end
end Go.Proofs.Ytpnbbedfbglekaa

namespace Go.Proofs.Ytpnbbedfbglekaa
open Go.ChangeShapes Go.WideShapes Go.ChangeAt Go.RowKit Go.Joins
open Go.ChangeMaps (open_string shut_string)
namespace ExactMergedRuns

set_option maxRecDepth 100000 in
theorem lifted (os : Os) (started : os.Started) (H : Type) (enc : TypeId × Value → H) :
    ReturnsInHanded {} Try.checked os 11 .any (Rows.fnExactMergedRunsSpec.pre6 enc Try.prog Try.f11 Rows.fnExactMergedRunsRow.domain false) (Rows.fnExactMergedRunsSpec.post enc Try.prog Try.f11 false true false false) := by
  refine returnsInHanded_of_change (C := Try.checked) own started (by kernel_rfl) Try.func11
    (ChangeSpec.witness6 (enc := enc) (C := Try.checked) false ⟨#[], #[.slice none 0 0], []⟩ 8 (by kernel_rfl) (by kernel_rfl) (by kernel_rfl) (by kernel_rfl)) ?_
  intro W base args ds gs before hval0 hW _ _
  have hval : ∀ (j : Nat) t v, Try.f11.params[j]? = some t → args[j]? = some v → Value.okWide Try.prog W .any base t v := hval0
  have hW' := hW
  obtain ⟨p, q, hA0, hV, rfl, _, _⟩ := hW
  have hA : DataW.TrodAll enc Try.prog W 0 (fun _ => true) true Try.f11.params.toList args.toList ds p := hA0
  rw [Try.params11] at hA hval
  obtain ⟨v0, vs0, d0, ds0, p0, q0, hargs, rfl, rfl, h0, r0⟩ := trodAll_cons hA
  obtain ⟨rfl, rfl, rfl⟩ := trodAll_nil r0
  obtain rfl : args = #[v0] := by cases args; simp_all
  obtain ⟨rfl, rfl⟩ := trodVars_none hV
  have k0 := h0
  have lt0 : ∀ x ∈ p0, x.block < W.heap.size := by obtain ⟨m, hm⟩ := k0; exact DataW.trod_lt m _ _ _ hm
  obtain ⟨a0, len0, cap0, z0, rfl, w0⟩ := open_Parts (hval 0 72 v0 rfl rfl) h0
  clear hA0 hval0
  refine (walk_ExactMergedRuns a0 len0 cap0 z0 W w0).mono fun e W' ⟨he, bel⟩ => ?_
  subst he
  exact ⟨_, rfl, _, _, _, [], _, [], hW', trodAll_mk1 (shut_bool Try.underlying4 _), (trodAll_cons_mk (Below.trod laidOut (by kernel_rfl) (of_decide_eq_true (by kernel_rfl)) k0 bel lt0) trodAll_mk0), rfl, bel.frame _, fun h => by cases h⟩

theorem over : Rows.fnExactMergedRunsRow.holds Try.pinned (OpenSpec.ofChange Rows.fnExactMergedRunsSpec) :=
  OpenClaim.holds_of_wide 11 Try.f11 rfl rfl rfl rfl rfl rfl rfl ⟨rfl, rfl, rfl, rfl, rfl⟩ rfl rfl rfl rfl rfl (by kernel_rfl) Try.func11 (by kernel_rfl)
    (of_decide_eq_true (by kernel_rfl)) (by unfold Func.isWrapper; first | (rw [if_pos (by decide +kernel)]; kernel_rfl) | (rw [if_neg (by decide +kernel)]; exact ⟨rfl, rfl⟩))
    (fun os started H enc _ => lifted os started H enc)
end ExactMergedRuns
theorem fnExactMergedRuns_holds : Rows.FnExactMergedRunsSaid := ExactMergedRuns.over
end Go.Proofs.Ytpnbbedfbglekaa
