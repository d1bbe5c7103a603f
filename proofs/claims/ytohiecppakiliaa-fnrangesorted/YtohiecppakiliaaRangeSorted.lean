/-
  laws.FnRangeSorted returns true for every code. No conditions.
-/
import Derived.Test.YtohiecppakiliaaOpenBytes
import Derived.Test.YtohiecppakiliaaSorted
import Derived.Test.YtohiecppakiliaaSameParts
import Derived.Test.YtohiecppakiliaaPartsR
import Derived.Test.YtohiecppakiliaaAppendAny
namespace Go.Proofs.Ytohiecppakiliaa
open Go.RowKit
theorem leB_less {k m c : ByteArray} (hm : Op.bytesLess k.toList m.toList = true) (h : leB k c = true) : leB m c = true := by
  unfold leB at h ⊢
  rw [Bool.or_eq_true] at h ⊢
  left
  rcases h with h | h
  · exact bl_trans h hm
  · rw [beq_iff_eq.1 h]; exact hm
theorem less_range {ss : List ByteArray} {x y : RowV} (h : rangeF ss x < rangeF ss y) : y.less x = false := by
  cases hl : y.less x
  · rfl
  exfalso
  unfold RowV.less lessB at hl
  unfold rangeF rangeN at h
  by_cases e : y.key.toList = x.key.toList
  · have e2 : y.key = x.key := by
      rw [ByteArray.toList_eq, ByteArray.toList_eq] at e
      exact ByteArray.ext (Array.toList_inj.1 e)
    rw [e2] at h
    omega
  · have e3 : (!y.key.toList == x.key.toList) = true := by simpa using e
    rw [if_pos e3] at hl
    have := List.countP_mono_left (l := ss) (p := leB y.key) (q := leB x.key) fun c _ hc => leB_less hl hc
    omega
/-- The first k parts, each sorted, one behind the other. -/
def catS (f : RowV → Nat) (l : List RowV) (k : Nat) : List RowV := ((List.range k).map fun i => sortL (l.filter fun r => f r == i)).flatten
theorem catS_succ (f : RowV → Nat) (l : List RowV) (k : Nat) : catS f l (k + 1) = catS f l k ++ sortL (l.filter fun r => f r == k) := by
  simp [catS, List.range_succ]
theorem filter_split (f : RowV → Nat) (l : List RowV) (k : Nat) : ((l.filter fun r => decide (f r < k)) ++ (l.filter fun r => f r == k)).Perm (l.filter fun r => decide (f r < k + 1)) := by
  induction l with
  | nil => exact List.Perm.nil
  | cons r l ih =>
    rcases Nat.lt_trichotomy (f r) k with h | h | h
    · have h1 : decide (f r < k) = true := decide_eq_true h
      have h2 : (f r == k) = false := beq_eq_false_iff_ne.2 (by omega)
      have h3 : decide (f r < k + 1) = true := decide_eq_true (by omega)
      simp only [List.filter_cons, h1, h2, h3, if_true, Bool.false_eq_true, if_false, List.cons_append]
      exact ih.cons r
    · have h1 : decide (f r < k) = false := decide_eq_false (by omega)
      have h2 : (f r == k) = true := beq_iff_eq.2 h
      have h3 : decide (f r < k + 1) = true := decide_eq_true (by omega)
      simp only [List.filter_cons, h1, h2, h3, if_true, Bool.false_eq_true, if_false]
      exact List.perm_middle.trans (ih.cons r)
    · have h1 : decide (f r < k) = false := decide_eq_false (by omega)
      have h2 : (f r == k) = false := beq_eq_false_iff_ne.2 (by omega)
      have h3 : decide (f r < k + 1) = false := decide_eq_false (by omega)
      simp only [List.filter_cons, h1, h2, h3, Bool.false_eq_true, if_false]
      exact ih
theorem catS_perm (f : RowV → Nat) (l : List RowV) (k : Nat) : (catS f l k).Perm (l.filter fun r => decide (f r < k)) := by
  induction k with
  | zero => simp [catS]
  | succ k ih =>
    rw [catS_succ]
    exact (ih.append (sortL_perm' _)).trans (filter_split f l k)
theorem catS_asc {f : RowV → Nat} {l : List RowV} (h : ∀ x y, f x < f y → y.less x = false) (k : Nat) : Asc RowV.less (catS f l k) := by
  induction k with
  | zero => exact Asc.nil
  | succ k ih =>
    rw [catS_succ]
    refine ih.append (sortL_asc _) fun x hx y hy => h x y ?_
    have h1 := List.mem_filter.1 ((catS_perm f l k).mem_iff.1 hx)
    have h2 := List.mem_filter.1 ((sortL_perm' _).mem_iff.1 hy)
    have h3 := of_decide_eq_true h1.2
    have h4 := beq_iff_eq.1 h2.2
    omega
theorem catS_all {f : RowV → Nat} {l : List RowV} (h : ∀ x y, f x < f y → y.less x = false) (k : Nat) (hk : ∀ r, f r < k) : catS f l k = sortL l := by
  refine sortL_unique (catS_asc h k) ?_
  have := catS_perm f l k
  rwa [List.filter_eq_self.2 (fun r _ => decide_eq_true (hk r))] at this
theorem catS_le (f : RowV → Nat) (l : List RowV) (k : Nat) : (catS f l k).length ≤ l.length := by
  rw [(catS_perm f l k).length_eq]; exact List.length_filter_le _ _
theorem rowsOk_some {l : List RowV} (p : RowV → Bool) (h : rowsOk l = true) : rowsOk (l.filter p) = true := by
  unfold rowsOk at *
  rw [Bool.and_eq_true] at *
  obtain ⟨h1, h2⟩ := h
  refine ⟨decide_eq_true ?_, ?_⟩
  · have := of_decide_eq_true h1
    have := List.length_filter_le p l
    omega
  · rw [List.all_eq_true] at *
    exact fun r hr => h2 r (List.mem_filter.1 hr).1
theorem flat_one' (l : List RowV) : ∀ u ∈ flat l, u.oneCell' = true := by
  induction l with
  | nil => simp [flat]
  | cons r l ih =>
    intro u hu
    rw [flat_cons] at hu
    simp only [List.mem_cons] at hu
    rcases hu with rfl | rfl | rfl | hu
    · rfl
    · rfl
    · rfl
    · exact ih u hu
set_option maxRecDepth 100000 in
set_option maxHeartbeats 4000000 in
theorem walk_RangeSorted (a : Option Addr) (len cap : Nat) (xs : List Value) (w : World) (hI : IsCode w a len cap xs) :
    Calls Try.prog 7 #[.slice a len cap] w fun e w' => e = .returned (.bool true) ∧ Below w.heap.size w w' := by
  obtain ⟨i0, hi, hz0, hz1, hz2⟩ := info_parts infoRow
  have hI0 := hI.by_
  obtain ⟨hlc, hcm, _, _⟩ := hI
  go_enter Try.func7, Try.ntmps7
  go_wp2_with fail
  refine (big_any a len cap w (by omega)).mono ?_
  rintro e w0 ⟨rfl, rfl⟩
  by_cases hbig : 1048576 < len
  · have hd : decide (1048576 < len) = true := by simpa using hbig
    rw [hd]
    go_wp2_with fail
    go_ret
    exact ⟨rfl, Below.refl _ _⟩
  have hd : decide (1048576 < len) = false := by simpa using hbig
  rw [hd]
  go_wp2_with fail
  refine (drawRangeParted_any a len cap w (by omega) hI0).mono ?_
  rintro e w1 ⟨l, lb, lc, ss, sa, sc, hll, hok, hle, hmx, hlcap, rfl, L, S, hb⟩
  have B := hb
  clear hb
  go_wp2_with fail
  refine (implRangeParted_any _ l.length lc l sa ss.length sc ss w1 (by omega) hok L (by omega) hmx S).mono ?_
  rintro e w2 ⟨pa, pc, pv, rfl, hb, P⟩
  replace B := B.trans (hb.mono B.size)
  replace L := (L.below hb (Nat.le_refl _)).more hb.size
  replace S := (S.below hb (Nat.le_refl _)).more hb.size
  clear hb
  replace P := P.rd
  go_wp2_with fail
  refine (specRangeParted_any _ l.length lc l sa ss.length sc ss w2 (by omega) hok L (by omega) hmx S).mono ?_
  rintro e w3 ⟨ta, tc, tv, rfl, hb, T⟩
  replace B := B.trans (hb.mono B.size)
  replace L := (L.below hb (Nat.le_refl _)).more hb.size
  replace S := (S.below hb (Nat.le_refl _)).more hb.size
  replace P := (P.below hb (Nat.le_refl _)).more hb.size
  clear hb
  replace T := T.rd
  have hr1 := partsR_rows l ss
  have hr2 := partsR_len l ss
  go_wp2_with fail
  refine (sameParts_same pa ta _ pc tc (rangePartedS l ss) w3 (by omega) (by omega) P T).mono ?_
  rintro e w4 ⟨rfl, hb⟩
  replace B := B.trans (hb.mono B.size)
  replace L := (L.below hb (Nat.le_refl _)).more hb.size
  replace S := (S.below hb (Nat.le_refl _)).more hb.size
  replace P := (P.below hb (Nat.le_refl _)).more hb.size
  replace T := (T.below hb (Nat.le_refl _)).more hb.size
  clear hb
  cases hq : rangePartedB l ss
  · clear L S
    go_wp2_with fail
    refine (sameParts_same pa ta _ pc tc (rangePartedS l ss) w4 (by omega) (by omega) P T).mono ?_
    rintro e w5 ⟨rfl, hb⟩
    replace B := B.trans (hb.mono B.size)
    replace P := (P.below hb (Nat.le_refl _)).more hb.size
    replace T := (T.below hb (Nat.le_refl _)).more hb.size
    clear hb
    go_wp2_with fail
    go_ret
    exact ⟨rfl, B⟩
  have hro : rowsOk l = true := by unfold rangePartedB at hq; exact (Bool.and_eq_true _ _ ▸ hq).1
  have HP := Lib.hid (partsR_yes hq)
  have HPl := Lib.hid (show (rangePartedS l ss).length = ss.length + 1 by rw [partsR_yes hq, partsL_length])
  rw [HPl.out]
  rw [HPl.out, HP.out] at P
  clear T S hr1 hr2 HPl HP hq
  have Q := Lib.hid hro
  clear hro
  have hO0 : (w4.alloc (.cells #[] 44)).ownsRow w4.heap.size 44 3 (.slice (some ⟨w4.heap.size, 0, none⟩) 0 0) 0 (flat (catS (rangeF ss) l 0)) := World.ownsRow_lit (base := w4.heap.size) (size := 3) w4 #[] 0 (Nat.le_refl _) (Nat.zero_le _) rfl
  go_wp2_with fail
  go_loopw [9, 10] (fun v i wr => ∃ (k q : Nat) (b : Option Addr) (c : Nat), k ≤ ss.length + 1 ∧ i = .int .i64 k ∧ v = .slice b q c ∧ q ≤ 12 ∧ Hid ((catS (rangeF ss) l k).length = q) ∧ wr.ownsRow w4.heap.size 44 3 (.slice b q c) q (flat (catS (rangeF ss) l k)) ∧ Below w4.heap.size w4 wr) (fun _ i _ => ss.length + 1 - (intOf i).toNat)
  case atStart => exact ⟨0, 0, _, 0, Nat.zero_le _, rfl, rfl, Nat.zero_le _, Lib.hid rfl, hO0, bl1 _ _⟩
  case round =>
    obtain ⟨k, q, b, c, hk, rfl, rfl, hq12, HQ, hO, hbr⟩ := hrel
    clear hO0
    by_cases hlt : k < ss.length + 1
    · obtain ⟨b1, o1, a1, c1, r1, rfl, hB1, hr1, d1, R1⟩ := (P.below hbr (Nat.le_refl _)).at_ hlt
      rw [partsL_get hlt] at hr1
      obtain rfl : (l.filter fun r => rangeF ss r == k) = r1 := by injection hr1
      have hf := rowsOk_some (fun r => rangeF ss r == k) Q.out
      have HS := Lib.hid (show sortedR (l.filter fun r => rangeF ss r == k) = sortL (l.filter fun r => rangeF ss r == k) by unfold sortedR; rw [hf]; rfl)
      have HF := Lib.hid hf
      have HLn := Lib.hid (sortL_length (l.filter fun r => rangeF ss r == k))
      have HC := Lib.hid (catS_succ (rangeF ss) l k)
      have hle2 := catS_le (rangeF ss) l (k + 1)
      rw [HC.out, List.length_append, HQ.out, sortL_length] at hle2
      have hokp : ∀ r ∈ (l.filter fun r => rangeF ss r == k), r.Ok := fun r hr => hok r (List.mem_filter.1 hr).1
      have hpl := List.length_filter_le (fun r => rangeF ss r == k) l
      clear hf hr1
      have C := implSorted_any a1 _ c1 _ wr (by omega) hokp (R1.more hbr.size)
      unfold SortedOut at C
      rw [HS.out, HF.out, HLn.out] at C
      generalize (l.filter fun r => rangeF ss r == k).length = pl at *
      generalize hsl : sortL (l.filter fun r => rangeF ss r == k) = sl at *
      have Hsl := Lib.hid hsl
      clear hsl
      go_wp2_with fail
      refine C.mono ?_
      rintro e w7 ⟨xa, xc, rfl, hb, hX⟩
      have X := Rd.of_own hX
      replace hO := own_below hO hb
      replace hbr := hbr.trans (hb.mono hbr.size)
      clear hb C hX R1 d1
      go_wp2_with (at_builtin; refine wpList_append_rd rfl _ _ 39 rfl w4.heap.size 44 i0 (.agg #[.string ⟨#[]⟩, .int .i64 0, .string ⟨#[]⟩]) 3 40 Try.underlying39 hi hz0 hz1 hz2 rfl (by decide) (.slice b q c) q (flat (catS (rangeF ss) l k)) (by rfl) hO xa w7.heap.size pl xc (flat sl) (by rfl) X (flat_one' _) (by unfold maxLen; omega) (by omega) hbr.size ?_)
      intro v' w8 hO8 hg8 _
      obtain ⟨a', cap', rfl⟩ := own_slice' hO8
      have hb8 := hbr.grown hg8 hbr.size (fun q e => (own_ge hO q e).1)
      rw [← flat_append, ← HC.out] at hO8
      clear hg8 hO X
      go_wp2_with fail
      go_roundw
      case rel => exact ⟨k + 1, q + pl, a', cap', by omega, by go_num, by go_num, by omega, Lib.hid (by rw [HC.out, List.length_append, HQ.out, HLn.out]), hO8, hb8⟩
      case measure => simp [intOf]; omega
    · obtain rfl : k = ss.length + 1 := by omega
      have HA := Lib.hid (catS_all (l := l) (fun x y h => less_range h) (ss.length + 1) (rangeF_lt ss))
      have HLl := HQ.out
      rw [HA.out, sortL_length] at HLl
      subst HLl
      rw [HA.out] at hO
      have X := Rd.of_own hO
      replace L := (L.below hbr (Nat.le_refl _)).more hbr.size
      have C := implSorted_any (some ⟨lb, 0, none⟩) l.length lc l wr (by omega) hok L
      unfold SortedOut at C
      rw [show sortedR l = sortL l by unfold sortedR; rw [Q.out]; rfl, Q.out, sortL_length] at C
      replace B := B.trans (hbr.mono B.size)
      clear hbr hO L P HQ
      go_wp2_with fail
      refine C.mono ?_
      rintro e w9 ⟨ya, yc, rfl, hb, hY⟩
      replace X := (X.below hb (Nat.le_refl _)).more hb.size
      have Y := Rd.of_own hY
      replace B := B.trans (hb.mono B.size)
      clear hb hY C
      go_wp2_with fail
      refine (sameRows_same b ya l.length c yc (sortL l) w9 (by omega) X Y).mono ?_
      rintro e w10 ⟨rfl, hb⟩
      replace B := B.trans (hb.mono B.size)
      clear hb X Y
      go_wp2_with fail
      go_ret
      exact ⟨rfl, B⟩
end Go.Proofs.Ytohiecppakiliaa
