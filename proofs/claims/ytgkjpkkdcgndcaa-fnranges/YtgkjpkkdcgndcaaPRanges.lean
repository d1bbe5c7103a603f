/-
  Rows.FnRangesSaid: laws.FnRanges returns true for every input, and each argument reads afterwards as it read before. No conditions.
-/
import Derived.Test.YtgkjpkkdcgndcaaOpenBytes
import Derived.Test.YtgkjpkkdcgndcaaSameParts
import Derived.Test.YtgkjpkkdcgndcaaPartsR
import Derived.Test.YtgkjpkkdcgndcaaAllRows
import Derived.Test.YtgkjpkkdcgndcaaAlike
import Derived.Test.YtgkjpkkdcgndcaaDrawCuts
import Derived.Test.YtgkjpkkdcgndcaaRangeFns
import Derived.Test.YtgkjpkkdcgndcaaSame
import Derived.Test.YtgkjpkkdcgndcaaOpen
namespace Go.Proofs.Ytgkjpkkdcgndcaa
open Go.RowKit
theorem countP_cut {α : Type} {p : α → Bool} : ∀ (l : List α), (∀ j x y, l[j]? = some x → l[j + 1]? = some y → p y = true → p x = true) → ∀ j x, l[j]? = some x → (p x = true ↔ j < l.countP p)
  | [], _, j, x, h => by simp at h
  | a :: t, hm, j, x, h => by
    have ih := countP_cut t (fun j x y h1 h2 => hm (j + 1) x y (by simpa using h1) (by simpa using h2))
    cases ha : p a
    · have h0 : t.countP p = 0 := by
        rcases Nat.eq_zero_or_pos (t.countP p) with h0 | h0
        · exact h0
        · exfalso
          have hl : 0 < t.length := Nat.lt_of_lt_of_le h0 List.countP_le_length
          have h1 : t[0]? = some t[0] := List.getElem?_eq_getElem hl
          have h2 := (ih 0 _ h1).2 h0
          have h3 := hm 0 a t[0] rfl (by simp) h2
          rw [ha] at h3; cases h3
      rw [List.countP_cons_of_neg (by rw [ha]; decide), h0]
      cases j with
      | zero =>
        obtain rfl : a = x := by simpa using h
        rw [ha]; simp
      | succ j =>
        have := (ih j x (by simpa using h))
        rw [h0] at this
        rw [this]; omega
    · rw [List.countP_cons_of_pos ha]
      cases j with
      | zero =>
        obtain rfl : a = x := by simpa using h
        rw [ha]; simp
      | succ j =>
        rw [ih j x (by simpa using h)]; omega
theorem cuts_rise {ss : List ByteArray} (h : cutsB ss = true) {j : Nat} {p s : ByteArray} (hp : ss[j]? = some p) (hs : ss[j + 1]? = some s) : Op.bytesLess p.toList s.toList = true := by
  have hk := (List.getElem?_eq_some_iff.1 hs).1
  by_cases h12 : s.size ≤ 12
  · cases hl : Op.bytesLess p.toList s.toList
    · have := cutsB_no hk (by rw [badAt_succ hp hs h12, hl]; rfl)
      rw [h] at this; cases this
    · rfl
  · have := cutsB_no hk (badAt_long hs h12)
    rw [h] at this; cases this
theorem leB_iff {ss : List ByteArray} (h : cutsB ss = true) (key : ByteArray) {j : Nat} {c : ByteArray} (hc : ss[j]? = some c) : leB key c = true ↔ j < rangeN ss key := by
  unfold rangeN
  refine countP_cut ss (fun j x y hx hy hl => ?_) j c hc
  have hr := cuts_rise h hx hy
  unfold leB at hl ⊢
  rw [Bool.or_eq_true] at hl ⊢
  left
  rcases hl with hl | hl
  · exact bl_trans hr hl
  · rw [← beq_iff_eq.1 hl]; exact hr
theorem cut_ahead {ss : List ByteArray} (h : cutsB ss = true) {key c : ByteArray} {j : Nat} (hc : ss[j]? = some c) (hj : j < rangeN ss key) : Op.bytesLess key.toList c.toList = false := by
  have := (leB_iff h key hc).2 hj
  unfold leB at this
  rw [Bool.or_eq_true] at this
  rcases this with g | g
  · exact bl_asymm g
  · rw [beq_iff_eq.1 g]; exact bl_irrefl _
theorem cut_behind {ss : List ByteArray} (h : cutsB ss = true) {key c : ByteArray} {j : Nat} (hc : ss[j]? = some c) (hj : rangeN ss key ≤ j) : Op.bytesLess key.toList c.toList = true := by
  cases hl : Op.bytesLess key.toList c.toList
  · have := (leB_iff h key hc).1 (leB_of_not hl)
    omega
  · rfl
theorem filter_split2 (f : RowV → Nat) (l : List RowV) (k : Nat) : ((l.filter fun r => decide (f r < k)) ++ (l.filter fun r => f r == k)).Perm (l.filter fun r => decide (f r < k + 1)) := by
  induction l with
  | nil => exact List.Perm.nil
  | cons r l ih =>
    rcases Nat.lt_trichotomy (f r) k with h | h | h
    · have h1 : decide (f r < k) = true := decide_eq_true h
      have h2 : (f r == k) = false := beq_eq_false_iff_ne.2 (by omega)
      have h3 : decide (f r < k + 1) = true := decide_eq_true (by omega)
      simp only [List.filter_cons, h1, h2, h3, if_true, Bool.false_eq_true, if_false, List.cons_append]
      exact ih.cons r
    · have h1 : decide (f r < k) = false := decide_eq_false (by omega)
      have h2 : (f r == k) = true := beq_iff_eq.2 h
      have h3 : decide (f r < k + 1) = true := decide_eq_true (by omega)
      simp only [List.filter_cons, h1, h2, h3, if_true, Bool.false_eq_true, if_false]
      exact List.perm_middle.trans (ih.cons r)
    · have h1 : decide (f r < k) = false := decide_eq_false (by omega)
      have h2 : (f r == k) = false := beq_eq_false_iff_ne.2 (by omega)
      have h3 : decide (f r < k + 1) = false := decide_eq_false (by omega)
      simp only [List.filter_cons, h1, h2, h3, Bool.false_eq_true, if_false]
      exact ih
theorem catR_perm (f : RowV → Nat) (l : List RowV) (k : Nat) : (partsL f k l).flatten.Perm (l.filter fun r => decide (f r < k)) := by
  induction k with
  | zero => simp [partsL]
  | succ k ih =>
    have e : partsL f (k + 1) l = partsL f k l ++ [l.filter fun r => f r == k] := by simp [partsL, List.range_succ]
    rw [e, List.flatten_append]
    simp only [List.flatten_cons, List.flatten_nil, List.append_nil]
    exact (ih.append (List.Perm.refl _)).trans (filter_split2 f l k)
theorem IsBy.on3 {w w' : World} {a : Option Addr} {n : Nat} (h : IsBy w w.heap.size a n) (hb : Below w.heap.size w w') : IsBy w' w'.heap.size a n := by
  obtain ⟨xs, h1, h2⟩ := h
  exact ⟨xs, (h1.below hb (Nat.le_refl _)).more hb.size, h2⟩
theorem drewN_size (w : World) : ∀ n, (w.drewN n).heap.size = w.heap.size
  | 0 => rfl
  | n + 1 => drewN_size w n
set_option maxRecDepth 100000 in
theorem implRangeOf_pure (a : Option Addr) (n cap : Nat) (ss : List ByteArray) (key : ByteArray) (w : World) (hm : n ≤ 1048576) (hS : MaxS ss) (hc : cutsB ss = true) (h12 : key.size ≤ 12) (hR : Rd w w.heap.size 1 a n (strC ss)) :
    Calls Try.prog 20 #[.slice a n cap, .string key] w fun e w' => e = .returned (.int .i64 (rangeN ss key)) ∧ w = w' := by
  have hd : decide ((key.size : Int) ≤ 12) = true := by simp; omega
  have C := cutsOk_any a n cap ss w hm hS hR
  rw [hc] at C
  clear hc
  go_enter Try.func20, Try.ntmps20
  go_wp2_with fail
  refine C.mono ?_
  rintro e w1 ⟨rfl, rfl⟩
  go_wp2_with (go_at_call 87; go_in)
  refine (cutsUpTo_any a n cap ss key _ hm hR).mono ?_
  rintro e w2 ⟨rfl, rfl⟩
  go_wp2_with fail
  go_ret
  exact ⟨rfl, rfl⟩
set_option maxRecDepth 100000 in
set_option maxHeartbeats 8000000 in
theorem walk_Ranges (a : Option Addr) (len cap : Nat) (xs : List Value) (w : World) (hI : IsCode w a len cap xs) :
    Calls Try.prog 3 #[.slice a len cap] w fun e w' => e = .returned (.bool true) ∧ Below w.heap.size w w' := by
  have hI0 := hI.by_
  obtain ⟨hlc, hcm, _, _⟩ := hI
  go_enter Try.func3, Try.ntmps3
  go_wp2_with fail
  refine (big_any a len cap w (by omega)).mono ?_
  rintro e w0 ⟨rfl, rfl⟩
  by_cases hbig : 1048576 < len
  · have hd : decide (1048576 < len) = true := by simpa using hbig
    rw [hd]
    go_wp2_with fail
    go_ret
    exact ⟨rfl, Below.refl _ _⟩
  have hd : decide (1048576 < len) = false := by simpa using hbig
  rw [hd]
  go_wp2_with fail
  refine (drawRangeParted_any a len cap w (by omega) hI0).mono ?_
  rintro e w1 ⟨l, lb, lc, ss, sa, sc, hll, hok, hle, hmx, hlcap, rfl, L, S, hb⟩
  have B := hb
  clear hb
  go_wp2_with fail
  refine (implRangeParted_any _ l.length lc l sa ss.length sc ss w1 (by omega) hok L (by omega) hmx S).mono ?_
  rintro e w2 ⟨pa, pc, pv, rfl, hb, P⟩
  replace B := B.trans (hb.mono B.size)
  replace L := (L.below hb (Nat.le_refl _)).more hb.size
  replace S := (S.below hb (Nat.le_refl _)).more hb.size
  clear hb
  replace P := P.rd
  go_wp2_with fail
  refine (specRangeParted_any _ l.length lc l sa ss.length sc ss w2 (by omega) hok L (by omega) hmx S).mono ?_
  rintro e w3 ⟨ta, tc, tv, rfl, hb, T⟩
  replace B := B.trans (hb.mono B.size)
  replace L := (L.below hb (Nat.le_refl _)).more hb.size
  replace S := (S.below hb (Nat.le_refl _)).more hb.size
  replace P := (P.below hb (Nat.le_refl _)).more hb.size
  clear hb
  replace T := T.rd
  go_wp2_with fail
  refine (drawRangeOf_any a len cap w3 (by omega) (hI0.on3 B)).mono ?_
  rintro e w4 ⟨ks, ka, kc, key0, hkl, hkm, hk5, rfl, K, hb⟩
  replace B := B.trans (hb.mono B.size)
  replace L := (L.below hb (Nat.le_refl _)).more hb.size
  replace S := (S.below hb (Nat.le_refl _)).more hb.size
  replace P := (P.below hb (Nat.le_refl _)).more hb.size
  replace T := (T.below hb (Nat.le_refl _)).more hb.size
  clear hb
  have hr1 := partsR_rows l ss
  have hr2 := partsR_len l ss
  go_wp2_with fail
  refine (sameParts_same pa ta _ pc tc (rangePartedS l ss) w4 (by omega) (by omega) P T).mono ?_
  rintro e w5 ⟨rfl, hb⟩
  replace B := B.trans (hb.mono B.size)
  replace L := (L.below hb (Nat.le_refl _)).more hb.size
  replace S := (S.below hb (Nat.le_refl _)).more hb.size
  replace P := (P.below hb (Nat.le_refl _)).more hb.size
  replace T := (T.below hb (Nat.le_refl _)).more hb.size
  replace K := (K.below hb (Nat.le_refl _)).more hb.size
  clear hb
  go_wp2_with fail
  refine (implRangeOf_any ka ks.length kc ks key0 w5 (by omega) hkm (by unfold maxLen; omega) K).mono ?_
  rintro e w6 ⟨rfl, hb⟩
  replace B := B.trans (hb.mono B.size)
  replace L := (L.below hb (Nat.le_refl _)).more hb.size
  replace S := (S.below hb (Nat.le_refl _)).more hb.size
  replace P := (P.below hb (Nat.le_refl _)).more hb.size
  replace T := (T.below hb (Nat.le_refl _)).more hb.size
  replace K := (K.below hb (Nat.le_refl _)).more hb.size
  clear hb
  go_wp2_with fail
  refine (specRangeOf_any ka ks.length kc ks key0 w6 (by omega) hkm (by unfold maxLen; omega) K).mono ?_
  rintro e w7 ⟨rfl, hb⟩
  replace B := B.trans (hb.mono B.size)
  replace L := (L.below hb (Nat.le_refl _)).more hb.size
  replace S := (S.below hb (Nat.le_refl _)).more hb.size
  replace P := (P.below hb (Nat.le_refl _)).more hb.size
  replace T := (T.below hb (Nat.le_refl _)).more hb.size
  replace K := (K.below hb (Nat.le_refl _)).more hb.size
  clear hb
  generalize rangeOf ks key0 = kz at *
  have hn1 : (kz != kz) = false := by simp
  have hq1 : (kz == kz) = true := by simp
  cases hq : rangePartedB l ss
  · clear L S
    go_wp2_with fail
    refine (sameParts_same pa ta _ pc tc (rangePartedS l ss) w7 (by omega) (by omega) P T).mono ?_
    rintro e w8 ⟨rfl, hb⟩
    replace B := B.trans (hb.mono B.size)
    replace P := (P.below hb (Nat.le_refl _)).more hb.size
    replace T := (T.below hb (Nat.le_refl _)).more hb.size
    replace K := (K.below hb (Nat.le_refl _)).more hb.size
    clear hb
    go_wp2_with fail
    refine (implRangeOf_any ka ks.length kc ks key0 w8 (by omega) hkm (by unfold maxLen; omega) K).mono ?_
    rintro e w9 ⟨rfl, hb⟩
    replace B := B.trans (hb.mono B.size)
    replace P := (P.below hb (Nat.le_refl _)).more hb.size
    replace T := (T.below hb (Nat.le_refl _)).more hb.size
    replace K := (K.below hb (Nat.le_refl _)).more hb.size
    clear hb
    go_wp2_with fail
    refine (specRangeOf_any ka ks.length kc ks key0 w9 (by omega) hkm (by unfold maxLen; omega) K).mono ?_
    rintro e w10 ⟨rfl, hb⟩
    replace B := B.trans (hb.mono B.size)
    replace P := (P.below hb (Nat.le_refl _)).more hb.size
    replace T := (T.below hb (Nat.le_refl _)).more hb.size
    replace K := (K.below hb (Nat.le_refl _)).more hb.size
    clear hb
    generalize rangeOf ks key0 = kz at *
    have hq1 : (kz == kz) = true := by simp
    go_wp2_with fail
    go_ret
    exact ⟨rfl, B⟩
  have hro : rowsOk l = true := by unfold rangePartedB at hq; exact (Bool.and_eq_true _ _ ▸ hq).1
  have hcu : cutsB ss = true := by unfold rangePartedB at hq; exact (Bool.and_eq_true _ _ ▸ hq).2
  have HP := Lib.hid (partsR_yes hq)
  have HPl := Lib.hid (show (rangePartedS l ss).length = ss.length + 1 by rw [partsR_yes hq, partsL_length])
  rw [HPl.out]
  rw [HPl.out, HP.out] at P
  have HC := Lib.hid hcu
  have Q := Lib.hid hro
  clear T K hr1 hr2 HPl HP hq hro hcu hn1 hq1
  go_wp2_with fail
  go_loopw [11] (fun i wr => ∃ q : Nat, q ≤ ss.length + 1 ∧ i = .int .i64 q ∧ Below w7.heap.size w7 wr) (fun i _ => ss.length + 1 - (intOf i).toNat)
  case atStart => exact ⟨0, Nat.zero_le _, rfl, Below.refl _ _⟩
  case round =>
    obtain ⟨q, hqM, rfl, hb⟩ := hrel
    by_cases hqn : q < ss.length + 1
    · obtain ⟨b3, o3, a3, c3, r3, rfl, hB3, hr3, d3, R3⟩ := (P.below hb (Nat.le_refl _)).at_ hqn
      have hl3 : (l.filter fun r => rangeF ss r == q) = r3 := by
        rw [partsL_get hqn] at hr3
        exact Option.some.inj hr3
      have hle3 : r3.length ≤ 12 := by rw [← hl3]; have := List.length_filter_le (fun r => rangeF ss r == q) l; omega
      have H3 := Lib.hid hl3
      clear hl3 hr3
      go_wp2_with fail
      go_loopw [12] (fun i wx => ∃ (j : Nat), j ≤ r3.length ∧ i = .int .i64 j ∧ Below w7.heap.size w7 wx) (fun i _ => r3.length - (intOf i).toNat)
      case atStart => exact ⟨0, Nat.zero_le _, rfl, hb⟩
      case round =>
        obtain ⟨j, hj, rfl, hb2⟩ := hrel
        obtain ⟨b3', o3', a3', c3', r3', e3, hB3', hr3', d3', R3'⟩ := (P.below hb2 (Nat.le_refl _)).at_ hqn
        cases e3
        obtain rfl : r3 = r3' := by
          rw [partsL_get hqn] at hr3'
          rw [← H3.out]; exact Option.some.inj hr3'
        clear hr3' d3 R3
        by_cases hlt : j < r3.length
        · obtain ⟨b1, o1, r, rfl, hB1, hr, c0, c1, c2⟩ := R3'.row hlt
          have hmem : r ∈ l.filter fun r => rangeF ss r == q := by rw [H3.out]; exact List.mem_of_getElem? hr
          have hkey := rowsOk_key Q.out (List.mem_filter.1 hmem).1
          have HN := Lib.hid (show rangeN ss r.key = q from beq_iff_eq.1 (List.mem_filter.1 hmem).2)
          clear hr hmem
          obtain ⟨key, tag, val⟩ := r
          simp only at hkey c0 c1 c2 HN
          have C := fun n => implRangeOf_pure sa ss.length sc ss key (wr.drewN n) (by omega) hmx HC.out hkey (((S.below hb2 (Nat.le_refl _)).below (below_drewN (Below.refl w7.heap.size wr) n) (Nat.le_refl _)).more (by rw [drewN_size]; exact hb2.size))
          rw [HN.out] at C
          by_cases hq0 : q < 1
          · by_cases hq1 : q < ss.length
            · have e0 : decide ((0 : Int) < (q : Int)) = false := by simp; omega
              have e0n : decide (0 < q) = false := by simp; omega
              have e1 : decide ((q : Int) < (ss.length : Int)) = true := by simp; omega
              have e1n : decide (q < ss.length) = true := by simp; omega
              obtain ⟨bs, os, cq, rfl, hBs, hcq, cc1⟩ := (S.below hb2 (Nat.le_refl _)).str (show q < ss.length by omega)
              have l1 := cut_behind HC.out (key := key) hcq (by rw [HN.out]; omega)
              clear hcq
              go_wp2_with fail
              go_quiet (first | (go_at_call 20; refine (C _).mono ?_; rintro e wz ⟨rfl, rfl⟩; exact ⟨rfl, _, rfl⟩))
              have Bq := hb2.trans ((below_drewN (Below.refl wr.heap.size wr) nq).mono hb2.size)
              generalize wr.drewN nq = w10 at *
              clear c0 c1 c2 C d3' R3'
              go_wp2_with fail
              go_roundw
              case rel =>
                first
                  | exact ⟨j + 1, by omega, by go_num, Bq⟩
                  | ((repeat apply Exists.intro); exact ⟨⟨j + 1, by omega, by go_num, Bq⟩, rfl⟩)
              case measure => simp [intOf]; omega
            · have e0 : decide ((0 : Int) < (q : Int)) = false := by simp; omega
              have e0n : decide (0 < q) = false := by simp; omega
              have e1 : decide ((q : Int) < (ss.length : Int)) = false := by simp; omega
              have e1n : decide (q < ss.length) = false := by simp; omega
              go_wp2_with fail
              go_quiet (first | (go_at_call 20; refine (C _).mono ?_; rintro e wz ⟨rfl, rfl⟩; exact ⟨rfl, _, rfl⟩))
              have Bq := hb2.trans ((below_drewN (Below.refl wr.heap.size wr) nq).mono hb2.size)
              generalize wr.drewN nq = w10 at *
              clear c0 c1 c2 C d3' R3'
              go_wp2_with fail
              go_roundw
              case rel =>
                first
                  | exact ⟨j + 1, by omega, by go_num, Bq⟩
                  | ((repeat apply Exists.intro); exact ⟨⟨j + 1, by omega, by go_num, Bq⟩, rfl⟩)
              case measure => simp [intOf]; omega
          · by_cases hq1 : q < ss.length
            · have e0 : decide ((0 : Int) < (q : Int)) = true := by simp; omega
              have e0n : decide (0 < q) = true := by simp; omega
              obtain ⟨p, hp1, hp2⟩ : ∃ p : Nat, (p < q ∧ q < p + 2) ∧ IntKind.i64.wrap ((q : Int) - 1) = (p : Int) := ⟨q - 1, by omega, by rw [IntWalk.i64_in _ (by omega)]; omega⟩
              obtain ⟨bs, os, cp, rfl, hBs, hcp, cc0⟩ := (S.below hb2 (Nat.le_refl _)).str (show p < ss.length by omega)
              have l0 := cut_ahead HC.out (key := key) hcp (by rw [HN.out]; omega)
              clear hcp
              have e1 : decide ((q : Int) < (ss.length : Int)) = true := by simp; omega
              have e1n : decide (q < ss.length) = true := by simp; omega
              obtain ⟨bs2, os2, cq, es2, hBs2, hcq, cc1⟩ := (S.below hb2 (Nat.le_refl _)).str (show q < ss.length by omega)
              obtain ⟨rfl, rfl⟩ : bs = bs2 ∧ os = os2 := by injection es2 with e1; injection e1 with e2 e3; exact ⟨e2, e3⟩
              clear es2
              have l1 := cut_behind HC.out (key := key) hcq (by rw [HN.out]; omega)
              clear hcq
              go_wp2_with fail
              go_quiet (first | (go_at_call 20; refine (C _).mono ?_; rintro e wz ⟨rfl, rfl⟩; exact ⟨rfl, _, rfl⟩))
              have Bq := hb2.trans ((below_drewN (Below.refl wr.heap.size wr) nq).mono hb2.size)
              generalize wr.drewN nq = w10 at *
              clear c0 c1 c2 C d3' R3'
              go_wp2_with fail
              go_roundw
              case rel =>
                first
                  | exact ⟨j + 1, by omega, by go_num, Bq⟩
                  | ((repeat apply Exists.intro); exact ⟨⟨j + 1, by omega, by go_num, Bq⟩, rfl⟩)
              case measure => simp [intOf]; omega
            · have e0 : decide ((0 : Int) < (q : Int)) = true := by simp; omega
              have e0n : decide (0 < q) = true := by simp; omega
              obtain ⟨p, hp1, hp2⟩ : ∃ p : Nat, (p < q ∧ q < p + 2) ∧ IntKind.i64.wrap ((q : Int) - 1) = (p : Int) := ⟨q - 1, by omega, by rw [IntWalk.i64_in _ (by omega)]; omega⟩
              obtain ⟨bs, os, cp, rfl, hBs, hcp, cc0⟩ := (S.below hb2 (Nat.le_refl _)).str (show p < ss.length by omega)
              have l0 := cut_ahead HC.out (key := key) hcp (by rw [HN.out]; omega)
              clear hcp
              have e1 : decide ((q : Int) < (ss.length : Int)) = false := by simp; omega
              have e1n : decide (q < ss.length) = false := by simp; omega
              go_wp2_with fail
              go_quiet (first | (go_at_call 20; refine (C _).mono ?_; rintro e wz ⟨rfl, rfl⟩; exact ⟨rfl, _, rfl⟩))
              have Bq := hb2.trans ((below_drewN (Below.refl wr.heap.size wr) nq).mono hb2.size)
              generalize wr.drewN nq = w10 at *
              clear c0 c1 c2 C d3' R3'
              go_wp2_with fail
              go_roundw
              case rel =>
                first
                  | exact ⟨j + 1, by omega, by go_num, Bq⟩
                  | ((repeat apply Exists.intro); exact ⟨⟨j + 1, by omega, by go_num, Bq⟩, rfl⟩)
              case measure => simp [intOf]; omega
        · obtain rfl : j = r3.length := by omega
          go_wp2_with fail
          exact ⟨⟨q + 1, by omega, by go_num, hb2⟩, by simp [intOf]; omega⟩
    · have hp := (catR_perm (rangeF ss) l (ss.length + 1))
      rw [List.filter_eq_self.2 (fun r _ => decide_eq_true (rangeF_lt ss r))] at hp
      have HPm := Lib.hid hp
      have hpl := hp.length_eq
      clear hp
      replace P := (P.below hb (Nat.le_refl _)).more hb.size
      replace L := (L.below hb (Nat.le_refl _)).more hb.size
      have C := all_any pa (ss.length + 1) pc _ wr (by omega) (by omega) P
      have hM : ((ss.length : Int) + 1 == (ss.length : Int) + 1) = true := by simp
      generalize (partsL (rangeF ss) (ss.length + 1) l).flatten = fl at *
      clear P S
      go_wp2_with fail
      refine C.mono ?_
      rintro e w10 ⟨fa, fc, rfl, hb1, hF⟩
      have F := Rd.of_own hF
      replace L := (L.below hb1 (Nat.le_refl _)).more hb1.size
      replace hb := hb.trans (hb1.mono hb.size)
      clear hb1 hF C
      rw [hpl] at F
      rw [hpl]
      go_wp2_with fail
      refine (alike_perm fa _ l.length fc lc fl l w10 (by omega) HPm.out F L).mono ?_
      rintro e w11 ⟨rfl, hb1⟩
      replace hb := hb.trans (hb1.mono hb.size)
      clear hb1 F L
      go_wp2_with fail
      go_ret
      exact ⟨rfl, B.trans (hb.mono B.size)⟩
end Go.Proofs.Ytgkjpkkdcgndcaa

namespace Go.Proofs.Ytgkjpkkdcgndcaa
open Go.ChangeShapes Go.WideShapes Go.ChangeAt Go.RowKit Go.Joins
open Go.ChangeMaps (open_string shut_string)
namespace Ranges

set_option maxRecDepth 100000 in
theorem lifted (os : Os) (started : os.Started) (H : Type) (enc : TypeId × Value → H) :
    ReturnsInHanded {} Try.checked os 3 .any (Rows.fnRangesSpec.pre6 enc Try.prog Try.f3 Rows.fnRangesRow.domain false) (Rows.fnRangesSpec.post enc Try.prog Try.f3 false true false false) := by
  refine returnsInHanded_of_change (C := Try.checked) own started (by kernel_rfl) Try.func3
    (ChangeSpec.witness6 (enc := enc) (C := Try.checked) false ⟨#[], #[.slice none 0 0], []⟩ 8 (by kernel_rfl) (by kernel_rfl) (by kernel_rfl) (by kernel_rfl)) ?_
  intro W base args ds gs before hval0 hW _ _
  have hval : ∀ (j : Nat) t v, Try.f3.params[j]? = some t → args[j]? = some v → Value.okWide Try.prog W .any base t v := hval0
  have hW' := hW
  obtain ⟨p, q, hA0, hV, rfl, _, _⟩ := hW
  have hA : DataW.TrodAll enc Try.prog W 0 (fun _ => true) true Try.f3.params.toList args.toList ds p := hA0
  rw [Try.params3] at hA hval
  obtain ⟨v0, vs0, d0, ds0, p0, q0, hargs, rfl, rfl, h0, r0⟩ := trodAll_cons hA
  obtain ⟨rfl, rfl, rfl⟩ := trodAll_nil r0
  obtain rfl : args = #[v0] := by cases args; simp_all
  obtain ⟨rfl, rfl⟩ := trodVars_none hV
  have k0 := h0
  have lt0 : ∀ x ∈ p0, x.block < W.heap.size := by obtain ⟨m, hm⟩ := k0; exact DataW.trod_lt m _ _ _ hm
  obtain ⟨a0, len0, cap0, z0, rfl, w0⟩ := open_Bytes (hval 0 22 v0 rfl rfl) h0
  clear hA0 hval0
  refine (walk_Ranges a0 len0 cap0 z0 W w0).mono fun e W' ⟨he, bel⟩ => ?_
  subst he
  exact ⟨_, rfl, _, _, _, [], _, [], hW', trodAll_mk1 (shut_bool Try.underlying4 _), (trodAll_cons_mk (Below.trod laidOut (by kernel_rfl) (of_decide_eq_true (by kernel_rfl)) k0 bel lt0) trodAll_mk0), rfl, bel.frame _, fun h => by cases h⟩

theorem over : Rows.fnRangesRow.holds Try.pinned (OpenSpec.ofChange Rows.fnRangesSpec) :=
  OpenClaim.holds_of_wide 3 Try.f3 rfl rfl rfl rfl rfl rfl rfl ⟨rfl, rfl, rfl, rfl, rfl⟩ rfl rfl rfl rfl rfl (by kernel_rfl) Try.func3 (by kernel_rfl)
    (of_decide_eq_true (by kernel_rfl)) (by unfold Func.isWrapper; first | (rw [if_pos (by decide +kernel)]; kernel_rfl) | (rw [if_neg (by decide +kernel)]; exact ⟨rfl, rfl⟩))
    (fun os started H enc _ => lifted os started H enc)
end Ranges
theorem fnRanges_holds : Rows.FnRangesSaid := Ranges.over
end Go.Proofs.Ytgkjpkkdcgndcaa
