/-
  laws.FnTagged returns true for every code. No conditions.
-/
import Derived.Test.YtfbgimchkdffmaaOpenBytes
import Derived.Test.YtfbgimchkdffmaaSame
import Derived.Test.YtfbgimchkdffmaaTaggedFns
import Derived.Test.YtfbgimchkdffmaaDrawTagged

namespace Go.Proofs.Ytfbgimchkdffmaa
open Go.RowKit
def tagN (l : List RowV) (j : Nat) : Nat := l.countP (fun r => decide (0 ≤ r.tag ∧ r.tag < (j : Int)))
theorem tagN_zero (l : List RowV) : tagN l 0 = 0 := by
  unfold tagN
  rw [List.countP_eq_zero]
  intro r _ h
  have := of_decide_eq_true h
  omega
theorem tagN_succ (l : List RowV) (j : Nat) : tagN l (j + 1) = tagN l j + (l.filter (fun r => r.tag == (j : Int))).length := by
  rw [← List.countP_eq_length_filter]
  unfold tagN
  induction l with
  | nil => rfl
  | cons r l ih =>
    simp only [List.countP_cons]
    rw [ih]
    by_cases h1 : 0 ≤ r.tag ∧ r.tag < (j : Int)
    · have h2 : 0 ≤ r.tag ∧ r.tag < ((j + 1 : Nat) : Int) := by omega
      have h3 : ¬ r.tag = (j : Int) := by omega
      simp only [decide_eq_true h1, decide_eq_true h2, beq_eq_false_iff_ne.2 h3, if_true, Bool.false_eq_true, if_false]; omega
    · by_cases h3 : r.tag = (j : Int)
      · have h2 : 0 ≤ r.tag ∧ r.tag < ((j + 1 : Nat) : Int) := by omega
        simp only [decide_eq_false h1, decide_eq_true h2, beq_iff_eq.2 h3, if_true, Bool.false_eq_true, if_false]; omega
      · have h2 : ¬ (0 ≤ r.tag ∧ r.tag < ((j + 1 : Nat) : Int)) := by omega
        simp only [decide_eq_false h1, decide_eq_false h2, beq_eq_false_iff_ne.2 h3, Bool.false_eq_true, if_false]; omega
theorem tagN_le (l : List RowV) (j : Nat) : tagN l j ≤ l.length := List.countP_le_length
theorem tagN_all {l : List RowV} (h : rowsOk l = true) : tagN l 4 = l.length := by
  unfold tagN
  rw [List.countP_eq_length]
  intro r hr
  unfold rowsOk at h
  have := List.all_eq_true.1 (Bool.and_eq_true _ _ ▸ h).2 r hr
  have := of_decide_eq_true this
  simp; omega
theorem tagged_len {l : List RowV} (h : rowsOk l = true) (j : Nat) : (taggedS l (j : Int)).length = (l.filter (fun r => r.tag == (j : Int))).length := by
  unfold taggedS; rw [h]; rfl
def posK (l : List RowV) (t : Int) (i : Nat) : Nat := ((l.take i).filter (fun r => r.tag == t)).length
theorem posK_hit {l : List RowV} {t : Int} {i : Nat} {r : RowV} (hr : l[i]? = some r) (h : (r.tag == t) = true) : posK l t (i + 1) = posK l t i + 1 := by
  unfold posK; rw [filter_take_succ (p := fun r => r.tag == t) hr h, List.length_append]; rfl
theorem posK_miss {l : List RowV} {t : Int} {i : Nat} {r : RowV} (hr : l[i]? = some r) (h : (r.tag == t) = false) : posK l t (i + 1) = posK l t i := by
  unfold posK; rw [filter_take_skip (p := fun r => r.tag == t) hr h]
theorem posK_le (l : List RowV) (t : Int) (i : Nat) : posK l t i ≤ i := by
  unfold posK
  have := List.length_filter_le (fun r : RowV => r.tag == t) (l.take i)
  rw [List.length_take] at this
  omega
theorem posK_get {l : List RowV} {t : Int} {i : Nat} {r : RowV} (hq : rowsOk l = true) (hr : l[i]? = some r) (h : (r.tag == t) = true) : (taggedS l t)[posK l t i]? = some r := by
  unfold taggedS posK
  rw [hq, if_pos rfl]
  obtain ⟨hi, e⟩ := List.getElem?_eq_some_iff.1 hr
  have e2 : l.filter (fun r => r.tag == t) = (l.take i).filter (fun r => r.tag == t) ++ (l.drop i).filter (fun r => r.tag == t) := by rw [← List.filter_append, List.take_append_drop]
  rw [e2, List.getElem?_append_right (Nat.le_refl _), Nat.sub_self, List.drop_eq_getElem_cons hi, e, List.filter_cons, if_pos h]
  rfl
theorem posK_all {l : List RowV} {t : Int} {i : Nat} (hq : rowsOk l = true) (hi : l.length ≤ i) : posK l t i = (taggedS l t).length := by
  unfold taggedS posK
  rw [hq, if_pos rfl, List.take_of_length_le hi]
set_option maxRecDepth 100000 in
set_option maxHeartbeats 4000000 in
theorem walk_Tagged (a : Option Addr) (len cap : Nat) (xs : List Value) (w : World) (hI : IsCode w a len cap xs) :
    Calls Try.prog 10 #[.slice a len cap] w fun e w' => e = .returned (.bool true) ∧ Below w.heap.size w w' := by
  have hI0 := hI.by_
  obtain ⟨hlc, hcm, _, _⟩ := hI
  go_enter Try.func10, Try.ntmps10
  go_wp2_with fail
  refine (big_any a len cap w (by omega)).mono ?_
  rintro e w0 ⟨rfl, rfl⟩
  by_cases hbig : 1048576 < len
  · have hd : decide (1048576 < len) = true := by simpa using hbig
    rw [hd]
    go_wp2_with fail
    go_ret
    exact ⟨rfl, Below.refl _ _⟩
  have hd : decide (1048576 < len) = false := by simpa using hbig
  rw [hd]
  go_wp2_with fail
  refine (drawTagged_any a len cap w (by omega) hI0).mono ?_
  rintro e w1 ⟨l, t, lb, lc, hll, hok, _, rfl, hO, hb⟩
  have B := hb
  clear hb
  have L := Rd.of_own hO
  clear hO
  have htl := taggedS_le l t
  go_wp2_with fail
  refine (implTagged_any _ l.length lc l t w1 (by omega) hok L).mono ?_
  rintro e w2 ⟨ta, tc, rfl, hb, hO⟩
  replace B := B.trans (hb.mono B.size)
  replace L := (L.below hb (Nat.le_refl _)).more hb.size
  clear hb
  have T := Rd.of_own hO
  clear hO
  go_wp2_with fail
  refine (specTagged_any _ l.length lc l t w2 (by omega) hok L).mono ?_
  rintro e w3 ⟨va, vc, rfl, hb, hO⟩
  replace B := B.trans (hb.mono B.size)
  replace L := (L.below hb (Nat.le_refl _)).more hb.size
  replace T := (T.below hb (Nat.le_refl _)).more hb.size
  clear hb
  have V := Rd.of_own hO
  clear hO
  go_wp2_with fail
  refine (sameRows_same ta va _ tc vc (taggedS l t) w3 htl T V).mono ?_
  rintro e w4 ⟨rfl, hb⟩
  replace B := B.trans (hb.mono B.size)
  replace L := (L.below hb (Nat.le_refl _)).more hb.size
  replace T := (T.below hb (Nat.le_refl _)).more hb.size
  replace V := (V.below hb (Nat.le_refl _)).more hb.size
  clear hb
  clear V
  go_wp2_with fail
  refine (specRowsOk_any _ l.length lc l w4 (by omega) hok L).mono ?_
  rintro e w5 ⟨rfl, hb⟩
  replace B := B.trans (hb.mono B.size)
  replace L := (L.below hb (Nat.le_refl _)).more hb.size
  replace T := (T.below hb (Nat.le_refl _)).more hb.size
  clear hb
  cases hq : rowsOk l
  · clear hq
    go_wp2_with fail
    refine (specTagged_any _ l.length lc l t w5 (by omega) hok L).mono ?_
    rintro e w6 ⟨va2, vc2, rfl, hb, hO⟩
    replace B := B.trans (hb.mono B.size)
    replace L := (L.below hb (Nat.le_refl _)).more hb.size
    replace T := (T.below hb (Nat.le_refl _)).more hb.size
    clear hb
    have V := Rd.of_own hO
    clear hO
    go_wp2_with fail
    refine (sameRows_same ta va2 _ tc vc2 (taggedS l t) w6 htl T V).mono ?_
    rintro e w7 ⟨rfl, hb⟩
    replace B := B.trans (hb.mono B.size)
    replace L := (L.below hb (Nat.le_refl _)).more hb.size
    replace T := (T.below hb (Nat.le_refl _)).more hb.size
    replace V := (V.below hb (Nat.le_refl _)).more hb.size
    clear hb
    go_wp2_with fail
    go_ret
    exact ⟨rfl, B⟩
  have Q := Lib.hid hq
  clear hq
  have hm := hll
  go_wp2_with fail
  go_loopw [6, 7] (fun v i wr => ∃ (j n : Nat), j ≤ 4 ∧ i = .int .i64 j ∧ v = .int .i64 n ∧ n ≤ 9 ∧ Hid (tagN l j = n) ∧ Below w.heap.size w wr ∧ Rd wr wr.heap.size 3 (some ⟨lb, 0, none⟩) l.length (flat l) ∧ Rd wr wr.heap.size 3 ta (taggedS l t).length (flat (taggedS l t))) (fun _ i _ => 4 - (intOf i).toNat)
  case atStart => exact ⟨0, 0, by omega, rfl, rfl, by omega, Lib.hid (tagN_zero l), B, L, T⟩
  case round =>
    obtain ⟨j, n, hj, rfl, rfl, hn, HN, Br, Lr, Tr⟩ := hrel
    clear B L T
    by_cases hlt : j < 4
    · have S := tagN_succ l j
      have hle := tagN_le l (j + 1)
      rw [← tagged_len Q.out j, HN.out] at S
      rw [S] at hle
      have HS := Lib.hid S
      clear S
      have hx := taggedS_le l (j : Int)
      have C := implTagged_any _ l.length lc l (j : Int) wr (by omega) hok Lr
      unfold RowsOut at C
      generalize (taggedS l (j : Int)).length = m at *
      go_wp2_with fail
      refine C.mono ?_
      rintro e w9 ⟨xa, xc, rfl, hb, _⟩
      replace Br := Br.trans (hb.mono Br.size)
      replace Lr := (Lr.below hb (Nat.le_refl _)).more hb.size
      replace Tr := (Tr.below hb (Nat.le_refl _)).more hb.size
      clear hb C
      go_wp2_with fail
      go_roundw
      case rel => exact ⟨j + 1, n + m, by omega, by go_num, by go_num, by omega, HS, Br, Lr, Tr⟩
      case measure => simp [intOf]; omega
    · obtain rfl : j = 4 := by omega
      have HA := HN.out
      rw [tagN_all Q.out] at HA
      subst HA
      clear HN
      go_wp2_with fail
      go_loopw [8, 9] (fun v i wx => ∃ (i0 k : Nat), i0 ≤ l.length ∧ i = .int .i64 i0 ∧ v = .int .i64 k ∧ k ≤ i0 ∧ Hid (posK l t i0 = k) ∧ Below wr.heap.size wr wx) (fun _ i _ => l.length - (intOf i).toNat)
      case atStart => exact ⟨0, 0, by omega, rfl, rfl, by omega, Lib.hid rfl, Below.refl _ _⟩
      case round =>
        obtain ⟨i0, k, hi0, rfl, rfl, hki, HK, Bx⟩ := hrel
        by_cases hlt2 : i0 < l.length
        · obtain ⟨b1, o1, r, e1, hB1, hr, c0, c1, c2⟩ := (Lr.below Bx (Nat.le_refl _)).row hlt2
          cases e1
          simp only [Nat.zero_add] at c0 c1 c2
          have Hr := Lib.hid hr
          clear hr
          obtain ⟨key, tag, val⟩ := r
          cases hd : (tag == t)
          · have M := Lib.hid (posK_miss Hr.out hd)
            go_wp2_with fail
            clear hd
            go_roundw
            case rel => exact ⟨i0 + 1, k, by omega, by go_num, rfl, by omega, Lib.hid (by rw [M.out]; exact HK.out), Bx⟩
            case measure => simp [intOf]; omega
          · have M := Lib.hid (posK_hit Hr.out hd)
            have G := posK_get Q.out Hr.out hd
            rw [HK.out] at G
            have hkl : k < (taggedS l t).length := (List.getElem?_eq_some_iff.1 G).1
            obtain ⟨b2, o2, r2, rfl, hB2, hr2, d0, d1, d2⟩ := (Tr.below Bx (Nat.le_refl _)).row hkl
            obtain rfl : (⟨key, tag, val⟩ : RowV) = r2 := by rw [hr2] at G; injection G with h; exact h.symm
            clear hr2 G
            have hne : ((k : Int) == ((taggedS l t).length : Int)) = false := by simp; omega
            go_wp2_with fail
            go_quiet (fail)
            have Bq := Bx.trans ((below_drewN (Below.refl wr.heap.size wr) nq).mono Bx.size)
            generalize wr.drewN nq = w10 at *
            clear c0 c1 c2 d0 d1 d2 hne hd
            go_wp2_with fail
            go_roundw
            case rel =>
              (repeat apply Exists.intro)
              exact ⟨⟨i0 + 1, k + 1, by omega, by go_num, by go_num, by omega, Lib.hid (by rw [M.out, HK.out]), Bq⟩, rfl⟩
            case measure => simp [intOf]; omega
        · obtain rfl : i0 = l.length := by omega
          have HE := HK.out
          rw [posK_all Q.out (Nat.le_refl _)] at HE
          subst HE
          go_wp2_with fail
          go_ret
          exact ⟨rfl, Br.trans (Bx.mono Br.size)⟩
end Go.Proofs.Ytfbgimchkdffmaa
