/-
  slices.symMergeCmpFunc at rows by its contract: two neighbouring ranges, each in order, become one in order. Condition: at most 1048576 rows.
-/
import Derived.Test.YtallcholbbfkdaaDoorSymR
import Derived.Deep.DeepCutAuto
namespace Go.Proofs.YtallcholbbfkdaaDoor
open Go.RowKit

/-- At index c of the first range and at its counterpart of the second: the second's row does not precede, or precedes. -/
def SymAt (A B : List RowV) (a mid c : Nat) (q : Bool) : Prop := ∃ x y, A[c - a]? = some x ∧ B[mid - 1 - c]? = some y ∧ y.less x = q
theorem asc_or {A B : List RowV} (hA : Asc RowV.less A) (hB : Asc RowV.less B) (h : A.length = 0 ∨ B.length = 0) : Asc RowV.less (A ++ B) := by
  rcases h with h | h
  · rw [List.length_eq_zero_iff.1 h]; exact hB
  · rw [List.length_eq_zero_iff.1 h, List.append_nil]; exact hA
set_option maxRecDepth 100000 in
set_option maxHeartbeats 8000000 in
theorem symMerge_any (g cap N base : Nat) (hN : N ≤ 1048576) : ∀ (fuel a m b : Nat) (P A B S : List RowV) (w : World), b - a ≤ fuel → P.length = a → a + A.length = m → m + B.length = b → 0 < A.length → 0 < B.length → Asc RowV.less A → Asc RowV.less B → Holds w base g cap N (P ++ (A ++ (B ++ S))) →
    Calls Tryd.prog 126 #[.slice (some ⟨g, 0, none⟩) N cap, .int .i64 a, .int .i64 m, .int .i64 b, .func (.func 60) #[] #[]] w fun e w' => e = .returned (.tuple #[]) ∧ Merged w base g cap N P A B S w' := by
  intro fuel
  induction fuel with
  | zero => intro a m b P A B S w h1 _ h3 h4 h5 h6; omega
  | succ fuel ih =>
  intro a m b P A B S w hf ha hm hb hA0 hB0 hA hB hO
  by_cases hA1 : A.length = 1
  · obtain ⟨x, rfl⟩ := List.length_eq_one_iff.1 hA1
    exact symL_any g cap N a m b base P B S x w hN ha (by simpa using hm) hb hB hO
  by_cases hB1 : B.length = 1
  · obtain ⟨y, rfl⟩ := List.length_eq_one_iff.1 hB1
    exact symR_any g cap N a m b base P A S y w hN ha hm (by simpa using hb) (by omega) hA hO
  have hlen : b ≤ N := by have := hO.len; simp at this; omega
  obtain ⟨nA, hnA⟩ : ∃ n, A.length = n := ⟨_, rfl⟩
  obtain ⟨nB, hnB⟩ : ∃ n, B.length = n := ⟨_, rfl⟩
  have hm' : a + nA ≤ m ∧ m ≤ a + nA := by omega
  have hb' : m + nB ≤ b ∧ b ≤ m + nB := by omega
  have h2 : 2 ≤ nA ∧ 2 ≤ nB := by omega
  have HA := Lib.hid hnA
  have HB := Lib.hid hnB
  have Ha := Lib.hid ha
  have IH := Lib.hid ih
  clear ha hm hb hnA hnB hA0 hB0 hA1 hB1 ih
  obtain ⟨mid, hmid1, hmid2⟩ : ∃ mid : Nat, 2 * mid ≤ a + b ∧ a + b ≤ 2 * mid + 1 := ⟨(a + b) / 2, by omega, by omega⟩
  have hd1 : ((m : Int) - (a : Int) == 1) = false := by simp; omega
  have hd2 : ((b : Int) - (m : Int) == 1) = false := by simp; omega
  go_enter Tryd.func126, Tryd.ntmps126
  go_upto_if 140 with fail
  rw [show ((a : Int) + (b : Int)) / 2 = (mid : Int) by omega]
  go_cut [20, 21] (fun vs vr wc => ∃ lo hi : Nat, vs = .int .i64 lo ∧ vr = .int .i64 hi ∧ w = wc ∧ a ≤ lo ∧ lo ≤ hi ∧ hi ≤ m ∧ hi ≤ mid ∧ mid + m ≤ lo + b ∧ Hid (lo = a ∨ lo + b = mid + m) ∧ Hid (hi = m ∨ hi = mid))
  case first =>
    by_cases hgt : mid < m
    · go_wp2_with fail
      go_meet
      case rel => exact ⟨mid + m - b, mid, by go_num, by go_num, rfl, by omega, by omega, by omega, by omega, by omega, Lib.hid (.inr (by omega)), Lib.hid (.inr rfl)⟩
    · go_wp2_with fail
      go_meet
      case rel => exact ⟨a, m, by go_num, by go_num, rfl, by omega, by omega, by omega, by omega, by omega, Lib.hid (.inl rfl), Lib.hid (.inl rfl)⟩
  case rest =>
  obtain ⟨lo, hi, rfl, rfl, rfl, hlo1, hlh, hhm, hhi, hlo2, HL, HR⟩ := hcut
  go_wp2_with fail
  go_loopw [20, 21] (fun vi vj wr => ∃ i j : Nat, vi = .int .i64 i ∧ vj = .int .i64 j ∧ lo ≤ i ∧ i ≤ j ∧ j ≤ hi ∧ Holds wr base g cap N (P ++ (A ++ (B ++ S))) ∧ w.grownBy wr (some g) ∧ Hid (i = lo ∨ SymAt A B a mid (i - 1) false) ∧ Hid (j = hi ∨ SymAt A B a mid j true)) (fun vi vj _ => (intOf vj).toNat - (intOf vi).toNat)
  case atStart => exact ⟨lo, hi, rfl, rfl, Nat.le_refl _, hlh, Nat.le_refl _, hO, World.grownBy.refl _ _, Lib.hid (.inl rfl), Lib.hid (.inl rfl)⟩
  case round =>
    obtain ⟨i, j, rfl, rfl, hi', hij, hj, hH, hg, hl, hr⟩ := hrel
    clear hO
    by_cases hlt : i < j
    · obtain ⟨h, hh1, hh2, hh3, hh4⟩ : ∃ h : Nat, i ≤ h ∧ h < j ∧ 2 * h ≤ i + j ∧ i + j ≤ 2 * h + 1 := ⟨(i + j) / 2, by omega, by omega, by omega, by omega⟩
      have hhN : h < N := by omega
      obtain ⟨q, hq1, hq2, hq3⟩ : ∃ q : Nat, q < N ∧ q + h + 1 ≤ mid + m ∧ mid + m ≤ q + h + 1 := ⟨mid + m - 1 - h, by omega, by omega, by omega⟩
      have hw : IntKind.i64.wrap ((mid : Int) + (m : Int) - 1 - (h : Int)) = (q : Int) := by rw [IntWalk.i64_in _ (by omega)]; omega
      obtain ⟨y, hy, c0, c1, c2⟩ := (show Holds wr base g cap N ((P ++ A) ++ (B ++ S)) by simpa using hH).seg (a := m) (k := q) (by rw [List.length_append, Ha.out, HA.out]; omega) (by omega) (by rw [HB.out]; omega)
      obtain ⟨x, hx, d0, d1, d2⟩ := hH.seg (a := a) (k := h) Ha.out (by omega) (by rw [HA.out]; omega)
      have HS : ∀ q', y.less x = q' → SymAt A B a mid h q' := fun q' e => ⟨x, y, hx, by rw [show mid - 1 - h = q - m by omega]; exact hy, e⟩
      clear hx hy
      cases hq : y.less x
      case false =>
        have hq' := Lib.hid hq
        have hl2 : Hid (h + 1 = lo ∨ SymAt A B a mid (h + 1 - 1) false) := Lib.hid (.inr (HS false hq))
        clear hq hl HS
        go_wp2_with fail
        rw [show ((i : Int) + (j : Int)) / 2 = (h : Int) by omega]
        refine wp_region_still_tail 11 (by kernel_rfl) (by kernel_rfl) ?_
        simp only [List.take_succ_cons, List.take_zero, List.drop_succ_cons, List.drop_zero]
        change wpStill _ _ wr.drew _ _ _
        repeat still_step
        refine wpStill_nil ?_
        change wpList _ _ _ _ _ wr.drew
        go_wp2_with fail
        refine (compareRows_b y x false _ hq'.out).mono ?_
        rintro e w1 ⟨c, rfl, hc, hb1⟩
        clear c0 c1 c2 d0 d1 d2
        have hH1 := hH.drew.below hb1
        have hg1 := gb_trans (gb_drew hg) (gb_of_below hb1 _)
        clear hH hg hb1
        go_wp2_with fail
        go_roundw
        case rel => exact ⟨h + 1, j, by go_num, by go_num, by omega, by omega, hj, hH1, hg1, hl2, hr⟩
        case measure => simp [intOf]; omega
      have hq' := Lib.hid hq
      have hr2 : Hid (h = hi ∨ SymAt A B a mid h true) := Lib.hid (.inr (HS true hq))
      clear hq hr HS
      go_wp2_with fail
      rw [show ((i : Int) + (j : Int)) / 2 = (h : Int) by omega]
      refine wp_region_still_tail 11 (by kernel_rfl) (by kernel_rfl) ?_
      simp only [List.take_succ_cons, List.take_zero, List.drop_succ_cons, List.drop_zero]
      change wpStill _ _ wr.drew _ _ _
      repeat still_step
      refine wpStill_nil ?_
      change wpList _ _ _ _ _ wr.drew
      go_wp2_with fail
      refine (compareRows_b y x true _ hq'.out).mono ?_
      rintro e w1 ⟨c, rfl, hc, hb1⟩
      clear c0 c1 c2 d0 d1 d2
      have hH1 := hH.drew.below hb1
      have hg1 := gb_trans (gb_drew hg) (gb_of_below hb1 _)
      clear hH hg hb1
      go_wp2_with fail
      go_roundw
      case rel => exact ⟨i, h, by go_num, by go_num, by omega, by omega, by omega, hH1, hg1, hl, hr2⟩
      case measure => simp [intOf]; omega
    obtain rfl : i = j := by omega
    obtain ⟨s, rfl⟩ : ∃ s, s = i := ⟨_, rfl⟩
    obtain ⟨e, he1, he2⟩ : ∃ e : Nat, e + s ≤ mid + m ∧ mid + m ≤ e + s := ⟨mid + m - s, by omega, by omega⟩
    have H1 : Hid (s - a = 0 ∨ B.length ≤ mid - s ∨ ∃ x y, A[s - a - 1]? = some x ∧ B[mid - s]? = some y ∧ y.less x = false) := Lib.hid (by
      rw [HB.out]
      rcases hl.out with h | ⟨x, y, hx, hy, hl⟩
      · rcases HL.out with h' | h'
        · exact .inl (by omega)
        · exact .inr (.inl (by omega))
      · by_cases h0 : s - a = 0
        · exact .inl h0
        · exact .inr (.inr ⟨x, y, by rw [show s - a - 1 = s - 1 - a by omega]; exact hx, by rw [show mid - s = mid - 1 - (s - 1) by omega]; exact hy, hl⟩))
    have H2 : Hid (mid - s = 0 ∨ A.length ≤ s - a ∨ ∃ x y, B[mid - s - 1]? = some x ∧ A[s - a]? = some y ∧ x.less y = true) := Lib.hid (by
      rw [HA.out]
      rcases hr.out with h | ⟨x, y, hx, hy, hl⟩
      · rcases HR.out with h' | h'
        · exact .inr (.inl (by omega))
        · exact .inl (by omega)
      · exact .inr (.inr ⟨y, x, by rw [show mid - s - 1 = mid - 1 - s by omega]; exact hy, hx, hl⟩))
    have lA1 := Lib.hid (show (A.take (s - a)).length = s - a by rw [List.length_take, HA.out]; omega)
    have lB1 := Lib.hid (show (B.take (mid - s)).length = mid - s by rw [List.length_take, HB.out]; omega)
    have lA2 := Lib.hid (show (A.drop (s - a)).length = m - s by rw [List.length_drop, HA.out]; omega)
    have lB2 := Lib.hid (show (B.drop (mid - s)).length = b - e by rw [List.length_drop, HB.out]; omega)
    have aA1 := hA.take (s - a)
    have aB1 := hB.take (mid - s)
    have aA2 := hA.drop (s - a)
    have aB2 := hB.drop (mid - s)
    have HF : Hid (∀ {L R : List RowV}, Asc RowV.less L → Asc RowV.less R → L.Perm (A.take (s - a) ++ B.take (mid - s)) → R.Perm (A.drop (s - a) ++ B.drop (mid - s)) → Asc RowV.less (L ++ R) ∧ (L ++ R).Perm (A ++ B)) := Lib.hid (fun hL hR pL pR => sym_halves hA hB ordRow (by rw [HA.out]; omega) (by rw [HB.out]; omega) H1.out H2.out hL hR pL pR)
    have EQ : Hid (P ++ (A ++ (B ++ S)) = P ++ A.take (s - a) ++ A.drop (s - a) ++ (B.take (mid - s) ++ (B.drop (mid - s) ++ S))) := Lib.hid (by
      conv => lhs; rw [← List.take_append_drop (s - a) A, ← List.take_append_drop (mid - s) B]
      simp only [List.append_assoc])
    rw [EQ.out] at hH
    clear H1 H2 EQ hl hr HL HR hA hB hlt
    generalize A.take (s - a) = A1 at *
    generalize B.take (mid - s) = B1 at *
    generalize A.drop (s - a) = A2 at *
    generalize B.drop (mid - s) = B2 at *
    by_cases k1 : s < m
    · by_cases k2 : s < mid
      · by_cases k3 : a < s
        · by_cases k4 : e < b
          · skip
            go_wp2_with fail
            rw [show ((mid : Int) + (m : Int) - (s : Int)) = (e : Int) by omega]
            refine (rotate_any g cap N s m e base (P ++ A1) A2 B1 (B2 ++ S) _ _ hN (by rw [List.length_append, Ha.out, lA1.out]; omega) (by rw [lA2.out]; omega) (by rw [lB1.out]; omega) (by rw [lA2.out]; omega) (by rw [lB1.out]; omega) hH).mono ?_
            rintro e0 w2 ⟨rfl, hH2, hg2⟩
            replace hg := gb_trans hg hg2
            replace hH : Holds w2 base g cap N (P ++ (A1 ++ (B1 ++ (A2 ++ (B2 ++ S))))) := by simpa using hH2
            clear hH2 hg2
            go_wp2_with fail
            refine (IH.out a s mid P A1 B1 (A2 ++ (B2 ++ S)) _ (by omega) Ha.out (by rw [lA1.out]; omega) (by rw [lB1.out]; omega) (by rw [lA1.out]; omega) (by rw [lB1.out]; omega) aA1 aB1 hH).mono ?_
            rintro e0 w3 ⟨rfl, L, aL, pL, hH3, hg3⟩
            replace hg := gb_trans hg hg3
            have lL := Lib.hid (show L.length = mid - a by rw [pL.length_eq, List.length_append, lA1.out, lB1.out]; omega)
            clear hH hg3
            go_wp2_with fail
            first
              | rw [show ((mid : Int) + (m : Int) - (s : Int)) = (e : Int) by omega]
              | skip
            refine (IH.out mid e b (P ++ L) A2 B2 S _ (by omega) (by rw [List.length_append, Ha.out, lL.out]; omega) (by rw [lA2.out]; omega) (by rw [lB2.out]; omega) (by rw [lA2.out]; omega) (by rw [lB2.out]; omega) aA2 aB2 (by simpa using hH3)).mono ?_
            rintro e0 w4 ⟨rfl, R, aR, pR, hH4, hg4⟩
            replace hg := gb_trans hg hg4
            obtain ⟨f1, f2⟩ := HF.out aL aR pL pR
            clear hH3 hg4
            go_wp2_with fail
            go_end0
            exact ⟨rfl, L ++ R, f1, f2, by simpa using hH4, hg⟩
          · skip
            go_wp2_with fail
            rw [show ((mid : Int) + (m : Int) - (s : Int)) = (e : Int) by omega]
            refine (rotate_any g cap N s m e base (P ++ A1) A2 B1 (B2 ++ S) _ _ hN (by rw [List.length_append, Ha.out, lA1.out]; omega) (by rw [lA2.out]; omega) (by rw [lB1.out]; omega) (by rw [lA2.out]; omega) (by rw [lB1.out]; omega) hH).mono ?_
            rintro e0 w2 ⟨rfl, hH2, hg2⟩
            replace hg := gb_trans hg hg2
            replace hH : Holds w2 base g cap N (P ++ (A1 ++ (B1 ++ (A2 ++ (B2 ++ S))))) := by simpa using hH2
            clear hH2 hg2
            go_wp2_with fail
            refine (IH.out a s mid P A1 B1 (A2 ++ (B2 ++ S)) _ (by omega) Ha.out (by rw [lA1.out]; omega) (by rw [lB1.out]; omega) (by rw [lA1.out]; omega) (by rw [lB1.out]; omega) aA1 aB1 hH).mono ?_
            rintro e0 w3 ⟨rfl, L, aL, pL, hH3, hg3⟩
            replace hg := gb_trans hg hg3
            have lL := Lib.hid (show L.length = mid - a by rw [pL.length_eq, List.length_append, lA1.out, lB1.out]; omega)
            clear hH hg3
            obtain ⟨f1, f2⟩ := HF.out aL (asc_or aA2 aB2 (.inr (by rw [lB2.out]; omega))) pL (List.Perm.refl _)
            go_wp2_with fail
            go_end0
            exact ⟨rfl, L ++ (A2 ++ B2), f1, f2, by simpa using hH3, hg⟩
        · by_cases k4 : e < b
          · skip
            go_wp2_with fail
            rw [show ((mid : Int) + (m : Int) - (s : Int)) = (e : Int) by omega]
            refine (rotate_any g cap N s m e base (P ++ A1) A2 B1 (B2 ++ S) _ _ hN (by rw [List.length_append, Ha.out, lA1.out]; omega) (by rw [lA2.out]; omega) (by rw [lB1.out]; omega) (by rw [lA2.out]; omega) (by rw [lB1.out]; omega) hH).mono ?_
            rintro e0 w2 ⟨rfl, hH2, hg2⟩
            replace hg := gb_trans hg hg2
            replace hH : Holds w2 base g cap N (P ++ (A1 ++ (B1 ++ (A2 ++ (B2 ++ S))))) := by simpa using hH2
            clear hH2 hg2
            obtain ⟨L, aL, pL, hH3⟩ : ∃ L, Asc RowV.less L ∧ L.Perm (A1 ++ B1) ∧ Holds w2 base g cap N (P ++ (L ++ (A2 ++ (B2 ++ S)))) := ⟨A1 ++ B1, asc_or aA1 aB1 (.inl (by rw [lA1.out]; omega)), List.Perm.refl _, by simpa using hH⟩
            have lL := Lib.hid (show L.length = mid - a by rw [pL.length_eq, List.length_append, lA1.out, lB1.out]; omega)
            clear hH
            go_wp2_with fail
            first
              | rw [show ((mid : Int) + (m : Int) - (s : Int)) = (e : Int) by omega]
              | skip
            refine (IH.out mid e b (P ++ L) A2 B2 S _ (by omega) (by rw [List.length_append, Ha.out, lL.out]; omega) (by rw [lA2.out]; omega) (by rw [lB2.out]; omega) (by rw [lA2.out]; omega) (by rw [lB2.out]; omega) aA2 aB2 (by simpa using hH3)).mono ?_
            rintro e0 w4 ⟨rfl, R, aR, pR, hH4, hg4⟩
            replace hg := gb_trans hg hg4
            obtain ⟨f1, f2⟩ := HF.out aL aR pL pR
            clear hH3 hg4
            go_wp2_with fail
            go_end0
            exact ⟨rfl, L ++ R, f1, f2, by simpa using hH4, hg⟩
          · skip
            go_wp2_with fail
            rw [show ((mid : Int) + (m : Int) - (s : Int)) = (e : Int) by omega]
            refine (rotate_any g cap N s m e base (P ++ A1) A2 B1 (B2 ++ S) _ _ hN (by rw [List.length_append, Ha.out, lA1.out]; omega) (by rw [lA2.out]; omega) (by rw [lB1.out]; omega) (by rw [lA2.out]; omega) (by rw [lB1.out]; omega) hH).mono ?_
            rintro e0 w2 ⟨rfl, hH2, hg2⟩
            replace hg := gb_trans hg hg2
            replace hH : Holds w2 base g cap N (P ++ (A1 ++ (B1 ++ (A2 ++ (B2 ++ S))))) := by simpa using hH2
            clear hH2 hg2
            obtain ⟨L, aL, pL, hH3⟩ : ∃ L, Asc RowV.less L ∧ L.Perm (A1 ++ B1) ∧ Holds w2 base g cap N (P ++ (L ++ (A2 ++ (B2 ++ S)))) := ⟨A1 ++ B1, asc_or aA1 aB1 (.inl (by rw [lA1.out]; omega)), List.Perm.refl _, by simpa using hH⟩
            have lL := Lib.hid (show L.length = mid - a by rw [pL.length_eq, List.length_append, lA1.out, lB1.out]; omega)
            clear hH
            obtain ⟨f1, f2⟩ := HF.out aL (asc_or aA2 aB2 (.inr (by rw [lB2.out]; omega))) pL (List.Perm.refl _)
            go_wp2_with fail
            go_end0
            exact ⟨rfl, L ++ (A2 ++ B2), f1, f2, by simpa using hH3, hg⟩
      · skip
        replace hH : Holds wr base g cap N (P ++ (A1 ++ (B1 ++ (A2 ++ (B2 ++ S))))) := by
          have h0 : A2.length = 0 ∨ B1.length = 0 := .inr (by rw [lB1.out]; omega)
          rcases h0 with h0 | h0
          · rw [List.length_eq_zero_iff.1 h0] at hH ⊢; simpa using hH
          · rw [List.length_eq_zero_iff.1 h0] at hH ⊢; simpa using hH
        obtain ⟨L, aL, pL, hH3⟩ : ∃ L, Asc RowV.less L ∧ L.Perm (A1 ++ B1) ∧ Holds wr base g cap N (P ++ (L ++ (A2 ++ (B2 ++ S)))) := ⟨A1 ++ B1, asc_or aA1 aB1 (.inr (by rw [lB1.out]; omega)), List.Perm.refl _, by simpa using hH⟩
        have lL := Lib.hid (show L.length = mid - a by rw [pL.length_eq, List.length_append, lA1.out, lB1.out]; omega)
        clear hH
        go_wp2_with fail
        first
          | rw [show ((mid : Int) + (m : Int) - (s : Int)) = (e : Int) by omega]
          | skip
        refine (IH.out mid e b (P ++ L) A2 B2 S _ (by omega) (by rw [List.length_append, Ha.out, lL.out]; omega) (by rw [lA2.out]; omega) (by rw [lB2.out]; omega) (by rw [lA2.out]; omega) (by rw [lB2.out]; omega) aA2 aB2 (by simpa using hH3)).mono ?_
        rintro e0 w4 ⟨rfl, R, aR, pR, hH4, hg4⟩
        replace hg := gb_trans hg hg4
        obtain ⟨f1, f2⟩ := HF.out aL aR pL pR
        clear hH3 hg4
        go_wp2_with fail
        go_end0
        exact ⟨rfl, L ++ R, f1, f2, by simpa using hH4, hg⟩
    · by_cases k2 : s < mid
      · skip
        replace hH : Holds wr base g cap N (P ++ (A1 ++ (B1 ++ (A2 ++ (B2 ++ S))))) := by
          have h0 : A2.length = 0 ∨ B1.length = 0 := .inl (by rw [lA2.out]; omega)
          rcases h0 with h0 | h0
          · rw [List.length_eq_zero_iff.1 h0] at hH ⊢; simpa using hH
          · rw [List.length_eq_zero_iff.1 h0] at hH ⊢; simpa using hH
        go_wp2_with fail
        refine (IH.out a s mid P A1 B1 (A2 ++ (B2 ++ S)) _ (by omega) Ha.out (by rw [lA1.out]; omega) (by rw [lB1.out]; omega) (by rw [lA1.out]; omega) (by rw [lB1.out]; omega) aA1 aB1 hH).mono ?_
        rintro e0 w3 ⟨rfl, L, aL, pL, hH3, hg3⟩
        replace hg := gb_trans hg hg3
        have lL := Lib.hid (show L.length = mid - a by rw [pL.length_eq, List.length_append, lA1.out, lB1.out]; omega)
        clear hH hg3
        obtain ⟨f1, f2⟩ := HF.out aL (asc_or aA2 aB2 (.inl (by rw [lA2.out]; omega))) pL (List.Perm.refl _)
        go_wp2_with fail
        go_end0
        exact ⟨rfl, L ++ (A2 ++ B2), f1, f2, by simpa using hH3, hg⟩
      · skip
        replace hH : Holds wr base g cap N (P ++ (A1 ++ (B1 ++ (A2 ++ (B2 ++ S))))) := by
          have h0 : A2.length = 0 ∨ B1.length = 0 := .inl (by rw [lA2.out]; omega)
          rcases h0 with h0 | h0
          · rw [List.length_eq_zero_iff.1 h0] at hH ⊢; simpa using hH
          · rw [List.length_eq_zero_iff.1 h0] at hH ⊢; simpa using hH
        obtain ⟨L, aL, pL, hH3⟩ : ∃ L, Asc RowV.less L ∧ L.Perm (A1 ++ B1) ∧ Holds wr base g cap N (P ++ (L ++ (A2 ++ (B2 ++ S)))) := ⟨A1 ++ B1, asc_or aA1 aB1 (.inr (by rw [lB1.out]; omega)), List.Perm.refl _, by simpa using hH⟩
        have lL := Lib.hid (show L.length = mid - a by rw [pL.length_eq, List.length_append, lA1.out, lB1.out]; omega)
        clear hH
        obtain ⟨f1, f2⟩ := HF.out aL (asc_or aA2 aB2 (.inl (by rw [lA2.out]; omega))) pL (List.Perm.refl _)
        go_wp2_with fail
        go_end0
        exact ⟨rfl, L ++ (A2 ++ B2), f1, f2, by simpa using hH3, hg⟩
end Go.Proofs.YtallcholbbfkdaaDoor
