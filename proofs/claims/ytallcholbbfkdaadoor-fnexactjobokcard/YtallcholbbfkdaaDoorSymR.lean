/-
  slices.symMergeCmpFunc at rows where the second range has one row and the first has more. Condition: at most 1048576 rows.
-/
import Derived.Test.YtallcholbbfkdaaDoorSymL
namespace Go.Proofs.YtallcholbbfkdaaDoor
open Go.RowKit

set_option maxRecDepth 100000 in
set_option maxHeartbeats 4000000 in
theorem symR_any (g cap N a m b base : Nat) (P A S : List RowV) (y : RowV) (w : World) (hN : N ≤ 1048576) (ha : P.length = a) (hm : a + A.length = m) (hb : m + 1 = b) (hA2 : 2 ≤ A.length) (hA : Asc RowV.less A) (hO : Holds w base g cap N (P ++ (A ++ ([y] ++ S)))) :
    Calls Tryd.prog 126 #[.slice (some ⟨g, 0, none⟩) N cap, .int .i64 a, .int .i64 m, .int .i64 b, .func (.func 60) #[] #[]] w fun e w' => e = .returned (.tuple #[]) ∧ Merged w base g cap N P A [y] S w' := by
  have hlen : b ≤ N := by have := hO.len; simp at this; omega
  obtain ⟨n, hn⟩ : ∃ n, A.length = n := ⟨_, rfl⟩
  have hm' : a + n ≤ m ∧ m ≤ a + n := by omega
  have hb' : m + 1 ≤ b ∧ b ≤ m + 1 := by omega
  have hn2 : 2 ≤ n := by omega
  have Hn := Lib.hid hn
  have Ha := Lib.hid ha
  clear ha hm hb hn hA2
  go_enter Tryd.func126, Tryd.ntmps126
  have hd1 : ((m : Int) - (a : Int) == 1) = false := by simp; omega
  have hd2 : ((b : Int) - (m : Int) == 1) = true := by simp; omega
  go_wp2
  go_loopw [14, 15] (fun vi vj wr => ∃ i j : Nat, vi = .int .i64 i ∧ vj = .int .i64 j ∧ a ≤ i ∧ i ≤ j ∧ j ≤ m ∧ Holds wr base g cap N (P ++ (A ++ ([y] ++ S))) ∧ w.grownBy wr (some g) ∧ Hid (i - a = 0 ∨ ∃ z, A[i - a - 1]? = some z ∧ y.less z = false) ∧ Hid (A.length ≤ j - a ∨ ∃ z, A[j - a]? = some z ∧ z.less y = false)) (fun vi vj _ => (intOf vj).toNat - (intOf vi).toNat)
  case atStart => exact ⟨a, m, rfl, rfl, Nat.le_refl _, by omega, Nat.le_refl _, hO, World.grownBy.refl _ _, Lib.hid (.inl (by omega)), Lib.hid (.inl (by rw [Hn.out]; omega))⟩
  case round =>
    obtain ⟨i, j, rfl, rfl, hi, hij, hj, hH, hg, hl, hr⟩ := hrel
    clear hO
    by_cases hlt : i < j
    · obtain ⟨h, hh1, hh2, hh3, hh4⟩ : ∃ h : Nat, i ≤ h ∧ h < j ∧ 2 * h ≤ i + j ∧ i + j ≤ 2 * h + 1 := ⟨(i + j) / 2, by omega, by omega, by omega, by omega⟩
      have hhN : h < N := by omega
      have hmN : m < N := by omega
      obtain ⟨y', hy', c0, c1, c2⟩ := (show Holds wr base g cap N ((P ++ A) ++ ([y] ++ S)) by simpa using hH).seg (a := m) (k := m) (by rw [List.length_append, Ha.out, Hn.out]; omega) (Nat.le_refl _) (by simp)
      obtain ⟨z, hz, d0, d1, d2⟩ := hH.seg (a := a) (k := h) Ha.out (by omega) (by rw [Hn.out]; omega)
      obtain rfl : y = y' := by simpa using hy'
      have Hz := Lib.hid hz
      clear hz hy'
      cases hq : y.less z
      case false =>
        have hq' := Lib.hid hq
        have hl2 : Hid (h + 1 - a = 0 ∨ ∃ z, A[h + 1 - a - 1]? = some z ∧ y.less z = false) := Lib.hid (.inr ⟨z, by rw [show h + 1 - a - 1 = h - a by omega]; exact Hz.out, hq⟩)
        clear hq hl
        go_wp2_with fail
        rw [show ((i : Int) + (j : Int)) / 2 = (h : Int) by omega]
        refine wp_region_still_tail 9 (by kernel_rfl) (by kernel_rfl) ?_
        simp only [List.take_succ_cons, List.take_zero, List.drop_succ_cons, List.drop_zero]
        change wpStill _ _ wr.drew _ _ _
        repeat still_step
        refine wpStill_nil ?_
        change wpList _ _ _ _ _ wr.drew
        go_wp2_with fail
        refine (compareRows_b y z false _ hq'.out).mono ?_
        rintro e w1 ⟨c, rfl, hc, hb1⟩
        clear c0 c1 c2 d0 d1 d2
        have hH1 := hH.drew.below hb1
        have hg1 := gb_trans (gb_drew hg) (gb_of_below hb1 _)
        clear hH hg hb1
        go_wp2_with fail
        go_roundw
        case rel => exact ⟨h + 1, j, by go_num, by go_num, by omega, by omega, hj, hH1, hg1, hl2, hr⟩
        case measure => simp [intOf]; omega
      have hq' := Lib.hid hq
      have hr2 : Hid (A.length ≤ h - a ∨ ∃ z, A[h - a]? = some z ∧ z.less y = false) := Lib.hid (.inr ⟨z, Hz.out, ordRow.asym _ _ hq⟩)
      clear hq hr
      go_wp2_with fail
      rw [show ((i : Int) + (j : Int)) / 2 = (h : Int) by omega]
      refine wp_region_still_tail 9 (by kernel_rfl) (by kernel_rfl) ?_
      simp only [List.take_succ_cons, List.take_zero, List.drop_succ_cons, List.drop_zero]
      change wpStill _ _ wr.drew _ _ _
      repeat still_step
      refine wpStill_nil ?_
      change wpList _ _ _ _ _ wr.drew
      go_wp2_with fail
      refine (compareRows_b y z true _ hq'.out).mono ?_
      rintro e w1 ⟨c, rfl, hc, hb1⟩
      clear c0 c1 c2 d0 d1 d2
      have hH1 := hH.drew.below hb1
      have hg1 := gb_trans (gb_drew hg) (gb_of_below hb1 _)
      clear hH hg hb1
      go_wp2_with fail
      go_roundw
      case rel => exact ⟨i, h, by go_num, by go_num, by omega, by omega, by omega, hH1, hg1, hl, hr2⟩
      case measure => simp [intOf]; omega
    · obtain rfl : i = j := by omega
      obtain ⟨p, hp⟩ : ∃ p, i - a = p := ⟨_, rfl⟩
      have hpn : p ≤ n := by omega
      have hip : a + p ≤ i ∧ i ≤ a + p := by omega
      rw [hp] at hl hr
      have hC := hA.insert ordRow hl.out hr.out
      have hPm : (A.take p ++ y :: A.drop p).Perm (A ++ [y]) := (insert_perm A p y).trans (List.perm_append_singleton y A).symm
      clear hp hl hr
      obtain ⟨w0, hw0⟩ : ∃ x, x = wr := ⟨_, rfl⟩
      subst hw0
      go_wp2_with fail
      go_loopw [17] (fun vk wr => ∃ k t : Nat, vk = .int .i64 k ∧ (a + t ≤ k ∧ k ≤ a + t) ∧ p ≤ t ∧ t ≤ n ∧ Holds wr base g cap N (P ++ (A.take t ++ y :: A.drop t) ++ S) ∧ w.grownBy wr (some g)) (fun vk _ => (intOf vk).toNat)
      case atStart => exact ⟨m, n, rfl, by omega, hpn, Nat.le_refl _, by
        rw [List.take_of_length_le (Nat.le_of_eq Hn.out), List.drop_eq_nil_of_le (Nat.le_of_eq Hn.out)]
        simpa using hH, hg⟩
      case round =>
        obtain ⟨k, t, rfl, hkt, hpt, ht, hH, hg⟩ := hrel
        by_cases hlt : p < t
        · obtain ⟨s, Hs⟩ : ∃ s, Hid (t = s + 1) := ⟨t - 1, Lib.hid (by omega)⟩
          obtain ⟨z, hz⟩ : ∃ z, A[s]? = some z := ⟨_, List.getElem?_eq_getElem (by rw [Hn.out]; have := Hs.out; omega)⟩
          obtain ⟨e1, e2⟩ := move_up (P := P) (S := S) (x := y) hz
          rw [Hs.out, e2] at hH
          obtain ⟨q, hq1, hq2, Hq⟩ : ∃ q : Nat, q < N ∧ IntKind.i64.wrap ((k : Int) - 1) = (q : Int) ∧ Hid (q + 1 = k) := ⟨k - 1, by omega, by rw [IntWalk.i64_in _ (by omega)]; omega, Lib.hid (by omega)⟩
          have hQ : (P ++ A.take s).length = q := by rw [List.length_append, Ha.out, List.length_take, Hn.out]; have := Hs.out; have := Hq.out; omega
          obtain ⟨c0, c1, c2⟩ := hH.cells (get_at z hQ)
          obtain ⟨d0, d1, d2⟩ := hH.cells (get_at1 z y hQ)
          have S3 := Lib.hid ((swap_down (S := A.drop (s + 1) ++ S) z y hQ).trans e1.symm)
          rw [Hq.out] at d0 d1 d2 S3
          have hk1 : k < N := by omega
          have hkq : k ≠ q := by have := Hq.out; omega
          have f := hH.frozenAt
          have f0 := f (k * 3)
          have f1 := f (k * 3 + 1)
          have f2 := f (k * 3 + 2)
          have g0 := f (q * 3)
          have g1 := f (q * 3 + 1)
          have g2 := f (q * 3 + 2)
          have H2 := ((hH.put hk1 z).put hq1 y).drew
          rw [S3.out] at H2
          have G2 := gb_drew (gb_put (k := q) (gb_put (k := k) hg (.string z.key) (.int .i64 z.tag) (.string z.val)) (.string y.key) (.int .i64 y.tag) (.string y.val))
          clear f hH hg e1 e2 hQ hz
          go_wp2_with fail
          go_region
          go_wp2_with fail
          go_roundw
          case rel => exact ⟨q, s, by go_num, by have := Hq.out; have := Hs.out; omega, by have := Hs.out; omega, by have := Hs.out; omega, H2, G2⟩
          case measure => have := Hq.out; simp [intOf]; omega
        · obtain rfl : t = p := by omega
          go_wp2_with fail
          refine bodyPost_ret (results_none rfl _ _ _) rfl ?_
          exact ⟨rfl, _, hC, hPm, by simpa using hH, hg⟩
end Go.Proofs.YtallcholbbfkdaaDoor
