/-
  slices.symMergeCmpFunc at rows where the first range has one row. Condition: at most 1048576 rows.
-/
import Derived.Test.YtallcholbbfkdaaDoorRotate
import Derived.Test.YtallcholbbfkdaaDoorSortedFns
namespace Go.Proofs.YtallcholbbfkdaaDoor
open Go.RowKit

theorem get_seg {α : Type} {P A S : List α} {a k : Nat} (ha : P.length = a) (h1 : a ≤ k) (h2 : k < a + A.length) : (P ++ (A ++ S))[k]? = A[k - a]? := by
  rw [List.getElem?_append_right (by omega), ha, List.getElem?_append_left (by omega)]
/-- What merging leaves: the rows of both ranges, in order. -/
def Merged (w : World) (base g cap N : Nat) (P A B S : List RowV) (w' : World) : Prop := ∃ C, Asc RowV.less C ∧ C.Perm (A ++ B) ∧ Holds w' base g cap N (P ++ (C ++ S)) ∧ w.grownBy w' (some g)
theorem Holds.seg {w : World} {base g cap N a k : Nat} {P A S : List RowV} (h : Holds w base g cap N (P ++ (A ++ S))) (ha : P.length = a) (h1 : a ≤ k) (h2 : k < a + A.length) :
    ∃ r, A[k - a]? = some r ∧ w.cell? ⟨g, k * 3, none⟩ = some (.string r.key) ∧ w.cell? ⟨g, k * 3 + 1, none⟩ = some (.int .i64 r.tag) ∧ w.cell? ⟨g, k * 3 + 2, none⟩ = some (.string r.val) := by
  have e := get_seg (S := S) ha h1 h2
  obtain ⟨r, hr⟩ : ∃ r, A[k - a]? = some r := ⟨_, List.getElem?_eq_getElem (by omega)⟩
  exact ⟨r, hr, h.cells (e.trans hr)⟩
set_option maxRecDepth 100000 in
set_option maxHeartbeats 4000000 in
theorem symL_any (g cap N a m b base : Nat) (P B S : List RowV) (x : RowV) (w : World) (hN : N ≤ 1048576) (ha : P.length = a) (hm : a + 1 = m) (hb : m + B.length = b) (hB : Asc RowV.less B) (hO : Holds w base g cap N (P ++ ([x] ++ (B ++ S)))) :
    Calls Tryd.prog 126 #[.slice (some ⟨g, 0, none⟩) N cap, .int .i64 a, .int .i64 m, .int .i64 b, .func (.func 60) #[] #[]] w fun e w' => e = .returned (.tuple #[]) ∧ Merged w base g cap N P [x] B S w' := by
  have hlen : b ≤ N := by have := hO.len; simp at this; omega
  obtain ⟨n, hn⟩ : ∃ n, B.length = n := ⟨_, rfl⟩
  have hm' : a + 1 ≤ m ∧ m ≤ a + 1 := by omega
  have hb' : m + n ≤ b ∧ b ≤ m + n := by omega
  have Hn := Lib.hid hn
  have Ha := Lib.hid ha
  clear ha hm hb hn
  go_enter Tryd.func126, Tryd.ntmps126
  have hd1 : ((m : Int) - (a : Int) == 1) = true := by simp; omega
  go_wp2
  go_loopw [10, 11] (fun vi vj wr => ∃ i j : Nat, vi = .int .i64 i ∧ vj = .int .i64 j ∧ m ≤ i ∧ i ≤ j ∧ j ≤ b ∧ Holds wr base g cap N (P ++ ([x] ++ (B ++ S))) ∧ w.grownBy wr (some g) ∧ Hid (i - m = 0 ∨ ∃ z, B[i - m - 1]? = some z ∧ x.less z = false) ∧ Hid (B.length ≤ j - m ∨ ∃ z, B[j - m]? = some z ∧ z.less x = false)) (fun vi vj _ => (intOf vj).toNat - (intOf vi).toNat)
  case atStart => exact ⟨m, b, rfl, rfl, Nat.le_refl _, by omega, Nat.le_refl _, hO, World.grownBy.refl _ _, Lib.hid (.inl (by omega)), Lib.hid (.inl (by rw [Hn.out]; omega))⟩
  case round =>
    obtain ⟨i, j, rfl, rfl, hi, hij, hj, hH, hg, hl, hr⟩ := hrel
    clear hO
    by_cases hlt : i < j
    · obtain ⟨h, hh1, hh2, hh3, hh4⟩ : ∃ h : Nat, i ≤ h ∧ h < j ∧ 2 * h ≤ i + j ∧ i + j ≤ 2 * h + 1 := ⟨(i + j) / 2, by omega, by omega, by omega, by omega⟩
      have hhN : h < N := by omega
      have haN : a < N := by omega
      obtain ⟨z, hz, c0, c1, c2⟩ := (show Holds wr base g cap N ((P ++ [x]) ++ (B ++ S)) by simpa using hH).seg (a := m) (k := h) (by rw [List.length_append, Ha.out, List.length_singleton]; omega) (by omega) (by rw [Hn.out]; omega)
      obtain ⟨x', hx', d0, d1, d2⟩ := hH.seg (a := a) (k := a) Ha.out (Nat.le_refl _) (by simp)
      obtain rfl : x = x' := by simpa using hx'
      have Hz := Lib.hid hz
      clear hz hx'
      cases hq : z.less x
      case true =>
        have hq' := Lib.hid hq
        have hl2 : Hid (h + 1 - m = 0 ∨ ∃ z, B[h + 1 - m - 1]? = some z ∧ x.less z = false) := Lib.hid (.inr ⟨z, by rw [show h + 1 - m - 1 = h - m by omega]; exact Hz.out, ordRow.asym _ _ hq⟩)
        clear hq hl
        go_wp2_with fail
        rw [show ((i : Int) + (j : Int)) / 2 = (h : Int) by omega]
        refine wp_region_still_tail 9 (by kernel_rfl) (by kernel_rfl) ?_
        simp only [List.take_succ_cons, List.take_zero, List.drop_succ_cons, List.drop_zero]
        change wpStill _ _ wr.drew _ _ _
        repeat still_step
        refine wpStill_nil ?_
        change wpList _ _ _ _ _ wr.drew
        go_wp2_with fail
        refine (compareRows_b z x true _ hq'.out).mono ?_
        rintro e w1 ⟨c, rfl, hc, hb1⟩
        clear c0 c1 c2 d0 d1 d2
        have hH1 := hH.drew.below hb1
        have hg1 := gb_trans (gb_drew hg) (gb_of_below hb1 _)
        clear hH hg hb1
        go_wp2_with fail
        go_roundw
        case rel => exact ⟨h + 1, j, by go_num, by go_num, by omega, by omega, hj, hH1, hg1, hl2, hr⟩
        case measure => simp [intOf]; omega
      have hq' := Lib.hid hq
      have hr2 : Hid (B.length ≤ h - m ∨ ∃ z, B[h - m]? = some z ∧ z.less x = false) := Lib.hid (.inr ⟨z, Hz.out, hq⟩)
      clear hq hr
      go_wp2_with fail
      rw [show ((i : Int) + (j : Int)) / 2 = (h : Int) by omega]
      refine wp_region_still_tail 9 (by kernel_rfl) (by kernel_rfl) ?_
      simp only [List.take_succ_cons, List.take_zero, List.drop_succ_cons, List.drop_zero]
      change wpStill _ _ wr.drew _ _ _
      repeat still_step
      refine wpStill_nil ?_
      change wpList _ _ _ _ _ wr.drew
      go_wp2_with fail
      refine (compareRows_b z x false _ hq'.out).mono ?_
      rintro e w1 ⟨c, rfl, hc, hb1⟩
      clear c0 c1 c2 d0 d1 d2
      have hH1 := hH.drew.below hb1
      have hg1 := gb_trans (gb_drew hg) (gb_of_below hb1 _)
      clear hH hg hb1
      go_wp2_with fail
      go_roundw
      case rel => exact ⟨i, h, by go_num, by go_num, by omega, by omega, by omega, hH1, hg1, hl, hr2⟩
      case measure => simp [intOf]; omega
    · obtain rfl : i = j := by omega
      obtain ⟨p, hp⟩ : ∃ p, i - m = p := ⟨_, rfl⟩
      have hpn : p ≤ n := by omega
      have hip : m + p ≤ i ∧ i ≤ m + p := by omega
      rw [hp] at hl hr
      have hC := hB.insert ordRow hl.out hr.out
      have hPm : (B.take p ++ x :: B.drop p).Perm ([x] ++ B) := insert_perm B p x
      clear hp hl hr
      obtain ⟨w0, hw0⟩ : ∃ x, x = wr := ⟨_, rfl⟩
      subst hw0
      go_wp2_with fail
      go_loopw [13] (fun vk wr => ∃ k t : Nat, vk = .int .i64 k ∧ (a + t ≤ k ∧ k ≤ a + t) ∧ t ≤ p ∧ Holds wr base g cap N (P ++ (B.take t ++ x :: B.drop t) ++ S) ∧ w.grownBy wr (some g)) (fun vk _ => a + p - (intOf vk).toNat)
      case atStart => exact ⟨a, 0, rfl, by omega, Nat.zero_le _, by simpa using hH, hg⟩
      case round =>
        obtain ⟨k, t, rfl, hkt, ht, hH, hg⟩ := hrel
        by_cases hlt : t < p
        · obtain ⟨y, hy⟩ : ∃ y, B[t]? = some y := ⟨_, List.getElem?_eq_getElem (by rw [Hn.out]; omega)⟩
          obtain ⟨e1, e2⟩ := move_up (P := P) (S := S) (x := x) hy
          have hQ : (P ++ B.take t).length = k := by rw [List.length_append, Ha.out, List.length_take, Hn.out]; omega
          rw [e1] at hH
          obtain ⟨c0, c1, c2⟩ := hH.cells (get_at x hQ)
          obtain ⟨q, hq1, hq2, Hq⟩ : ∃ q : Nat, q < N ∧ IntKind.i64.wrap ((k : Int) + 1) = (q : Int) ∧ Hid (k + 1 = q) := ⟨k + 1, by omega, by rw [IntWalk.i64_in _ (by omega)]; omega, Lib.hid rfl⟩
          obtain ⟨d0, d1, d2⟩ := hH.cells (get_at1 x y hQ)
          have S3 := Lib.hid ((swap_up (S := B.drop (t + 1) ++ S) x y hQ).trans e2.symm)
          rw [Hq.out] at d0 d1 d2 S3
          have hk1 : k < N := by omega
          have hkq : k ≠ q := by have := Hq.out; omega
          have f := hH.frozenAt
          have f0 := f (k * 3)
          have f1 := f (k * 3 + 1)
          have f2 := f (k * 3 + 2)
          have g0 := f (q * 3)
          have g1 := f (q * 3 + 1)
          have g2 := f (q * 3 + 2)
          have H2 := ((hH.put hk1 y).put hq1 x).drew
          rw [S3.out] at H2
          have G2 := gb_drew (gb_put (k := q) (gb_put (k := k) hg (.string y.key) (.int .i64 y.tag) (.string y.val)) (.string x.key) (.int .i64 x.tag) (.string x.val))
          clear f hH hg e1 e2 hQ hy
          go_wp2_with fail
          go_region
          go_wp2_with fail
          go_roundw
          case rel => exact ⟨q, t + 1, rfl, by have := Hq.out; omega, by omega, H2, G2⟩
          case measure => have := Hq.out; simp [intOf]; omega
        · obtain rfl : t = p := by omega
          go_wp2_with fail
          refine bodyPost_ret (results_none rfl _ _ _) rfl ?_
          exact ⟨rfl, _, hC, hPm, by simpa using hH, hg⟩
end Go.Proofs.YtallcholbbfkdaaDoor
