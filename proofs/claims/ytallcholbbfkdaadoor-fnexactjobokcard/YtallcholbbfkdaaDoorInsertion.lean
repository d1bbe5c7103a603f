/-
  slices.insertionSortCmpFunc at rows with impl.compareRows by its contract: a range becomes one in order. Condition: at most 1048576 rows.
-/
import Derived.Test.YtallcholbbfkdaaDoorSymL
namespace Go.Proofs.YtallcholbbfkdaaDoor
open Go.RowKit

theorem Holds.drewN {w : World} {base g cap N : Nat} {d : List RowV} (h : Holds w base g cap N d) (q : Nat) : Holds (w.drewN q) base g cap N d := h.below (below_drewN (Below.refl _ _) q)
theorem gb_drewN {w w' : World} {row : Option Nat} (h : w.grownBy w' row) (q : Nat) : w.grownBy (w'.drewN q) row := gb_trans h (gb_of_below (below_drewN (Below.refl _ _) q) row)
/-- What sorting a range leaves. -/
def SortedTo (w : World) (base g cap N : Nat) (P X S : List RowV) (w' : World) : Prop := ∃ C, Asc RowV.less C ∧ C.Perm X ∧ Holds w' base g cap N (P ++ (C ++ S)) ∧ w.grownBy w' (some g)
theorem ins_step {C1 X : List RowV} {t q : Nat} {x : RowV} (h : Asc RowV.less C1) (hp : C1.Perm (X.take t)) (hx : X[t]? = some x) (h1 : q = 0 ∨ ∃ z, C1[q - 1]? = some z ∧ x.less z = false) (h2 : C1.length ≤ q ∨ ∃ z, C1[q]? = some z ∧ z.less x = false) :
    Asc RowV.less (C1.take q ++ x :: C1.drop q) ∧ (C1.take q ++ x :: C1.drop q).Perm (X.take (t + 1)) := by
  obtain ⟨ht, e⟩ := List.getElem?_eq_some_iff.1 hx
  refine ⟨h.insert ordRow h1 h2, (insert_perm C1 q x).trans ?_⟩
  rw [List.take_succ_eq_append_getElem ht, e]
  exact (hp.cons x).trans (List.perm_append_singleton x _).symm
set_option maxRecDepth 100000 in
set_option maxHeartbeats 4000000 in
theorem insertion_any (g cap N a b base : Nat) (P X S : List RowV) (w : World) (hN : N ≤ 1048576) (ha : P.length = a) (hb : a + X.length = b) (hO : Holds w base g cap N (P ++ (X ++ S))) :
    Calls Tryd.prog 125 #[.slice (some ⟨g, 0, none⟩) N cap, .int .i64 a, .int .i64 b, .func (.func 60) #[] #[]] w fun e w' => e = .returned (.tuple #[]) ∧ SortedTo w base g cap N P X S w' := by
  have hlen : b ≤ N := by have := hO.len; simp at this; omega
  obtain ⟨n, hn⟩ : ∃ n, X.length = n := ⟨_, rfl⟩
  have hb' : a + n ≤ b ∧ b ≤ a + n := by omega
  have Hn := Lib.hid hn
  have Ha := Lib.hid ha
  clear ha hb hn
  go_enter Tryd.func125, Tryd.ntmps125
  go_wp2
  go_loopw [8] (fun vi wr => ∃ (i t : Nat) (C1 : List RowV), vi = .int .i64 i ∧ (a + t ≤ i ∧ i ≤ a + t) ∧ 1 ≤ t ∧ t ≤ n + 1 ∧ Hid (Asc RowV.less C1 ∧ C1.Perm (X.take t)) ∧ Holds wr base g cap N (P ++ (C1 ++ (X.drop t ++ S))) ∧ w.grownBy wr (some g)) (fun vi _ => b + 1 - (intOf vi).toNat)
  case atStart =>
    refine ⟨a + 1, 1, X.take 1, by go_num, by omega, Nat.le_refl _, by omega, Lib.hid ⟨?_, List.Perm.refl _⟩, ?_, World.grownBy.refl _ _⟩
    · cases X with
      | nil => exact Asc.nil
      | cons x X => exact Asc.one x
    · rw [← List.append_assoc (X.take 1), List.take_append_drop]; exact hO
  case round =>
    obtain ⟨i, t, C1, rfl, hit, ht1, htn, HC, hH, hg⟩ := hrel
    clear hO
    by_cases hlt : t < n
    case neg =>
      have hE : X.take t = X ∧ X.drop t = [] := ⟨List.take_of_length_le (by rw [Hn.out]; omega), List.drop_eq_nil_of_le (by rw [Hn.out]; omega)⟩
      have HC' := HC.out
      rw [hE.1] at HC'
      rw [hE.2] at hH
      have Hf := Lib.hid HC'
      clear hE HC HC'
      go_wp2_with fail
      go_end0
      exact ⟨rfl, C1, Hf.out.1, Hf.out.2, by simpa using hH, hg⟩
    obtain ⟨x, hx⟩ : ∃ x, X[t]? = some x := ⟨_, List.getElem?_eq_getElem (by rw [Hn.out]; exact hlt)⟩
    have hC1 : C1.length = t := by rw [HC.out.2.length_eq, List.length_take, Hn.out]; omega
    have hH0 : Holds wr base g cap N (P ++ (C1.take t ++ x :: C1.drop t) ++ (X.drop (t + 1) ++ S)) := by
      obtain ⟨hq, e⟩ := List.getElem?_eq_some_iff.1 hx
      rw [List.take_of_length_le (Nat.le_of_eq hC1), List.drop_eq_nil_of_le (Nat.le_of_eq hC1)]
      rw [List.drop_eq_getElem_cons hq, e] at hH
      simpa using hH
    have HL := Lib.hid hC1
    have Hx := Lib.hid hx
    clear hH hx hC1
    obtain ⟨w0, hw0⟩ : ∃ x, x = wr := ⟨_, rfl⟩
    subst hw0
    have hib : decide (i < b) = true := by simp; omega
    go_wp2_with fail
    go_loopw [9] (fun vj wr => ∃ j q : Nat, vj = .int .i64 j ∧ (a + q ≤ j ∧ j ≤ a + q) ∧ q ≤ t ∧ Hid (C1.length ≤ q ∨ ∃ z, C1[q]? = some z ∧ z.less x = false) ∧ Holds wr base g cap N (P ++ (C1.take q ++ x :: C1.drop q) ++ (X.drop (t + 1) ++ S)) ∧ w.grownBy wr (some g)) (fun vj _ => (intOf vj).toNat)
    case atStart => exact ⟨i, t, by go_num, hit, Nat.le_refl _, Lib.hid (.inl (Nat.le_of_eq HL.out)), hH0, hg⟩
    case round =>
      obtain ⟨j, q, rfl, hjq, hqt, HU, hH, hg⟩ := hrel
      clear hH0
      by_cases hpos : 0 < q
      case neg =>
        obtain rfl : q = 0 := by omega
        obtain ⟨f1, f2⟩ := ins_step HC.out.1 HC.out.2 Hx.out (.inl rfl) HU.out
        have hd : decide (a < j) = false := by simp; omega
        have Hf := Lib.hid (And.intro f1 f2)
        clear f1 f2 HU HC
        go_wp2_with fail
        go_quiet (fail)
        have hH1 := hH.drewN nq
        have hg1 := gb_drewN hg nq
        generalize wr.drewN nq = w1 at *
        clear hH hg
        go_wp2_with fail
        go_roundw
        case rel => exact ⟨i + 1, t + 1, _, by go_num, by omega, by omega, by omega, Hf, by simpa using hH1, hg1⟩
        case measure => simp [intOf]; omega
      obtain ⟨s, hs1, hs2⟩ : ∃ s : Nat, s < q ∧ q < s + 2 := ⟨q - 1, by omega, by omega⟩
      obtain ⟨z, hz⟩ : ∃ z, C1[s]? = some z := ⟨_, List.getElem?_eq_getElem (by rw [HL.out]; omega)⟩
      obtain ⟨e1, e2⟩ := move_up (P := P) (S := X.drop (t + 1) ++ S) (x := x) hz
      rw [show s + 1 = q by omega] at e1 e2
      obtain ⟨p, hp1, hp2, hp3⟩ : ∃ p : Nat, p < N ∧ IntKind.i64.wrap ((j : Int) - 1) = (p : Int) ∧ (p < j ∧ j < p + 2) := ⟨j - 1, by omega, by rw [IntWalk.i64_in _ (by omega)]; omega, by omega⟩
      have hQ : (P ++ C1.take s).length = p := by rw [List.length_append, Ha.out, List.length_take, HL.out]; omega
      have hj1 : j < N := by omega
      have hd : decide (a < j) = true := by simp; omega
      have hHe := hH
      rw [e2] at hHe
      obtain ⟨c0, c1, c2⟩ := hHe.cells (get_at z hQ)
      obtain ⟨d0, d1, d2⟩ := hHe.cells (get_at1 z x hQ)
      have Hpj := Lib.hid (show p + 1 = j by omega)
      rw [Hpj.out] at d0 d1 d2
      have S3 := Lib.hid ((swap_down (S := C1.drop q ++ (X.drop (t + 1) ++ S)) z x hQ).trans e1.symm)
      have E2 := Lib.hid e2
      rw [Hpj.out] at S3
      have Hz := Lib.hid hz
      clear e1 e2 hQ hz hHe
      cases hq : x.less z
      case false =>
        obtain ⟨f1, f2⟩ := ins_step (q := q) HC.out.1 HC.out.2 Hx.out (.inr ⟨z, by rw [show q - 1 = s by omega]; exact Hz.out, hq⟩) HU.out
        have Hf := Lib.hid (And.intro f1 f2)
        have hq' := Lib.hid hq
        clear f1 f2 HU HC hq S3
        go_wp2_with fail
        refine wp_region_still_tail 14 (by kernel_rfl) (by kernel_rfl) ?_
        simp only [List.take_succ_cons, List.take_zero, List.drop_succ_cons, List.drop_zero]
        change wpStill _ _ wr.drew _ _ _
        repeat still_step
        refine wpStill_nil ?_
        change wpList _ _ _ _ _ wr.drew
        go_wp2_with fail
        refine (compareRows_b x z false _ hq'.out).mono ?_
        rintro e w1 ⟨c, rfl, hc, hb1⟩
        have hH1 := hH.drew.below hb1
        have hg1 := gb_trans (gb_drew hg) (gb_of_below hb1 _)
        clear c0 c1 c2 d0 d1 d2 hH hg hb1
        go_wp2_with fail
        go_roundw
        case rel => exact ⟨i + 1, t + 1, _, by go_num, by omega, by omega, by omega, Hf, by simpa using hH1, hg1⟩
        case measure => simp [intOf]; omega
      have hq' := Lib.hid hq
      have HU2 : Hid (C1.length ≤ s ∨ ∃ z, C1[s]? = some z ∧ z.less x = false) := Lib.hid (.inr ⟨z, Hz.out, ordRow.asym _ _ hq⟩)
      clear hq HU
      go_wp2_with fail
      refine wp_region_still_tail 14 (by kernel_rfl) (by kernel_rfl) ?_
      simp only [List.take_succ_cons, List.take_zero, List.drop_succ_cons, List.drop_zero]
      change wpStill _ _ wr.drew _ _ _
      repeat still_step
      refine wpStill_nil ?_
      change wpList _ _ _ _ _ wr.drew
      go_wp2_with fail
      refine (compareRows_b x z true _ hq'.out).mono ?_
      rintro e w1 ⟨c, rfl, hc, hb1⟩
      have hH1 := hH.drew.below hb1
      have hg1 := gb_trans (gb_drew hg) (gb_of_below hb1 _)
      rw [E2.out] at hH1
      clear c0 c1 c2 d0 d1 d2 hH hg hb1
      have hQ : (P ++ C1.take s).length = p := by rw [List.length_append, Ha.out, List.length_take, HL.out]; omega
      obtain ⟨c0, c1, c2⟩ := hH1.cells (get_at z hQ)
      obtain ⟨d0, d1, d2⟩ := hH1.cells (get_at1 z x hQ)
      rw [Hpj.out] at d0 d1 d2
      have f := hH1.frozenAt
      have f0 := f (j * 3)
      have f1 := f (j * 3 + 1)
      have f2 := f (j * 3 + 2)
      have g0 := f (p * 3)
      have g1 := f (p * 3 + 1)
      have g2 := f (p * 3 + 2)
      have hpj : j ≠ p := by omega
      have H2 := ((hH1.put hj1 z).put hp1 x).drew
      rw [S3.out] at H2
      have G2 := gb_drew (gb_put (k := p) (gb_put (k := j) hg1 (.string z.key) (.int .i64 z.tag) (.string z.val)) (.string x.key) (.int .i64 x.tag) (.string x.val))
      clear f hH1 hg1 hQ
      go_wp2_with fail
      go_region
      go_wp2_with fail
      go_roundw
      case rel => exact ⟨p, s, by go_num, by omega, by omega, HU2, H2, G2⟩
      case measure => simp [intOf]; omega
end Go.Proofs.YtallcholbbfkdaaDoor
