/-
  slices.stableCmpFunc and slices.SortStableFunc at rows with impl.compareRows by their contracts: the rows become sortL of them. Condition: at most 1048576 rows.
-/
import Derived.Test.YtallcholbbfkdaaDoorSymMerge
import Derived.Test.YtallcholbbfkdaaDoorInsertion
namespace Go.Proofs.YtallcholbbfkdaaDoor
open Go.RowKit

/-- Blocks of k rows, each in order; the last may be shorter. -/
inductive Blk (k : Nat) : List RowV → Prop
  | last (X : List RowV) : Asc RowV.less X → X.length ≤ k → Blk k X
  | cons (X R : List RowV) : Asc RowV.less X → X.length = k → Blk k R → Blk k (X ++ R)
/-- Whole blocks of k rows, each in order. -/
inductive Full (k : Nat) : List RowV → Prop
  | nil : Full k []
  | snoc (F X : List RowV) : Full k F → Asc RowV.less X → X.length = k → Full k (F ++ X)
theorem Full.blk {k : Nat} {F : List RowV} (h : Full k F) : ∀ {R : List RowV}, Blk k R → Blk k (F ++ R) := by
  induction h with
  | nil => intro R hR; exact hR
  | snoc F X _ hX hl ih => intro R hR; rw [List.append_assoc]; exact ih (.cons X R hX hl hR)
theorem Blk.split {k : Nat} {R : List RowV} (h : Blk k R) (hk : k < R.length) : ∃ X S, R = X ++ S ∧ X.length = k ∧ Asc RowV.less X ∧ Blk k S := by
  cases h with
  | last X _ hl => omega
  | cons X R hX hl hR => exact ⟨X, R, rfl, hl, hX, hR⟩
theorem Blk.whole {k : Nat} {R : List RowV} (h : Blk k R) (hk : R.length ≤ k) : Asc RowV.less R := by
  induction h with
  | last X hX _ => exact hX
  | cons X R hX hl _ ih =>
    rw [List.length_append] at hk
    have : R = [] := List.length_eq_zero_iff.1 (by omega)
    rw [this, List.append_nil]; exact hX
theorem Blk.two {k : Nat} {R : List RowV} (h : Blk k R) (h0 : 0 < k) (hk : 2 * k ≤ R.length) : ∃ X Y S, R = X ++ (Y ++ S) ∧ X.length = k ∧ Y.length = k ∧ Asc RowV.less X ∧ Asc RowV.less Y ∧ Blk k S := by
  obtain ⟨X, S, rfl, hl, hX, hS⟩ := h.split (by omega)
  rw [List.length_append] at hk
  rcases Nat.lt_or_ge k S.length with h1 | h1
  · obtain ⟨Y, S', rfl, hl', hY, hS'⟩ := hS.split h1
    exact ⟨X, Y, S', rfl, hl, hl', hX, hY, hS'⟩
  · exact ⟨X, S, [], by simp, hl, by omega, hX, hS.whole h1, .last [] Asc.nil (Nat.zero_le _)⟩
set_option maxRecDepth 100000 in
set_option maxHeartbeats 4000000 in
theorem stable_any (g cap N base : Nat) (D : List RowV) (w : World) (hN : N ≤ 1048576) (hO : Holds w base g cap N D) :
    Calls Tryd.prog 114 #[.slice (some ⟨g, 0, none⟩) N cap, .int .i64 N, .func (.func 60) #[] #[]] w fun e w' => e = .returned (.tuple #[]) ∧ Holds w' base g cap N (sortL D) ∧ w.grownBy w' (some g) := by
  have HD := Lib.hid hO.len
  go_enter Tryd.func114, Tryd.ntmps114
  go_wp2
  go_loopw [7, 8] (fun va vb wr => ∃ (a b : Nat) (F R : List RowV), va = .int .i64 a ∧ vb = .int .i64 b ∧ (a + 20 ≤ b ∧ b ≤ a + 20) ∧ a ≤ N ∧ Hid (F.length = a ∧ Full 20 F ∧ (F ++ R).Perm D) ∧ Holds wr base g cap N (F ++ R) ∧ w.grownBy wr (some g)) (fun va _ _ => N - (intOf va).toNat)
  case atStart => exact ⟨0, 20, [], D, rfl, rfl, by omega, Nat.zero_le _, Lib.hid ⟨rfl, .nil, List.Perm.refl _⟩, hO, World.grownBy.refl _ _⟩
  case round =>
    obtain ⟨a, b, F, R, rfl, rfl, hab, haN, HF, hH, hg⟩ := hrel
    clear hO
    have hRl : R.length + a = N := by have := hH.len; rw [List.length_append, HF.out.1] at this; omega
    have HR := Lib.hid hRl
    clear hRl
    by_cases hle : b ≤ N
    · go_wp2_with fail
      refine (insertion_any g cap N a b base F (R.take 20) (R.drop 20) _ hN HF.out.1 (by rw [List.length_take]; have := HR.out; omega) (by rw [List.take_append_drop]; exact hH)).mono ?_
      rintro e w1 ⟨rfl, C, aC, pC, hH1, hg1⟩
      have hg2 := gb_trans hg hg1
      have lC : C.length = 20 := by rw [pC.length_eq, List.length_take]; have := HR.out; omega
      have HF2 := Lib.hid (show (F ++ C).length = b ∧ Full 20 (F ++ C) ∧ ((F ++ C) ++ R.drop 20).Perm D from ⟨by rw [List.length_append, HF.out.1, lC]; omega, .snoc F C HF.out.2.1 aC lC, by
        refine List.Perm.trans ?_ HF.out.2.2
        rw [List.append_assoc]
        refine List.Perm.append_left F ?_
        conv => rhs; rw [← List.take_append_drop 20 R]
        exact pC.append_right _⟩)
      rw [← List.append_assoc] at hH1
      clear hH hg hg1 pC aC lC
      go_wp2_with fail
      go_roundw
      case rel => exact ⟨b, b + 20, F ++ C, R.drop 20, by go_num, by go_num, by omega, hle, HF2, hH1, hg2⟩
      case measure => simp [intOf]; omega
    · go_wp2_with fail
      refine (insertion_any g cap N a N base F R [] _ hN HF.out.1 (by have := HR.out; omega) (by rw [List.append_nil]; exact hH)).mono ?_
      rintro e w1 ⟨rfl, C, aC, pC, hH1, hg1⟩
      have hg2 := gb_trans hg hg1
      have lC : C.length ≤ 20 := by rw [pC.length_eq]; have := HR.out; omega
      rw [List.append_nil] at hH1
      have hB : Blk 20 (F ++ C) := HF.out.2.1.blk (.last C aC lC)
      have hPm : (F ++ C).Perm D := (List.Perm.append_left F pC).trans HF.out.2.2
      clear hH hg hg1 pC aC lC
      generalize F ++ C = d at *
      have H0 := Lib.hid (And.intro hB hPm)
      clear hB hPm HF HR
      obtain ⟨w0, hw0⟩ : ∃ x, x = w1 := ⟨_, rfl⟩
      subst hw0
      go_wp2_with fail
      go_loopw [6] (fun vk wr => ∃ (k : Nat) (d : List RowV), vk = .int .i64 k ∧ 0 < k ∧ k ≤ 4194304 ∧ Hid (Blk k d ∧ d.Perm D) ∧ Holds wr base g cap N d ∧ w.grownBy wr (some g)) (fun vk _ => N - (intOf vk).toNat)
      case atStart => exact ⟨20, d, rfl, by omega, by omega, H0, hH1, hg2⟩
      case round =>
        obtain ⟨k, d, rfl, hk0, hk1, HB, hH, hg⟩ := hrel
        clear hH1 hg2 H0
        by_cases hkn : k < N
        case neg =>
          have hd : d = sortL D := sortL_unique (HB.out.1.whole (by rw [hH.len]; omega)) HB.out.2
          rw [hd] at hH
          clear hd HB
          go_wp2_with fail
          go_end0
          exact ⟨rfl, hH, hg⟩
        obtain ⟨w0, hw0⟩ : ∃ x, x = wr := ⟨_, rfl⟩
        subst hw0
        have hdk : decide (k < N) = true := by simp; omega
        go_wp2_with fail
        go_loopw [7, 8] (fun va vb wr => ∃ (a b : Nat) (F R : List RowV), va = .int .i64 a ∧ vb = .int .i64 b ∧ (a + 2 * k ≤ b ∧ b ≤ a + 2 * k) ∧ a ≤ N ∧ Hid (F.length = a ∧ Full (2 * k) F ∧ Blk k R ∧ (F ++ R).Perm D) ∧ Holds wr base g cap N (F ++ R) ∧ w.grownBy wr (some g)) (fun va _ _ => N - (intOf va).toNat)
        case atStart => exact ⟨0, 2 * k, [], d, by go_num, by go_num, by omega, Nat.zero_le _, Lib.hid ⟨rfl, .nil, HB.out.1, HB.out.2⟩, hH, hg⟩
        case round =>
          obtain ⟨a, b, F, R, rfl, rfl, hab, haN, HF, hH, hg⟩ := hrel
          have HR := Lib.hid (show R.length + a = N by have := hH.len; rw [List.length_append, HF.out.1] at this; omega)
          by_cases hle : b ≤ N
          · obtain ⟨X, Y, S, hR, lX, lY, aX, aY, bS⟩ := HF.out.2.2.1.two hk0 (by have := HR.out; omega)
            rw [hR] at hH
            have HRe := Lib.hid hR
            have LX := Lib.hid lX
            have LY := Lib.hid lY
            obtain ⟨m, hm1, hm2⟩ : ∃ m : Nat, a + k ≤ m ∧ m ≤ a + k := ⟨a + k, by omega, by omega⟩
            clear hR lX lY
            go_wp2_with fail
            rw [show ((a : Int) + (k : Int)) = (m : Int) by omega]
            refine (symMerge_any g cap N base hN (b - a) a m b F X Y S _ (Nat.le_refl _) HF.out.1 (by rw [LX.out]; omega) (by rw [LY.out]; omega) (by rw [LX.out]; omega) (by rw [LY.out]; omega) aX aY hH).mono ?_
            rintro e w1 ⟨rfl, C, aC, pC, hH1, hg1⟩
            have hg2 := gb_trans hg hg1
            have lC : C.length = 2 * k := by rw [pC.length_eq, List.length_append, LX.out, LY.out]; omega
            have HF2 := Lib.hid (show (F ++ C).length = b ∧ Full (2 * k) (F ++ C) ∧ Blk k S ∧ ((F ++ C) ++ S).Perm D from ⟨by rw [List.length_append, HF.out.1, lC]; omega, .snoc F C HF.out.2.1 aC lC, bS, by
              refine List.Perm.trans ?_ HF.out.2.2.2
              rw [List.append_assoc, HRe.out]
              refine List.Perm.append_left F ?_
              rw [← List.append_assoc X]
              exact pC.append_right _⟩)
            rw [← List.append_assoc] at hH1
            clear hH hg hg1 pC aC lC aX aY bS
            go_wp2_with fail
            go_roundw
            case rel => exact ⟨b, b + 2 * k, F ++ C, S, by go_num, by go_num, by omega, hle, HF2, hH1, hg2⟩
            case measure => simp [intOf]; omega
          · obtain ⟨m, hm1, hm2⟩ : ∃ m : Nat, a + k ≤ m ∧ m ≤ a + k := ⟨a + k, by omega, by omega⟩
            by_cases hmN : m < N
            · obtain ⟨X, Y, hR, lX, aX, bY⟩ := HF.out.2.2.1.split (by have := HR.out; omega)
              have lY : Y.length + m = N := by have h1 := HR.out; rw [hR, List.length_append, lX] at h1; omega
              rw [hR] at hH
              have HRe := Lib.hid hR
              have LX := Lib.hid lX
              have LY := Lib.hid lY
              have aY := bY.whole (by omega)
              clear hR lX lY bY
              go_wp2_with fail
              rw [show ((a : Int) + (k : Int)) = (m : Int) by omega]
              refine (symMerge_any g cap N base hN (N - a) a m N F X Y [] _ (Nat.le_refl _) HF.out.1 (by rw [LX.out]; omega) (by have := LY.out; omega) (by rw [LX.out]; omega) (by have := LY.out; omega) aX aY (by rw [List.append_nil]; exact hH)).mono ?_
              rintro e w1 ⟨rfl, C, aC, pC, hH1, hg1⟩
              have hg2 := gb_trans hg hg1
              have lC : C.length ≤ 2 * k := by rw [pC.length_eq, List.length_append, LX.out]; have := LY.out; omega
              have HF2 := Lib.hid (show Blk (2 * k) (F ++ C) ∧ (F ++ C).Perm D from ⟨HF.out.2.1.blk (.last C aC lC), by
                refine List.Perm.trans ?_ HF.out.2.2.2
                rw [HRe.out]
                exact List.Perm.append_left F pC⟩)
              rw [List.append_nil] at hH1
              clear hH hg hg1 pC aC lC aX aY
              go_wp2_with fail
              go_roundw
              case rel => exact ⟨2 * k, F ++ C, by go_num, by omega, by omega, HF2, hH1, hg2⟩
              case measure => simp [intOf]; omega
            · have HF2 := Lib.hid (show Blk (2 * k) (F ++ R) ∧ (F ++ R).Perm D from ⟨HF.out.2.1.blk (.last R (HF.out.2.2.1.whole (by have := HR.out; omega)) (by have := HR.out; omega)), HF.out.2.2.2⟩)
              go_wp2_with fail
              go_roundw
              case rel => exact ⟨2 * k, F ++ R, by go_num, by omega, by omega, HF2, hH, hg⟩
              case measure => simp [intOf]; omega
end Go.Proofs.YtallcholbbfkdaaDoor
