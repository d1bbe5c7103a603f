/-
  laws.FnExactPassed returns true for all arguments: impl.Passed and spec.Passed return the same, and each result of impl.Passed owns its memory. No conditions.
-/
import Derived.Test.YtbpimgfaceanmaaPassedSpec
import Derived.Test.YtbpimgfaceanmaaOpenFilter
import Derived.Test.YtbpimgfaceanmaaExactFilterOk
import Derived.Test.YtbpimgfaceanmaaMarkRows
import Derived.Test.YtbpimgfaceanmaaSince
namespace Go.Proofs.Ytbpimgfaceanmaa
open Go.RowKit

set_option maxRecDepth 100000 in
set_option maxHeartbeats 4000000 in
theorem walk_ExactPassed (f0 : FilV) (a1 : Option Addr) (len1 cap1 : Nat) (x1 : List RowV) (w : World) (hF0 : f0.Ok) (hI1 : IsRows w a1 len1 cap1 x1) :
    Calls Try.prog 11 #[.agg #[.int .i64 f0.n, .string f0.bits], .slice a1 len1 cap1] w fun e w' => e = .returned (.bool true) ∧ Below w.heap.size w w' := by
  obtain ⟨N0, T0⟩ := f0
  obtain ⟨_, hT0⟩ := hF0
  obtain ⟨hlc1, hcm1, hok1, hR1⟩ := hI1
  have CS : ∀ (b1 : Option Addr) (c1 : Nat) (w : World), len1 ≤ 1048576 → Rd w w.heap.size 3 b1 len1 (flat x1) → Calls Try.prog 39 #[.agg #[.int .i64 N0, .string T0], .slice b1 len1 c1] w fun e w' => ∃ a c, e = .returned (.slice a (passedS N0 T0 x1).length c) ∧ Below w.heap.size w w' ∧ w'.ownsRow w.heap.size 84 3 (.slice a (passedS N0 T0 x1).length c) (passedS N0 T0 x1).length (flat (passedS N0 T0 x1)) := fun b1 c1 w m1 d1 => specPassed_any N0 T0 b1 len1 c1 x1 w hT0 m1 hok1 d1
  have CI : ∀ (b1 : Option Addr) (c1 : Nat) (w : World), len1 ≤ 1048576 → Rd w w.heap.size 3 b1 len1 (flat x1) → Calls Try.prog 40 #[.agg #[.int .i64 N0, .string T0], .slice b1 len1 c1] w fun e w' => ∃ a c, e = .returned (.slice a (passedS N0 T0 x1).length c) ∧ Below w.heap.size w w' ∧ w'.ownsRow w.heap.size 84 3 (.slice a (passedS N0 T0 x1).length c) (passedS N0 T0 x1).length (flat (passedS N0 T0 x1)) := fun b1 c1 w m1 d1 => implPassed_any N0 T0 b1 len1 c1 x1 w hT0 m1 hok1 d1
  have hsl := passedS_le N0 T0 x1
  generalize passedS N0 T0 x1 = ss at CS CI hsl
  have hsm := hsl
  clear hsl
  generalize hln : ss.length = m at CS CI hsm
  clear hln
  go_enter Try.func11, Try.ntmps11
  have B0 := Below.refl w.heap.size w
  have D_0 := At2.new w (.int .i64 N0) (.string T0) 23
  have hz_0 := szF_bd T0 1048576 (by omega) (by omega)
  have hb := bl1 w (.cells #[.int .i64 N0, .string T0] 23)
  have sD : w.heap.size < (w.alloc (.cells #[.int .i64 N0, .string T0] 23)).heap.size := by simp
  replace B0 := B0.trans (hb.mono B0.size)
  clear hb
  go_wp2_with fail
  generalize w.alloc (.cells #[.int .i64 N0, .string T0] 23) = v0 at *
  refine (szFilter_any N0 T0 _ _ hT0 (by omega) (by omega)).mono ?_
  rintro e w1 ⟨rfl, hb⟩
  have B1 := B0.trans (hb.mono B0.size)
  have D_1 := D_0.keep hb sD
  have s1 : w.heap.size < w1.heap.size := Nat.lt_of_lt_of_le sD hb.size
  clear hb B0 D_0 sD
  generalize szF T0 1048576 = y0 at *
  rcases hz_0 with rfl | ⟨hy0, hy1⟩
  · go_wp2_with fail
    go_ret
    exact ⟨rfl, B1⟩
  go_wp2_with fail
  refine (szRowS_any a1 len1 cap1 x1 _ _ (by omega) hok1 ((hR1.below B1 (Nat.le_refl _)).more B1.size) (by omega) (by omega)).mono ?_
  rintro e w2 ⟨z2, rfl, hb, hz⟩
  rcases hz with rfl | ⟨hz0_1, hz1_1, hz2_1⟩
  · go_wp2_with fail
    go_ret
    exact ⟨rfl, B1.trans (hb.mono B1.size)⟩
  have B2 := B1.trans (hb.mono B1.size)
  have s2 : w1.heap.size ≤ w2.heap.size := hb.size
  have D_2 := D_1.keep hb (by omega)
  clear D_1
  clear hb B1
  have hm1 : len1 ≤ 1048576 := by omega
  have ⟨g0, g1⟩ := D_2
  go_wp2_with fail
  refine (toFilter_any N0 T0 _).mono ?_
  rintro e w3 ⟨rfl, hb⟩
  clear g0 g1
  have B3 := B2.trans (hb.mono B2.size)
  have s3 : w2.heap.size ≤ w3.heap.size := hb.size
  have D_3 := D_2.keep hb (by omega)
  clear D_2
  clear hb B2
  go_wp2_with fail
  refine (toRowS_any a1 len1 cap1 x1 _ hm1 ((hR1.below B3 (Nat.le_refl _)).more B3.size)).mono ?_
  rintro e w4 ⟨rfl, hb, hO⟩
  have B4 := B3.trans (hb.mono B3.size)
  have s4 : w3.heap.size ≤ w4.heap.size := hb.size
  have D_4 := D_3.keep hb (by omega)
  clear D_3
  clear hb B3
  have S1_4 := hO
  clear hO
  go_wp2_with fail
  refine (CS _ len1 _ hm1 (Rd.of_own S1_4)).mono ?_
  rintro e w5 ⟨aW, cW, rfl, hb, hO⟩
  have B5 := B4.trans (hb.mono B4.size)
  have s5 : w4.heap.size ≤ w5.heap.size := hb.size
  have D_5 := D_4.keep hb (by omega)
  clear D_4
  have S1_5 := own_below S1_4 hb
  clear S1_4
  clear hb B4
  have V_5 := Rd.of_own hO
  clear hO CS
  clear S1_5
  go_wp2_with fail
  refine (toRowS_any a1 len1 cap1 x1 _ hm1 ((hR1.below B5 (Nat.le_refl _)).more B5.size)).mono ?_
  rintro e w6 ⟨rfl, hb, hO⟩
  have B6 := B5.trans (hb.mono B5.size)
  have s6 : w5.heap.size ≤ w6.heap.size := hb.size
  have D_6 := D_5.keep hb (by omega)
  clear D_5
  have V_6 := V_5.below hb (by omega)
  clear V_5
  clear hb B5
  have X1_6 := hO
  clear hO
  have hX1 : w5.heap.size < w6.heap.size := (own_ge X1_6 w5.heap.size rfl).2
  have ⟨g0, g1⟩ := D_6
  go_wp2_with fail
  refine (toFilter_any N0 T0 _).mono ?_
  rintro e w7 ⟨rfl, hb⟩
  clear g0 g1
  have B7 := B6.trans (hb.mono B6.size)
  have s7 : w6.heap.size ≤ w7.heap.size := hb.size
  have D_7 := D_6.keep hb (by omega)
  clear D_6
  have V_7 := V_6.below hb (by omega)
  clear V_6
  have X1_7 := own_below X1_6 hb
  clear X1_6
  clear hb B6
  go_wp2_with fail
  refine (CI _ len1 _ hm1 (Rd.of_own X1_7)).mono ?_
  rintro e w8 ⟨aG, cG, rfl, hb, hO⟩
  have B8 := B7.trans (hb.mono B7.size)
  have s8 : w7.heap.size ≤ w8.heap.size := hb.size
  have D_8 := D_7.keep hb (by omega)
  clear D_7
  have V_8 := V_7.below hb (by omega)
  clear V_7
  have X1_8 := own_below X1_7 hb
  clear X1_7
  clear hb B7
  have G_8 := hO
  clear hO
  go_wp2_with fail
  refine (eqRowS_same aG aW m cG cW ss _ (by omega) (Rd.of_own G_8) (V_8.more (by omega))).mono ?_
  rintro e w9 ⟨rfl, hb⟩
  have B9 := B8.trans (hb.mono B8.size)
  have s9 : w8.heap.size ≤ w9.heap.size := hb.size
  have D_9 := D_8.keep hb (by omega)
  clear D_8
  have V_9 := V_8.below hb (by omega)
  clear V_8
  have X1_9 := own_below X1_8 hb
  clear X1_8
  have G_9 := own_below G_8 hb
  clear G_8
  clear hb B8
  go_wp2_with fail
  refine (toRowS_any a1 len1 cap1 x1 _ hm1 ((hR1.below B9 (Nat.le_refl _)).more B9.size)).mono ?_
  rintro e w10 ⟨rfl, hb, hO⟩
  have B10 := B9.trans (hb.mono B9.size)
  have s10 : w9.heap.size ≤ w10.heap.size := hb.size
  have D_10 := D_9.keep hb (by omega)
  clear D_9
  have V_10 := V_9.below hb (by omega)
  clear V_9
  have X1_10 := own_below X1_9 hb
  clear X1_9
  have G_10 := own_below G_9 hb
  clear G_9
  clear hb B9
  have Y1_10 := hO
  clear hO
  go_wp2_with fail
  refine (eqRowS_same _ _ len1 len1 len1 x1 _ hm1 (Rd.of_own X1_10) (Rd.of_own Y1_10)).mono ?_
  rintro e w11 ⟨rfl, hb⟩
  have B11 := B10.trans (hb.mono B10.size)
  have s11 : w10.heap.size ≤ w11.heap.size := hb.size
  have D_11 := D_10.keep hb (by omega)
  clear D_10
  have V_11 := V_10.below hb (by omega)
  clear V_10
  have X1_11 := own_below X1_10 hb
  clear X1_10
  have G_11 := own_below G_10 hb
  clear G_10
  have Y1_11 := own_below Y1_10 hb
  clear Y1_10
  clear hb B10
  clear Y1_11
  go_wp2_with fail
  refine (markRowS_any _ len1 len1 1 w5.heap.size _ _ hm1 (by omega) (by omega) X1_11).mono ?_
  rintro e w12 ⟨rfl, _, hg⟩
  have hS : Since w5.heap.size w6.heap.size w11 w12 := Since.of_gb hg (fun g e => by
    have e1 : w5.heap.size = g := by injection e
    omega)
  clear hg
  clear X1_11
  have s12 : w11.heap.size ≤ w12.heap.size := hS.size
  have B12 := B11.trans (hS.below (B := w.heap.size) (by have := B11.size; omega) B11.size)
  have D_12 := D_11.below (hS.below (B := w.heap.size + 1) (by omega) (by omega)) (by omega)
  clear D_11
  have V_12 := V_11.below (hS.below (B := w5.heap.size) (by omega) (by omega)) (Nat.le_refl _)
  clear V_11
  have G_12 := Since.own G_11 hS (by omega)
  clear G_11
  clear hS B11
  go_wp2_with fail
  refine (eqRowS_same aG aW m cG cW ss _ (by omega) (Rd.of_own G_12) (V_12.more (by omega))).mono ?_
  rintro e w13 ⟨rfl, hb⟩
  have B13 := B12.trans (hb.mono B12.size)
  have s13 : w12.heap.size ≤ w13.heap.size := hb.size
  have D_13 := D_12.keep hb (by omega)
  clear D_12
  have V_13 := V_12.below hb (by omega)
  clear V_12
  have G_13 := own_below G_12 hb
  clear G_12
  clear hb B12
  go_wp2_with fail
  refine (markRowS_any aG m cG 1 w7.heap.size _ _ (by omega) (by omega) (by omega) G_13).mono ?_
  rintro e w14 ⟨rfl, hG2, hg⟩
  have hS : Since w7.heap.size w13.heap.size w13 w14 := Since.of_gb hg (fun g e => own_ge G_13 g e)
  clear hg
  clear G_13
  have s14 : w13.heap.size ≤ w14.heap.size := hS.size
  have B14 := B13.trans (hS.below (B := w.heap.size) (by have := B13.size; omega) B13.size)
  have D_14 := D_13.below (hS.below (B := w.heap.size + 1) (by omega) (by omega)) (by omega)
  clear D_13
  have V_14 := V_13.below (hS.below (B := w5.heap.size) (by omega) (by omega)) (Nat.le_refl _)
  clear V_13
  clear hS B13
  have Z_14 := Rd.of_own hG2
  clear hG2
  go_wp2_with fail
  refine (heldRowS_any aG m cG 1 _ (by omega) (by omega) (by omega) (Z_14.more (by omega))).mono ?_
  rintro e w15 ⟨rfl, hb⟩
  have B15 := B14.trans (hb.mono B14.size)
  have s15 : w14.heap.size ≤ w15.heap.size := hb.size
  have D_15 := D_14.keep hb (by omega)
  clear D_14
  have V_15 := V_14.below hb (by omega)
  clear V_14
  have Z_15 := Z_14.below hb (by omega)
  clear Z_14
  clear hb B14
  have ⟨g0, g1⟩ := D_15
  go_wp2_with fail
  refine (toFilter_any N0 T0 _).mono ?_
  rintro e w16 ⟨rfl, hb⟩
  clear g0 g1
  have B16 := B15.trans (hb.mono B15.size)
  have s16 : w15.heap.size ≤ w16.heap.size := hb.size
  have D_16 := D_15.keep hb (by omega)
  clear D_15
  have V_16 := V_15.below hb (by omega)
  clear V_15
  have Z_16 := Z_15.below hb (by omega)
  clear Z_15
  clear hb B15
  go_wp2_with fail
  refine (toRowS_any a1 len1 cap1 x1 _ hm1 ((hR1.below B16 (Nat.le_refl _)).more B16.size)).mono ?_
  rintro e w17 ⟨rfl, hb, hO⟩
  have B17 := B16.trans (hb.mono B16.size)
  have s17 : w16.heap.size ≤ w17.heap.size := hb.size
  have D_17 := D_16.keep hb (by omega)
  clear D_16
  have V_17 := V_16.below hb (by omega)
  clear V_16
  have Z_17 := Z_16.below hb (by omega)
  clear Z_16
  clear hb B16
  have Q1_17 := hO
  clear hO
  go_wp2_with fail
  refine (CI _ len1 _ hm1 (Rd.of_own Q1_17)).mono ?_
  rintro e w18 ⟨aH, cH, rfl, hb, hO⟩
  have B18 := B17.trans (hb.mono B17.size)
  have s18 : w17.heap.size ≤ w18.heap.size := hb.size
  have D_18 := D_17.keep hb (by omega)
  clear D_17
  have V_18 := V_17.below hb (by omega)
  clear V_17
  have Z_18 := Z_17.below hb (by omega)
  clear Z_17
  have Q1_18 := own_below Q1_17 hb
  clear Q1_17
  clear hb B17
  have H_18 := hO
  clear hO
  clear Q1_18
  go_wp2_with fail
  refine (eqRowS_same aH aW m cH cW ss _ (by omega) (Rd.of_own H_18) (V_18.more (by omega))).mono ?_
  rintro e w19 ⟨rfl, hb⟩
  have B19 := B18.trans (hb.mono B18.size)
  have s19 : w18.heap.size ≤ w19.heap.size := hb.size
  have D_19 := D_18.keep hb (by omega)
  clear D_18
  have V_19 := V_18.below hb (by omega)
  clear V_18
  have Z_19 := Z_18.below hb (by omega)
  clear Z_18
  have H_19 := own_below H_18 hb
  clear H_18
  clear hb B18
  clear H_19
  clear V_19
  go_wp2_with fail
  refine (heldRowS_any aG m cG 1 _ (by omega) (by omega) (by omega) (Z_19.more (by omega))).mono ?_
  rintro e w20 ⟨rfl, hb⟩
  have B20 := B19.trans (hb.mono B19.size)
  have s20 : w19.heap.size ≤ w20.heap.size := hb.size
  have D_20 := D_19.keep hb (by omega)
  clear D_19
  have Z_20 := Z_19.below hb (by omega)
  clear Z_19
  clear hb B19
  go_wp2_with fail
  go_ret
  exact ⟨rfl, B20⟩
end Go.Proofs.Ytbpimgfaceanmaa
