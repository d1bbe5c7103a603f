/-
  laws.FnExactMergeJoin returns true for all arguments: impl.MergeJoin and spec.MergeJoin return the same, and each result of impl.MergeJoin owns its memory. No conditions.
-/
import Derived.Test.YtbcdpgjjfllgjaaMergeFns
import Derived.Test.YtbcdpgjjfllgjaaPairMarks
import Derived.Test.YtbcdpgjjfllgjaaMarkRows
import Derived.Test.YtbcdpgjjfllgjaaRowsMem
import Derived.Test.YtbcdpgjjfllgjaaSince
namespace Go.Proofs.Ytbcdpgjjfllgjaa
open Go.RowKit

set_option maxRecDepth 100000 in
set_option maxHeartbeats 4000000 in
theorem walk_ExactMergeJoin (a0 : Option Addr) (len0 cap0 : Nat) (x0 : List RowV) (a1 : Option Addr) (len1 cap1 : Nat) (x1 : List RowV) (N2 : Int) (w : World) (hI0 : IsRows w a0 len0 cap0 x0) (hI1 : IsRows w a1 len1 cap1 x1) (_ : (Lit.int .i64 N2).wf = true) :
    Calls Try.prog 4 #[.slice a0 len0 cap0, .slice a1 len1 cap1, .int .i64 N2] w fun e w' => e = .returned (.bool true) ∧ Below w.heap.size w w' := by
  obtain ⟨hlc0, hcm0, hok0, hR0⟩ := hI0
  obtain ⟨hlc1, hcm1, hok1, hR1⟩ := hI1
  have CS : ∀ (b0 : Option Addr) (c0 : Nat) (b1 : Option Addr) (c1 : Nat) (w : World), len0 ≤ 1048576 → Rd w w.heap.size 3 b0 len0 (flat x0) → len1 ≤ 1048576 → Rd w w.heap.size 3 b1 len1 (flat x1) → Calls Try.prog 24 #[.slice b0 len0 c0, .slice b1 len1 c1, .int .i64 N2] w fun e w' => ∃ a c, e = .returned (.tuple #[.slice a (mergeJoinS x0 x1 N2).length c, .bool (mergeJoinB x0 x1 N2)]) ∧ Below w.heap.size w w' ∧ w'.ownsRow w.heap.size 41 5 (.slice a (mergeJoinS x0 x1 N2).length c) (mergeJoinS x0 x1 N2).length (flatP (mergeJoinS x0 x1 N2)) := fun b0 c0 b1 c1 w m0 d0 m1 d1 => specMergeJoin_any b0 len0 c0 x0 b1 len1 c1 x1 N2 w  m0 hok0 d0 m1 hok1 d1
  have CI : ∀ (b0 : Option Addr) (c0 : Nat) (b1 : Option Addr) (c1 : Nat) (w : World), len0 ≤ c0 → len1 ≤ c1 → len0 ≤ 1048576 → Rd w w.heap.size 3 b0 len0 (flat x0) → len1 ≤ 1048576 → Rd w w.heap.size 3 b1 len1 (flat x1) → Calls Try.prog 25 #[.slice b0 len0 c0, .slice b1 len1 c1, .int .i64 N2] w fun e w' => ∃ a c, e = .returned (.tuple #[.slice a (mergeJoinS x0 x1 N2).length c, .bool (mergeJoinB x0 x1 N2)]) ∧ Below w.heap.size w w' ∧ w'.ownsRow w.heap.size 41 5 (.slice a (mergeJoinS x0 x1 N2).length c) (mergeJoinS x0 x1 N2).length (flatP (mergeJoinS x0 x1 N2)) := fun b0 c0 b1 c1 w g0 g1 m0 d0 m1 d1 => implMergeJoin_any b0 len0 c0 x0 b1 len1 c1 x1 N2 w g0 g1 m0 hok0 d0 m1 hok1 d1
  have hsl := mergeJoinS_le x0 x1 N2
  generalize (mergeJoinB x0 x1 N2) = ok at CS CI
  generalize mergeJoinS x0 x1 N2 = ss at CS CI hsl
  have hsm := hsl
  clear hsl
  generalize hln : ss.length = m at CS CI hsm
  clear hln
  go_enter Try.func4, Try.ntmps4
  have B0 := Below.refl w.heap.size w
  go_wp2_with fail
  refine (szRowS_any a0 len0 cap0 x0 _ _ (by omega) hok0 ((hR0.below B0 (Nat.le_refl _)).more B0.size) (by omega) (by omega)).mono ?_
  rintro e w1 ⟨z1, rfl, hb, hz⟩
  rcases hz with rfl | ⟨hz0_0, hz1_0, hz2_0⟩
  · go_wp2_with fail
    go_ret
    exact ⟨rfl, B0.trans (hb.mono B0.size)⟩
  have B1 := B0.trans (hb.mono B0.size)
  have s1 : w.heap.size ≤ w1.heap.size := hb.size
  clear hb B0
  have hm0 : len0 ≤ 1048576 := by omega
  go_wp2_with fail
  refine (szRowS_any a1 len1 cap1 x1 _ _ (by omega) hok1 ((hR1.below B1 (Nat.le_refl _)).more B1.size) (by omega) (by omega)).mono ?_
  rintro e w2 ⟨z2, rfl, hb, hz⟩
  rcases hz with rfl | ⟨hz0_1, hz1_1, hz2_1⟩
  · go_wp2_with fail
    go_ret
    exact ⟨rfl, B1.trans (hb.mono B1.size)⟩
  have B2 := B1.trans (hb.mono B1.size)
  have s2 : w1.heap.size ≤ w2.heap.size := hb.size
  clear hb B1
  have hm1 : len1 ≤ 1048576 := by omega
  go_wp2_with fail
  refine (toRowS_any a0 len0 cap0 x0 _ hm0 ((hR0.below B2 (Nat.le_refl _)).more B2.size)).mono ?_
  rintro e w3 ⟨rfl, hb, hO⟩
  have B3 := B2.trans (hb.mono B2.size)
  have s3 : w2.heap.size ≤ w3.heap.size := hb.size
  clear hb B2
  have S0_3 := hO
  clear hO
  go_wp2_with fail
  refine (toRowS_any a1 len1 cap1 x1 _ hm1 ((hR1.below B3 (Nat.le_refl _)).more B3.size)).mono ?_
  rintro e w4 ⟨rfl, hb, hO⟩
  have B4 := B3.trans (hb.mono B3.size)
  have s4 : w3.heap.size ≤ w4.heap.size := hb.size
  have S0_4 := own_below S0_3 hb
  clear S0_3
  clear hb B3
  have S1_4 := hO
  clear hO
  go_wp2_with fail
  refine (CS _ len0 _ len1 _ hm0 (Rd.of_own S0_4) hm1 (Rd.of_own S1_4)).mono ?_
  rintro e w5 ⟨aW, cW, rfl, hb, hO⟩
  have B5 := B4.trans (hb.mono B4.size)
  have s5 : w4.heap.size ≤ w5.heap.size := hb.size
  have S0_5 := own_below S0_4 hb
  clear S0_4
  have S1_5 := own_below S1_4 hb
  clear S1_4
  clear hb B4
  have V_5 := Rd.of_own hO
  clear hO CS
  clear S0_5
  clear S1_5
  go_wp2_with fail
  refine (toRowS_any a0 len0 cap0 x0 _ hm0 ((hR0.below B5 (Nat.le_refl _)).more B5.size)).mono ?_
  rintro e w6 ⟨rfl, hb, hO⟩
  have B6 := B5.trans (hb.mono B5.size)
  have s6 : w5.heap.size ≤ w6.heap.size := hb.size
  have V_6 := V_5.below hb (by omega)
  clear V_5
  clear hb B5
  have X0_6 := hO
  clear hO
  have hX0 : w5.heap.size < w6.heap.size := (own_ge X0_6 w5.heap.size rfl).2
  go_wp2_with fail
  refine (toRowS_any a1 len1 cap1 x1 _ hm1 ((hR1.below B6 (Nat.le_refl _)).more B6.size)).mono ?_
  rintro e w7 ⟨rfl, hb, hO⟩
  have B7 := B6.trans (hb.mono B6.size)
  have s7 : w6.heap.size ≤ w7.heap.size := hb.size
  have V_7 := V_6.below hb (by omega)
  clear V_6
  have X0_7 := own_below X0_6 hb
  clear X0_6
  clear hb B6
  have X1_7 := hO
  clear hO
  have hX1 : w6.heap.size < w7.heap.size := (own_ge X1_7 w6.heap.size rfl).2
  go_wp2_with fail
  refine (CI _ len0 _ len1 _ (Nat.le_refl _) (Nat.le_refl _) hm0 (Rd.of_own X0_7) hm1 (Rd.of_own X1_7)).mono ?_
  rintro e w8 ⟨aG, cG, rfl, hb, hO⟩
  have B8 := B7.trans (hb.mono B7.size)
  have s8 : w7.heap.size ≤ w8.heap.size := hb.size
  have V_8 := V_7.below hb (by omega)
  clear V_7
  have X0_8 := own_below X0_7 hb
  clear X0_7
  have X1_8 := own_below X1_7 hb
  clear X1_7
  clear hb B7
  have G_8 := hO
  clear hO
  go_wp2_with fail
  refine (eqPairS_same aG aW m cG cW ss _ (by omega) (Rd.of_own G_8) (V_8.more (by omega))).mono ?_
  rintro e w9 ⟨rfl, hb⟩
  have B9 := B8.trans (hb.mono B8.size)
  have s9 : w8.heap.size ≤ w9.heap.size := hb.size
  have V_9 := V_8.below hb (by omega)
  clear V_8
  have X0_9 := own_below X0_8 hb
  clear X0_8
  have X1_9 := own_below X1_8 hb
  clear X1_8
  have G_9 := own_below G_8 hb
  clear G_8
  clear hb B8
  go_wp2_with fail
  refine (toRowS_any a0 len0 cap0 x0 _ hm0 ((hR0.below B9 (Nat.le_refl _)).more B9.size)).mono ?_
  rintro e w10 ⟨rfl, hb, hO⟩
  have B10 := B9.trans (hb.mono B9.size)
  have s10 : w9.heap.size ≤ w10.heap.size := hb.size
  have V_10 := V_9.below hb (by omega)
  clear V_9
  have X0_10 := own_below X0_9 hb
  clear X0_9
  have X1_10 := own_below X1_9 hb
  clear X1_9
  have G_10 := own_below G_9 hb
  clear G_9
  clear hb B9
  have Y0_10 := hO
  clear hO
  go_wp2_with fail
  refine (eqRowS_same _ _ len0 len0 len0 x0 _ hm0 (Rd.of_own X0_10) (Rd.of_own Y0_10)).mono ?_
  rintro e w11 ⟨rfl, hb⟩
  have B11 := B10.trans (hb.mono B10.size)
  have s11 : w10.heap.size ≤ w11.heap.size := hb.size
  have V_11 := V_10.below hb (by omega)
  clear V_10
  have X0_11 := own_below X0_10 hb
  clear X0_10
  have X1_11 := own_below X1_10 hb
  clear X1_10
  have G_11 := own_below G_10 hb
  clear G_10
  have Y0_11 := own_below Y0_10 hb
  clear Y0_10
  clear hb B10
  clear Y0_11
  go_wp2_with fail
  refine (toRowS_any a1 len1 cap1 x1 _ hm1 ((hR1.below B11 (Nat.le_refl _)).more B11.size)).mono ?_
  rintro e w12 ⟨rfl, hb, hO⟩
  have B12 := B11.trans (hb.mono B11.size)
  have s12 : w11.heap.size ≤ w12.heap.size := hb.size
  have V_12 := V_11.below hb (by omega)
  clear V_11
  have X0_12 := own_below X0_11 hb
  clear X0_11
  have X1_12 := own_below X1_11 hb
  clear X1_11
  have G_12 := own_below G_11 hb
  clear G_11
  clear hb B11
  have Y1_12 := hO
  clear hO
  go_wp2_with fail
  refine (eqRowS_same _ _ len1 len1 len1 x1 _ hm1 (Rd.of_own X1_12) (Rd.of_own Y1_12)).mono ?_
  rintro e w13 ⟨rfl, hb⟩
  have B13 := B12.trans (hb.mono B12.size)
  have s13 : w12.heap.size ≤ w13.heap.size := hb.size
  have V_13 := V_12.below hb (by omega)
  clear V_12
  have X0_13 := own_below X0_12 hb
  clear X0_12
  have X1_13 := own_below X1_12 hb
  clear X1_12
  have G_13 := own_below G_12 hb
  clear G_12
  have Y1_13 := own_below Y1_12 hb
  clear Y1_12
  clear hb B12
  clear Y1_13
  go_wp2_with fail
  refine (markRowS_any _ len0 len0 1 w5.heap.size _ _ hm0 (by omega) (by omega) X0_13).mono ?_
  rintro e w14 ⟨rfl, _, hg⟩
  have hS : Since w5.heap.size w6.heap.size w13 w14 := Since.of_gb hg (fun g e => by
    have e1 : w5.heap.size = g := by injection e
    omega)
  clear hg
  clear X0_13
  have s14 : w13.heap.size ≤ w14.heap.size := hS.size
  have B14 := B13.trans (hS.below (B := w.heap.size) (by have := B13.size; omega) B13.size)
  have V_14 := V_13.below (hS.below (B := w5.heap.size) (by omega) (by omega)) (Nat.le_refl _)
  clear V_13
  have X1_14 := Since.own X1_13 hS (by omega)
  clear X1_13
  have G_14 := Since.own G_13 hS (by omega)
  clear G_13
  clear hS B13
  go_wp2_with fail
  rw [show ((1 : Int) + 3 * (len0 : Int)) = ((1 + 3 * len0 : Nat) : Int) by omega]
  refine (markRowS_any _ len1 len1 (1 + 3 * len0) w6.heap.size _ _ hm1 (by omega) (by omega) X1_14).mono ?_
  rintro e w15 ⟨rfl, _, hg⟩
  have hS : Since w6.heap.size w7.heap.size w14 w15 := Since.of_gb hg (fun g e => by
    have e1 : w6.heap.size = g := by injection e
    omega)
  clear hg
  clear X1_14
  have s15 : w14.heap.size ≤ w15.heap.size := hS.size
  have B15 := B14.trans (hS.below (B := w.heap.size) (by have := B14.size; omega) B14.size)
  have V_15 := V_14.below (hS.below (B := w5.heap.size) (by omega) (by omega)) (Nat.le_refl _)
  clear V_14
  have G_15 := Since.own G_14 hS (by omega)
  clear G_14
  clear hS B14
  go_wp2_with fail
  refine (eqPairS_same aG aW m cG cW ss _ (by omega) (Rd.of_own G_15) (V_15.more (by omega))).mono ?_
  rintro e w16 ⟨rfl, hb⟩
  have B16 := B15.trans (hb.mono B15.size)
  have s16 : w15.heap.size ≤ w16.heap.size := hb.size
  have V_16 := V_15.below hb (by omega)
  clear V_15
  have G_16 := own_below G_15 hb
  clear G_15
  clear hb B15
  go_wp2_with fail
  refine (markPairS_any aG m cG 1 w7.heap.size _ _ (by omega) (by omega) (by omega) G_16).mono ?_
  rintro e w17 ⟨rfl, hG2, hg⟩
  have hS : Since w7.heap.size w16.heap.size w16 w17 := Since.of_gb hg (fun g e => own_ge G_16 g e)
  clear hg
  clear G_16
  have s17 : w16.heap.size ≤ w17.heap.size := hS.size
  have B17 := B16.trans (hS.below (B := w.heap.size) (by have := B16.size; omega) B16.size)
  have V_17 := V_16.below (hS.below (B := w5.heap.size) (by omega) (by omega)) (Nat.le_refl _)
  clear V_16
  clear hS B16
  have Z_17 := Rd.of_own hG2
  clear hG2
  go_wp2_with fail
  refine (heldPairS_any aG m cG 1 _ (by omega) (by omega) (by omega) (Z_17.more (by omega))).mono ?_
  rintro e w18 ⟨rfl, hb⟩
  have B18 := B17.trans (hb.mono B17.size)
  have s18 : w17.heap.size ≤ w18.heap.size := hb.size
  have V_18 := V_17.below hb (by omega)
  clear V_17
  have Z_18 := Z_17.below hb (by omega)
  clear Z_17
  clear hb B17
  go_wp2_with fail
  refine (toRowS_any a0 len0 cap0 x0 _ hm0 ((hR0.below B18 (Nat.le_refl _)).more B18.size)).mono ?_
  rintro e w19 ⟨rfl, hb, hO⟩
  have B19 := B18.trans (hb.mono B18.size)
  have s19 : w18.heap.size ≤ w19.heap.size := hb.size
  have V_19 := V_18.below hb (by omega)
  clear V_18
  have Z_19 := Z_18.below hb (by omega)
  clear Z_18
  clear hb B18
  have Q0_19 := hO
  clear hO
  go_wp2_with fail
  refine (toRowS_any a1 len1 cap1 x1 _ hm1 ((hR1.below B19 (Nat.le_refl _)).more B19.size)).mono ?_
  rintro e w20 ⟨rfl, hb, hO⟩
  have B20 := B19.trans (hb.mono B19.size)
  have s20 : w19.heap.size ≤ w20.heap.size := hb.size
  have V_20 := V_19.below hb (by omega)
  clear V_19
  have Z_20 := Z_19.below hb (by omega)
  clear Z_19
  have Q0_20 := own_below Q0_19 hb
  clear Q0_19
  clear hb B19
  have Q1_20 := hO
  clear hO
  go_wp2_with fail
  refine (CI _ len0 _ len1 _ (Nat.le_refl _) (Nat.le_refl _) hm0 (Rd.of_own Q0_20) hm1 (Rd.of_own Q1_20)).mono ?_
  rintro e w21 ⟨aH, cH, rfl, hb, hO⟩
  have B21 := B20.trans (hb.mono B20.size)
  have s21 : w20.heap.size ≤ w21.heap.size := hb.size
  have V_21 := V_20.below hb (by omega)
  clear V_20
  have Z_21 := Z_20.below hb (by omega)
  clear Z_20
  have Q0_21 := own_below Q0_20 hb
  clear Q0_20
  have Q1_21 := own_below Q1_20 hb
  clear Q1_20
  clear hb B20
  have H_21 := hO
  clear hO
  clear Q0_21
  clear Q1_21
  go_wp2_with fail
  refine (eqPairS_same aH aW m cH cW ss _ (by omega) (Rd.of_own H_21) (V_21.more (by omega))).mono ?_
  rintro e w22 ⟨rfl, hb⟩
  have B22 := B21.trans (hb.mono B21.size)
  have s22 : w21.heap.size ≤ w22.heap.size := hb.size
  have V_22 := V_21.below hb (by omega)
  clear V_21
  have Z_22 := Z_21.below hb (by omega)
  clear Z_21
  have H_22 := own_below H_21 hb
  clear H_21
  clear hb B21
  clear H_22
  clear V_22
  go_wp2_with fail
  refine (heldPairS_any aG m cG 1 _ (by omega) (by omega) (by omega) (Z_22.more (by omega))).mono ?_
  rintro e w23 ⟨rfl, hb⟩
  have B23 := B22.trans (hb.mono B22.size)
  have s23 : w22.heap.size ≤ w23.heap.size := hb.size
  have Z_23 := Z_22.below hb (by omega)
  clear Z_22
  clear hb B22
  go_wp2_with fail
  go_ret
  exact ⟨rfl, B23⟩
end Go.Proofs.Ytbcdpgjjfllgjaa
