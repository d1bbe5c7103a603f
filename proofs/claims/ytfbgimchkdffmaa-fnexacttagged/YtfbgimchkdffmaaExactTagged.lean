/-
  laws.FnExactTagged returns true for all arguments: impl.Tagged and spec.Tagged return the same, and each result of impl.Tagged owns its memory. No conditions.
-/
import Derived.Test.YtfbgimchkdffmaaTaggedFns
import Derived.Test.YtfbgimchkdffmaaMarkRows
import Derived.Test.YtfbgimchkdffmaaSince
namespace Go.Proofs.Ytfbgimchkdffmaa
open Go.RowKit

set_option maxRecDepth 100000 in
set_option maxHeartbeats 4000000 in
theorem walk_ExactTagged (a0 : Option Addr) (len0 cap0 : Nat) (x0 : List RowV) (N1 : Int) (w : World) (hI0 : IsRows w a0 len0 cap0 x0) (_ : (Lit.int .i64 N1).wf = true) :
    Calls Try.prog 3 #[.slice a0 len0 cap0, .int .i64 N1] w fun e w' => e = .returned (.bool true) ∧ Below w.heap.size w w' := by
  obtain ⟨hlc0, hcm0, hok0, hR0⟩ := hI0
  have CS : ∀ (b0 : Option Addr) (c0 : Nat) (w : World), len0 ≤ 1048576 → Rd w w.heap.size 3 b0 len0 (flat x0) → Calls Try.prog 16 #[.slice b0 len0 c0, .int .i64 N1] w fun e w' => ∃ a c, e = .returned (.slice a (taggedS x0 N1).length c) ∧ Below w.heap.size w w' ∧ w'.ownsRow w.heap.size 61 3 (.slice a (taggedS x0 N1).length c) (taggedS x0 N1).length (flat (taggedS x0 N1)) := fun b0 c0 w m0 d0 => specTagged_any b0 len0 c0 x0 N1 w  m0 hok0 d0
  have CI : ∀ (b0 : Option Addr) (c0 : Nat) (w : World), len0 ≤ 1048576 → Rd w w.heap.size 3 b0 len0 (flat x0) → Calls Try.prog 18 #[.slice b0 len0 c0, .int .i64 N1] w fun e w' => ∃ a c, e = .returned (.slice a (taggedS x0 N1).length c) ∧ Below w.heap.size w w' ∧ w'.ownsRow w.heap.size 61 3 (.slice a (taggedS x0 N1).length c) (taggedS x0 N1).length (flat (taggedS x0 N1)) := fun b0 c0 w m0 d0 => implTagged_any b0 len0 c0 x0 N1 w  m0 hok0 d0
  have hsl := taggedS_le x0 N1
  generalize taggedS x0 N1 = ss at CS CI hsl
  have hsm := hsl
  clear hsl
  generalize hln : ss.length = m at CS CI hsm
  clear hln
  go_enter Try.func3, Try.ntmps3
  have B0 := Below.refl w.heap.size w
  go_wp2_with fail
  refine (szRowS_any a0 len0 cap0 x0 _ _ (by omega) hok0 ((hR0.below B0 (Nat.le_refl _)).more B0.size) (by omega) (by omega)).mono ?_
  rintro e w1 ⟨z1, rfl, hb, hz⟩
  rcases hz with rfl | ⟨hz0_0, hz1_0, hz2_0⟩
  · go_wp2_with fail
    go_ret
    exact ⟨rfl, B0.trans (hb.mono B0.size)⟩
  have B1 := B0.trans (hb.mono B0.size)
  have s1 : w.heap.size ≤ w1.heap.size := hb.size
  clear hb B0
  have hm0 : len0 ≤ 1048576 := by omega
  go_wp2_with fail
  refine (toRowS_any a0 len0 cap0 x0 _ hm0 ((hR0.below B1 (Nat.le_refl _)).more B1.size)).mono ?_
  rintro e w2 ⟨rfl, hb, hO⟩
  have B2 := B1.trans (hb.mono B1.size)
  have s2 : w1.heap.size ≤ w2.heap.size := hb.size
  clear hb B1
  have S0_2 := hO
  clear hO
  go_wp2_with fail
  refine (CS _ len0 _ hm0 (Rd.of_own S0_2)).mono ?_
  rintro e w3 ⟨aW, cW, rfl, hb, hO⟩
  have B3 := B2.trans (hb.mono B2.size)
  have s3 : w2.heap.size ≤ w3.heap.size := hb.size
  have S0_3 := own_below S0_2 hb
  clear S0_2
  clear hb B2
  have V_3 := Rd.of_own hO
  clear hO CS
  clear S0_3
  go_wp2_with fail
  refine (toRowS_any a0 len0 cap0 x0 _ hm0 ((hR0.below B3 (Nat.le_refl _)).more B3.size)).mono ?_
  rintro e w4 ⟨rfl, hb, hO⟩
  have B4 := B3.trans (hb.mono B3.size)
  have s4 : w3.heap.size ≤ w4.heap.size := hb.size
  have V_4 := V_3.below hb (by omega)
  clear V_3
  clear hb B3
  have X0_4 := hO
  clear hO
  have hX0 : w3.heap.size < w4.heap.size := (own_ge X0_4 w3.heap.size rfl).2
  go_wp2_with fail
  refine (CI _ len0 _ hm0 (Rd.of_own X0_4)).mono ?_
  rintro e w5 ⟨aG, cG, rfl, hb, hO⟩
  have B5 := B4.trans (hb.mono B4.size)
  have s5 : w4.heap.size ≤ w5.heap.size := hb.size
  have V_5 := V_4.below hb (by omega)
  clear V_4
  have X0_5 := own_below X0_4 hb
  clear X0_4
  clear hb B4
  have G_5 := hO
  clear hO
  go_wp2_with fail
  refine (eqRowS_same aG aW m cG cW ss _ (by omega) (Rd.of_own G_5) (V_5.more (by omega))).mono ?_
  rintro e w6 ⟨rfl, hb⟩
  have B6 := B5.trans (hb.mono B5.size)
  have s6 : w5.heap.size ≤ w6.heap.size := hb.size
  have V_6 := V_5.below hb (by omega)
  clear V_5
  have X0_6 := own_below X0_5 hb
  clear X0_5
  have G_6 := own_below G_5 hb
  clear G_5
  clear hb B5
  go_wp2_with fail
  refine (toRowS_any a0 len0 cap0 x0 _ hm0 ((hR0.below B6 (Nat.le_refl _)).more B6.size)).mono ?_
  rintro e w7 ⟨rfl, hb, hO⟩
  have B7 := B6.trans (hb.mono B6.size)
  have s7 : w6.heap.size ≤ w7.heap.size := hb.size
  have V_7 := V_6.below hb (by omega)
  clear V_6
  have X0_7 := own_below X0_6 hb
  clear X0_6
  have G_7 := own_below G_6 hb
  clear G_6
  clear hb B6
  have Y0_7 := hO
  clear hO
  go_wp2_with fail
  refine (eqRowS_same _ _ len0 len0 len0 x0 _ hm0 (Rd.of_own X0_7) (Rd.of_own Y0_7)).mono ?_
  rintro e w8 ⟨rfl, hb⟩
  have B8 := B7.trans (hb.mono B7.size)
  have s8 : w7.heap.size ≤ w8.heap.size := hb.size
  have V_8 := V_7.below hb (by omega)
  clear V_7
  have X0_8 := own_below X0_7 hb
  clear X0_7
  have G_8 := own_below G_7 hb
  clear G_7
  have Y0_8 := own_below Y0_7 hb
  clear Y0_7
  clear hb B7
  clear Y0_8
  go_wp2_with fail
  refine (markRowS_any _ len0 len0 1 w3.heap.size _ _ hm0 (by omega) (by omega) X0_8).mono ?_
  rintro e w9 ⟨rfl, _, hg⟩
  have hS : Since w3.heap.size w4.heap.size w8 w9 := Since.of_gb hg (fun g e => by
    have e1 : w3.heap.size = g := by injection e
    omega)
  clear hg
  clear X0_8
  have s9 : w8.heap.size ≤ w9.heap.size := hS.size
  have B9 := B8.trans (hS.below (B := w.heap.size) (by have := B8.size; omega) B8.size)
  have V_9 := V_8.below (hS.below (B := w3.heap.size) (by omega) (by omega)) (Nat.le_refl _)
  clear V_8
  have G_9 := Since.own G_8 hS (by omega)
  clear G_8
  clear hS B8
  go_wp2_with fail
  refine (eqRowS_same aG aW m cG cW ss _ (by omega) (Rd.of_own G_9) (V_9.more (by omega))).mono ?_
  rintro e w10 ⟨rfl, hb⟩
  have B10 := B9.trans (hb.mono B9.size)
  have s10 : w9.heap.size ≤ w10.heap.size := hb.size
  have V_10 := V_9.below hb (by omega)
  clear V_9
  have G_10 := own_below G_9 hb
  clear G_9
  clear hb B9
  go_wp2_with fail
  refine (markRowS_any aG m cG 1 w4.heap.size _ _ (by omega) (by omega) (by omega) G_10).mono ?_
  rintro e w11 ⟨rfl, hG2, hg⟩
  have hS : Since w4.heap.size w10.heap.size w10 w11 := Since.of_gb hg (fun g e => own_ge G_10 g e)
  clear hg
  clear G_10
  have s11 : w10.heap.size ≤ w11.heap.size := hS.size
  have B11 := B10.trans (hS.below (B := w.heap.size) (by have := B10.size; omega) B10.size)
  have V_11 := V_10.below (hS.below (B := w3.heap.size) (by omega) (by omega)) (Nat.le_refl _)
  clear V_10
  clear hS B10
  have Z_11 := Rd.of_own hG2
  clear hG2
  go_wp2_with fail
  refine (heldRowS_any aG m cG 1 _ (by omega) (by omega) (by omega) (Z_11.more (by omega))).mono ?_
  rintro e w12 ⟨rfl, hb⟩
  have B12 := B11.trans (hb.mono B11.size)
  have s12 : w11.heap.size ≤ w12.heap.size := hb.size
  have V_12 := V_11.below hb (by omega)
  clear V_11
  have Z_12 := Z_11.below hb (by omega)
  clear Z_11
  clear hb B11
  go_wp2_with fail
  refine (toRowS_any a0 len0 cap0 x0 _ hm0 ((hR0.below B12 (Nat.le_refl _)).more B12.size)).mono ?_
  rintro e w13 ⟨rfl, hb, hO⟩
  have B13 := B12.trans (hb.mono B12.size)
  have s13 : w12.heap.size ≤ w13.heap.size := hb.size
  have V_13 := V_12.below hb (by omega)
  clear V_12
  have Z_13 := Z_12.below hb (by omega)
  clear Z_12
  clear hb B12
  have Q0_13 := hO
  clear hO
  go_wp2_with fail
  refine (CI _ len0 _ hm0 (Rd.of_own Q0_13)).mono ?_
  rintro e w14 ⟨aH, cH, rfl, hb, hO⟩
  have B14 := B13.trans (hb.mono B13.size)
  have s14 : w13.heap.size ≤ w14.heap.size := hb.size
  have V_14 := V_13.below hb (by omega)
  clear V_13
  have Z_14 := Z_13.below hb (by omega)
  clear Z_13
  have Q0_14 := own_below Q0_13 hb
  clear Q0_13
  clear hb B13
  have H_14 := hO
  clear hO
  clear Q0_14
  go_wp2_with fail
  refine (eqRowS_same aH aW m cH cW ss _ (by omega) (Rd.of_own H_14) (V_14.more (by omega))).mono ?_
  rintro e w15 ⟨rfl, hb⟩
  have B15 := B14.trans (hb.mono B14.size)
  have s15 : w14.heap.size ≤ w15.heap.size := hb.size
  have V_15 := V_14.below hb (by omega)
  clear V_14
  have Z_15 := Z_14.below hb (by omega)
  clear Z_14
  have H_15 := own_below H_14 hb
  clear H_14
  clear hb B14
  clear H_15
  clear V_15
  go_wp2_with fail
  refine (heldRowS_any aG m cG 1 _ (by omega) (by omega) (by omega) (Z_15.more (by omega))).mono ?_
  rintro e w16 ⟨rfl, hb⟩
  have B16 := B15.trans (hb.mono B15.size)
  have s16 : w15.heap.size ≤ w16.heap.size := hb.size
  have Z_16 := Z_15.below hb (by omega)
  clear Z_15
  clear hb B15
  go_wp2_with fail
  go_ret
  exact ⟨rfl, B16⟩
end Go.Proofs.Ytfbgimchkdffmaa
