/-
  laws.FnExactTotalsOk returns true for every list of totals: impl.TotalsOk and spec.TotalsOk return the same bool and leave the totals as they were. No conditions.
-/
import Derived.Test.YtfndodaknejhfaaTotalsOkSpec
import Derived.Test.YtfndodaknejhfaaTotalsOkImpl
namespace Go.Proofs.Ytfndodaknejhfaa
open Go.RowKit

set_option maxRecDepth 100000 in
set_option maxHeartbeats 1000000 in
theorem walk_ExactTotalsOk (a : Option Addr) (len cap : Nat) (rs : List TotV) (w : World) (hI : IsTots w a len cap rs) :
    Calls Try.prog 13 #[.slice a len cap] w fun e w' => e = .returned (.bool true) ∧ Below w.heap.size w w' := by
  obtain ⟨hlc, hcm, hok, hR⟩ := hI
  go_enter Try.func13, Try.ntmps13
  go_wp2_with fail
  refine (szTotalS_any a len cap rs _ _ (by omega) hok hR (by omega) (by omega)).mono ?_
  rintro e w1 ⟨z, rfl, hb1, hz⟩
  rcases hz with rfl | ⟨hz0, hz1, hz2⟩
  · go_wp2_with fail
    go_ret
    exact ⟨rfl, hb1⟩
  have hm : len ≤ 1048576 := by omega
  have R1 := (hR.below hb1 (Nat.le_refl _)).more hb1.size
  go_wp2_with fail
  refine (toTotalS_any a len cap rs _ hm R1).mono ?_
  rintro e w2 ⟨rfl, hb2, hO2⟩
  have R2 := (R1.below hb2 (Nat.le_refl _)).more hb2.size
  have B2 := hb1.trans (hb2.mono hb1.size)
  go_wp2_with fail
  refine (specTotalsOk_any _ len len rs _ hm hok (Rd.of_own hO2)).mono ?_
  rintro e w3 ⟨rfl, hb3⟩
  have R3 := (R2.below hb3 (Nat.le_refl _)).more hb3.size
  have B3 := B2.trans (hb3.mono B2.size)
  clear hb1 hb2 hO2 R1 R2 B2 hb3
  go_wp2_with fail
  refine (toTotalS_any a len cap rs _ hm R3).mono ?_
  rintro e w4 ⟨rfl, hb4, hO4⟩
  have R4 := (R3.below hb4 (Nat.le_refl _)).more hb4.size
  have B4 := B3.trans (hb4.mono B3.size)
  have X4 := Rd.of_own hO4
  clear hb4 hO4 R3 B3
  go_wp2_with fail
  refine (implTotalsOk_any _ len len rs _ hm hok X4).mono ?_
  rintro e w5 ⟨rfl, hb5⟩
  have R5 := (R4.below hb5 (Nat.le_refl _)).more hb5.size
  have X5 := (X4.below hb5 (Nat.le_refl _)).more hb5.size
  have B5 := B4.trans (hb5.mono B4.size)
  clear hb5 R4 B4 X4
  go_wp2_with fail
  refine (toTotalS_any a len cap rs _ hm R5).mono ?_
  rintro e w6 ⟨rfl, hb6, hO6⟩
  have X6 := (X5.below hb6 (Nat.le_refl _)).more hb6.size
  have Y6 := Rd.of_own hO6
  have B6 := B5.trans (hb6.mono B5.size)
  clear hb6 R5 B5 X5 hO6
  go_wp2_with fail
  refine (eqTotalS_same _ _ len len len rs _ hm X6 Y6).mono ?_
  rintro e w7 ⟨rfl, hb7⟩
  have B7 := B6.trans (hb7.mono B6.size)
  clear hb7 X6 Y6 B6
  go_wp2_with fail
  go_ret
  exact ⟨rfl, B7⟩
end Go.Proofs.Ytfndodaknejhfaa
