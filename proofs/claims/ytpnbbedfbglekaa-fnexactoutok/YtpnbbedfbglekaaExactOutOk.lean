/-
  laws.FnExactOutOk returns true for every output: impl.OutOk and spec.OutOk return the same bool and leave the output as it was. No conditions.
-/
import Derived.Test.YtpnbbedfbglekaaOpenOut
import Derived.Test.YtpnbbedfbglekaaOutFns
import Derived.Test.YtpnbbedfbglekaaKeep
namespace Go.Proofs.Ytpnbbedfbglekaa
open Go.RowKit

set_option maxRecDepth 100000 in
set_option maxHeartbeats 2000000 in
theorem walk_ExactOutOk (P : Int) (a : Option Addr) (len cap : Nat) (ts : List TotV) (w : World) (hI : IsTots w a len cap ts) :
    Calls Try.prog 3 #[.agg #[.int .i64 P, .slice a len cap]] w fun e w' => e = .returned (.bool true) ∧ Below w.heap.size w w' := by
  obtain ⟨hlc, hcm, hok, hR⟩ := hI
  have B := bl1 w (.cells #[.int .i64 P, .slice a len cap] 24)
  have O := Ob.new w P (.slice a len cap) 24
  have R := (hR.below B (Nat.le_refl _)).more B.size
  clear hR
  obtain ⟨p0, p1⟩ := O.cells
  go_enter Try.func3, Try.ntmps3
  go_wp2_with fail
  generalize w.alloc (.cells #[.int .i64 P, .slice a len cap] 24) = v0 at *
  refine (szOut_any P a len cap ts 1048576 v0 (by omega) hok R (by omega) (by omega)).mono ?_
  rintro e w1 ⟨z, rfl, hb, hz⟩
  replace B := B.trans (hb.mono B.size)
  replace R := (R.below hb (Nat.le_refl _)).more hb.size
  replace O := O.keep hb
  clear hb p0 p1
  rcases hz with rfl | ⟨hz0, hz1, hz2⟩
  · go_wp2_with fail
    go_ret
    exact ⟨rfl, B⟩
  have hm : len ≤ 1048576 := by omega
  obtain ⟨p0, p1⟩ := O.cells
  go_wp2_with fail
  refine (toOut_any P a len cap ts w1 hm R).mono ?_
  rintro e w2 ⟨g2, rfl, hb, X⟩
  replace B := B.trans (hb.mono B.size)
  replace R := (R.below hb (Nat.le_refl _)).more hb.size
  replace O := O.keep hb
  clear hb p0 p1
  have CS := fun w h => specOutOk_any P (some ⟨g2, 0, none⟩) len len ts w hm hok h
  have CI := fun g w h => implOutOk_any P (some ⟨g, 0, none⟩) len len ts w hm hok h
  generalize outOk P ts = q at CS CI
  go_wp2_with fail
  refine (CS _ X).mono ?_
  rintro e w3 ⟨rfl, hb⟩
  replace B := B.trans (hb.mono B.size)
  replace R := (R.below hb (Nat.le_refl _)).more hb.size
  replace O := O.keep hb
  clear hb X CS
  obtain ⟨p0, p1⟩ := O.cells
  go_wp2_with fail
  refine (toOut_any P a len cap ts w3 hm R).mono ?_
  rintro e w4 ⟨g4, rfl, hb, X⟩
  replace B := B.trans (hb.mono B.size)
  replace R := (R.below hb (Nat.le_refl _)).more hb.size
  replace O := O.keep hb
  clear hb p0 p1
  have hb := bl1 w4 (.cells #[.int .i64 P, .slice (some ⟨g4, 0, none⟩) len len] 29)
  have V := Ob.new w4 P (.slice (some ⟨g4, 0, none⟩) len len) 29
  replace B := B.trans (hb.mono B.size)
  replace R := (R.below hb (Nat.le_refl _)).more hb.size
  replace X := (X.below hb (Nat.le_refl _)).more hb.size
  replace O := O.keep hb
  clear hb
  obtain ⟨v0', v1'⟩ := V.cells
  go_wp2_with fail
  generalize w4.alloc (.cells #[.int .i64 P, .slice (some ⟨g4, 0, none⟩) len len] 29) = w5 at *
  refine (CI g4 _ X).mono ?_
  rintro e w6 ⟨rfl, hb⟩
  replace B := B.trans (hb.mono B.size)
  replace R := (R.below hb (Nat.le_refl _)).more hb.size
  replace X := (X.below hb (Nat.le_refl _)).more hb.size
  replace O := O.keep hb
  replace V := V.keep hb
  clear hb v0' v1' CI
  generalize w4.heap.size = b4 at *
  go_wp2_with fail
  have HC := Lib.hid (show ∀ W, Below w6.heap.size w6 W → (W.cell? ⟨w.heap.size, 0, none⟩ = some (.int .i64 P) ∧ W.cell? ⟨w.heap.size, 1, none⟩ = some (.slice a len cap) ∧ W.cell? ⟨b4, 0, none⟩ = some (.int .i64 P) ∧ W.cell? ⟨b4, 1, none⟩ = some (.slice (some ⟨g4, 0, none⟩) len len)) from fun W hW => ⟨(O.keep hW).cells.1, (O.keep hW).cells.2, (V.keep hW).cells.1, (V.keep hW).cells.2⟩)
  go_region_held3 (fun w' => (w'.cell? ⟨w.heap.size, 0, none⟩ = some (.int .i64 P) ∧ w'.cell? ⟨w.heap.size, 1, none⟩ = some (.slice a len cap) ∧ w'.cell? ⟨b4, 0, none⟩ = some (.int .i64 P) ∧ w'.cell? ⟨b4, 1, none⟩ = some (.slice (some ⟨g4, 0, none⟩) len len)) ∧ Below w6.heap.size w6 w') (first | exact kStart HC.out | exact kCall HC.out hb7 (by assumption) | exact kCall HC.out hb8 (by assumption))
    (first
      | (go_at_call 17; refine (toOut_any P a len cap ts _ hm ((R.below (kBelow HC.out (by assumption)) (Nat.le_refl _)).more (kBelow HC.out (by assumption)).size)).mono ?_; rintro e w7 ⟨g7, rfl, hb7, Y⟩)
      | (go_at_call 19; refine (eqOut_same P (some ⟨g4, 0, none⟩) _ len len len ts _ hm ((X.below (kBelow HC.out (by assumption)) (Nat.le_refl _)).more (kBelow HC.out (by assumption)).size) Y).mono ?_; rintro e w8 ⟨rfl, hb8⟩))
  all_goals (
    have hH := (show (_ ∧ _) ∧ Below w6.heap.size w6 w8 by assumption).2
    have B9 := B.trans (hH.mono B.size)
    clear HC hH B R X O V Y
    go_wp2_with fail
    go_ret
    exact ⟨rfl, B9⟩)
end Go.Proofs.Ytpnbbedfbglekaa
