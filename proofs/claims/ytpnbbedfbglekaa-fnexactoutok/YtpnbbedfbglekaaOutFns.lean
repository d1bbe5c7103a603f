/-
  impl.OutOk and spec.OutOk by their contracts. Conditions: those of each statement.
-/
import Derived.Test.YtpnbbedfbglekaaOutMem
import Derived.Test.YtpnbbedfbglekaaTotalsOkSpec
import Derived.Test.YtpnbbedfbglekaaTotalsOkImpl
namespace Go.Proofs.Ytpnbbedfbglekaa
open Go.RowKit

/-- Is it a valid output? -/
def outOk (P : Int) (ts : List TotV) : Bool := decide (0 ≤ P) && decide (P < 8) && totsOk ts
set_option maxRecDepth 100000 in
set_option maxHeartbeats 1000000 in
theorem implOutOk_any (P : Int) (a : Option Addr) (len cap : Nat) (ts : List TotV) (w : World) (hm : len ≤ 1048576) (hok : ∀ t ∈ ts, t.Ok) (hR : Rd w w.heap.size 2 a len (flatT ts)) :
    Calls Try.prog 18 #[.agg #[.int .i64 P, .slice a len cap]] w fun e w' => e = .returned (.bool (outOk P ts)) ∧ Below w.heap.size w w' := by
  have hb0 := bl1 w (.cells #[.int .i64 P, .slice a len cap] 29)
  by_cases h1 : 0 ≤ P
  case neg =>
    have E := Lib.hid (show outOk P ts = false by unfold outOk; rw [decide_eq_false h1]; rfl)
    have d0 : decide (0 ≤ P) = false := decide_eq_false h1
    go_enter Try.func18, Try.ntmps18
    go_wp2_with fail
    go_ret
    exact ⟨ret_bool E.out.symm, hb0⟩
  have d0 : decide (0 ≤ P) = true := decide_eq_true h1
  by_cases h2 : P < 8
  case neg =>
    have E := Lib.hid (show outOk P ts = false by unfold outOk; rw [decide_eq_false h2, Bool.and_false]; rfl)
    have d1 : decide (P < 8) = false := decide_eq_false h2
    go_enter Try.func18, Try.ntmps18
    go_wp2_with fail
    go_ret
    exact ⟨ret_bool E.out.symm, hb0⟩
  have d1 : decide (P < 8) = true := decide_eq_true h2
  have E := Lib.hid (show outOk P ts = totsOk ts by unfold outOk; rw [d0, d1]; rfl)
  have C := implTotalsOk_any a len cap ts _ hm hok ((hR.below hb0 (Nat.le_refl _)).more hb0.size)
  generalize totsOk ts = q at *
  go_enter Try.func18, Try.ntmps18
  go_wp2_with fail
  refine C.mono ?_
  rintro e w1 ⟨rfl, hb1⟩
  have hb := hb0.trans (hb1.mono hb0.size)
  clear C hb0 hb1 hR
  go_wp2_with fail
  go_ret
  exact ⟨ret_bool E.out.symm, hb⟩
set_option maxRecDepth 100000 in
theorem l1In_out (n : Int) (b : Bool) (w : World) (h : (decide (0 ≤ n) && decide (n < 8)) = b) : Calls Try.prog 61 #[.int .i64 n, .int .i64 0, .int .i64 7] w fun e w' => e = .returned (.bool b) ∧ Below w.heap.size w w' := by
  have E := Lib.hid h
  clear h
  by_cases h1 : 0 ≤ n
  · have d1 : decide (0 ≤ n) = true := by simp [h1]
    have d2 : decide (n ≤ 7) = decide (n < 8) := by rw [decide_eq_decide]; omega
    go_enter Try.func61, Try.ntmps61
    go_wp2
    go_ret
    exact ⟨ret_bool (by rw [← E.out, d1, Bool.true_and]), Below.refl _ _⟩
  · have d1 : decide (0 ≤ n) = false := by simp [h1]
    go_enter Try.func61, Try.ntmps61
    go_wp2
    go_ret
    exact ⟨ret_bool (by rw [← E.out, d1, Bool.false_and]), Below.refl _ _⟩
set_option maxRecDepth 100000 in
set_option maxHeartbeats 1000000 in
theorem specOutOk_any (P : Int) (a : Option Addr) (len cap : Nat) (ts : List TotV) (w : World) (hm : len ≤ 1048576) (hok : ∀ t ∈ ts, t.Ok) (hR : Rd w w.heap.size 2 a len (flatT ts)) :
    Calls Try.prog 16 #[.agg #[.int .i64 P, .slice a len cap]] w fun e w' => e = .returned (.bool (outOk P ts)) ∧ Below w.heap.size w w' := by
  have hb0 := bl1 w (.cells #[.int .i64 P, .slice a len cap] 29)
  have O0 := Ob.new w P (.slice a len cap) 29
  have CI := fun b h w => l1In_out P b w h
  cases hq : (decide (0 ≤ P) && decide (P < 8))
  · have E := Lib.hid (show outOk P ts = false by unfold outOk; rw [hq]; rfl)
    have C := CI _ hq
    clear hq CI
    go_enter Try.func16, Try.ntmps16
    go_wp2_with fail
    refine (C _).mono ?_
    rintro e w1 ⟨rfl, hb1⟩
    have hb := hb0.trans (hb1.mono hb0.size)
    clear C hb0 hb1 hR O0
    go_wp2_with fail
    go_ret
    exact ⟨ret_bool E.out.symm, hb⟩
  · have E := Lib.hid (show outOk P ts = totsOk ts by unfold outOk; rw [hq]; rfl)
    have C := CI _ hq
    clear hq CI
    have C2 := fun w h => specTotalsOk_any a len cap ts w hm hok h
    generalize totsOk ts = q at *
    go_enter Try.func16, Try.ntmps16
    go_wp2_with fail
    refine (C _).mono ?_
    rintro e w1 ⟨rfl, hb1⟩
    have hb := hb0.trans (hb1.mono hb0.size)
    replace O0 := O0.keep hb1
    have R1 := (hR.below hb (Nat.le_refl _)).more hb.size
    obtain ⟨p0, p1⟩ := O0.cells
    clear C hb0 hb1 hR
    go_wp2_with fail
    refine (C2 _ R1).mono ?_
    rintro e w2 ⟨rfl, hb2⟩
    have hb' := hb.trans (hb2.mono hb.size)
    clear hb hb2 C2 R1 O0 p0 p1
    go_wp2_with fail
    go_ret
    exact ⟨ret_bool E.out.symm, hb'⟩
end Go.Proofs.Ytpnbbedfbglekaa
