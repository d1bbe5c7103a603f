/-
  laws.FnExactCutsOf returns true for all rows and numbers: impl.CutsOf and spec.CutsOf return the same, and each result of impl.CutsOf owns its memory. No conditions.
-/
import Derived.Test.YtjnljobncdpkkaaCutsSpec
import Derived.Test.YtjnljobncdpkkaaExactKit
import Derived.Test.YtjnljobncdpkkaaMarkStr
namespace Go.Proofs.Ytjnljobncdpkkaa
open Go.RowKit

def cutS (rs : List RowV) (N : Int) : List ByteArray := (if (rowsOk rs && inP N) = true then cutsR rs N.toNat else []).map fun b => ⟨b.toArray⟩
theorem cutS_le (rs : List RowV) (N : Int) : (cutS rs N).length ≤ 8 := by
  unfold cutS
  rw [List.length_map]
  split
  · rename_i h
    have hN : 1 ≤ N ∧ N ≤ 8 := by
      have h2 : inP N = true := by
        cases h3 : inP N
        · rw [h3, Bool.and_false] at h; cases h
        · rfl
      simpa [inP] using h2
    unfold cutsR
    split
    · simp
    · refine Nat.le_trans (Lib.compact_length_le _) ?_
      rw [cutsL_length]; omega
  · simp
theorem CutsOut.own {rs : List RowV} {N : Int} {w w' : World} {e : Ending} (h : CutsOut rs N w e w') : ∃ a c, e = .returned (.tuple #[.slice a (cutS rs N).length c, .bool (rowsOk rs && inP N)]) ∧ Below w.heap.size w w' ∧ w'.ownsRow w.heap.size 9 1 (.slice a (cutS rs N).length c) (cutS rs N).length (strC (cutS rs N)) := by
  obtain ⟨a, m, c, he, hb, hO⟩ := h
  have hm : m = (cutS rs N).length := by
    have := hO.1
    rw [List.length_map, Nat.mul_one] at this
    rw [← this, cutS, List.length_map]
  have hs : (if (rowsOk rs && inP N) = true then cutsR rs N.toNat else []).map encStr = strC (cutS rs N) := by
    rw [cutS, strC, List.map_map]; rfl
  subst hm
  rw [hs] at hO
  exact ⟨a, c, he, hb, hO⟩
theorem markStringS_one (a : Option Addr) (n cap base : Nat) (xs : List Value) (w : World) (hm : n ≤ 1048576) (hO : w.ownsRow base 9 1 (.slice a n cap) n xs) :
    Calls Try.prog 27 #[.slice a n cap, .int .i64 1] w fun e w' => e = .returned (.int .i64 (1 + n)) ∧ w'.ownsRow base 9 1 (.slice a n cap) n (strC (marks 1 n)) ∧ w.grownBy w' (Value.slice a n cap).ownBlock := markStringS_any a n cap 1 base xs w hm (by omega) (by omega) hO
theorem heldStringS_one (a : Option Addr) (n cap : Nat) (w : World) (hm : n ≤ 1048576) (hR : Rd w w.heap.size 1 a n (strC (marks 1 n))) :
    Calls Try.prog 28 #[.slice a n cap, .int .i64 1] w fun e w' => e = .returned (.int .i64 (1 + n)) ∧ Below w.heap.size w w' := heldStringS_any a n cap 1 w hm (by omega) (by omega) hR
set_option maxRecDepth 100000 in
set_option maxHeartbeats 4000000 in
theorem walk_ExactCutsOf (a : Option Addr) (len cap : Nat) (rs : List RowV) (N : Int) (w : World) (hI : IsRows w a len cap rs) (_ : (Lit.int .i64 N).wf = true) :
    Calls Try.prog 5 #[.slice a len cap, .int .i64 N] w fun e w' => e = .returned (.bool true) ∧ Below w.heap.size w w' := by
  obtain ⟨hlc, hcm, hok, hR⟩ := hI
  have hsl := cutS_le rs N
  have CS : ∀ (a : Option Addr) (cap : Nat) (w : World), len ≤ 1048576 → Rd w w.heap.size 3 a len (flat rs) → Calls Try.prog 24 #[.slice a len cap, .int .i64 N] w fun e w' => ∃ a c, e = .returned (.tuple #[.slice a (cutS rs N).length c, .bool (rowsOk rs && inP N)]) ∧ Below w.heap.size w w' ∧ w'.ownsRow w.heap.size 9 1 (.slice a (cutS rs N).length c) (cutS rs N).length (strC (cutS rs N)) := fun a cap w hm h => (specCutsOf_any a len cap rs N w hm hok h).mono fun _ _ h => h.own
  have CI : ∀ (a : Option Addr) (cap : Nat) (w : World), len ≤ 1048576 → Rd w w.heap.size 3 a len (flat rs) → Calls Try.prog 25 #[.slice a len cap, .int .i64 N] w fun e w' => ∃ a c, e = .returned (.tuple #[.slice a (cutS rs N).length c, .bool (rowsOk rs && inP N)]) ∧ Below w.heap.size w w' ∧ w'.ownsRow w.heap.size 9 1 (.slice a (cutS rs N).length c) (cutS rs N).length (strC (cutS rs N)) := fun a cap w hm h => (implCutsOf_any a len cap rs N w hm hok h).mono fun _ _ h => h.own
  generalize (rowsOk rs && inP N) = ok at CS CI
  generalize cutS rs N = ss at CS CI hsl
  generalize hln : ss.length = m at CS CI hsl
  clear hln
  go_enter Try.func5, Try.ntmps5
  go_wp2_with fail
  refine (szRowS_any a len cap rs _ _ (by omega) hok hR (by omega) (by omega)).mono ?_
  rintro e w1 ⟨z, rfl, hb1, hz⟩
  rcases hz with rfl | ⟨hz0, hz1, hz2⟩
  · go_wp2_with fail
    go_ret
    exact ⟨rfl, hb1⟩
  have hm : len ≤ 1048576 := by omega
  have R1 := (hR.below hb1 (Nat.le_refl _)).more hb1.size
  go_wp2_with fail
  refine (toRowS_any a len cap rs _ hm R1).mono ?_
  rintro e w2 ⟨rfl, hb2, hO2⟩
  have R2 := (R1.below hb2 (Nat.le_refl _)).more hb2.size
  have B2 := hb1.trans (hb2.mono hb1.size)
  go_wp2_with fail
  refine (CS _ len _ hm (Rd.of_own hO2)).mono ?_
  rintro e w3 ⟨a0, c0, rfl, hb3, hO3⟩
  have R3 := (R2.below hb3 (Nat.le_refl _)).more hb3.size
  have B3 := B2.trans (hb3.mono B2.size)
  have V3 := Rd.of_own hO3
  clear hb1 hb2 hO2 R1 R2 B2 hb3 hO3 CS
  go_wp2_with fail
  refine (toRowS_any a len cap rs _ hm R3).mono ?_
  rintro e w4 ⟨rfl, hb4, hX4⟩
  have R4 := R3.below hb4 (Nat.le_refl _)
  have V4 := V3.below hb4 (Nat.le_refl _)
  have B4 := B3.trans (hb4.mono B3.size)
  have s4 := hb4.size
  have s4' : w3.heap.size < w4.heap.size := (own_ge hX4 w3.heap.size rfl).2
  clear R3 V3 hb4
  go_wp2_with fail
  refine (CI _ len _ hm (Rd.of_own hX4)).mono ?_
  rintro e w5 ⟨a1, c1, rfl, hb5, hO5⟩
  have R5 := R4.below hb5 s4
  have V5 := V4.below hb5 s4
  have X5 := own_below hX4 hb5
  have B5 := B4.trans (hb5.mono B4.size)
  have s5 := hb5.size
  clear R4 V4 hX4 hb5 B4
  go_wp2_with fail
  refine (eqStringS_same a1 a0 m c1 c0 ss _ (by omega) (Rd.of_own hO5) (V5.more (Nat.le_trans s4 s5))).mono ?_
  rintro e w6 ⟨rfl, hb6⟩
  have s35 : w3.heap.size ≤ w5.heap.size := Nat.le_trans s4 s5
  have R6 := R5.below hb6 s35
  have V6 := V5.below hb6 s35
  have X6 := own_below X5 hb6
  have G6 := own_below hO5 hb6
  have B6 := B5.trans (hb6.mono B5.size)
  have s46 : w4.heap.size ≤ w6.heap.size := Nat.le_trans s5 hb6.size
  have s36 : w3.heap.size ≤ w6.heap.size := Nat.le_trans s4 s46
  clear R5 V5 X5 hO5 B5 hb6 s35 s5
  go_wp2_with fail
  refine (toRowS_any a len cap rs _ hm (R6.more s36)).mono ?_
  rintro e w7 ⟨rfl, hb7, hY7⟩
  have R7 := R6.below hb7 s36
  have V7 := V6.below hb7 s36
  have X7 := own_below X6 hb7
  have G7 := own_below G6 hb7
  have Y7 := Rd.of_own hY7
  have B7 := B6.trans (hb7.mono B6.size)
  have s47 : w4.heap.size ≤ w7.heap.size := Nat.le_trans s46 hb7.size
  have s37 : w3.heap.size ≤ w7.heap.size := Nat.le_trans s4 s47
  clear R6 V6 X6 G6 B6 hY7 hb7 s46 s36
  go_wp2_with fail
  refine (eqRowS_same _ _ len len len rs _ hm (Rd.of_own X7) Y7).mono ?_
  rintro e w8 ⟨rfl, hb8⟩
  have R8 := R7.below hb8 s37
  have V8 := V7.below hb8 s37
  have X8 := own_below X7 hb8
  have G8 := own_below G7 hb8
  have B8 := B7.trans (hb8.mono B7.size)
  have s48 : w4.heap.size ≤ w8.heap.size := Nat.le_trans s47 hb8.size
  have s38 : w3.heap.size ≤ w8.heap.size := Nat.le_trans s4 s48
  clear R7 V7 X7 G7 B7 Y7 hb8 s47 s37
  go_wp2_with fail
  refine (markRowS_one _ len len w3.heap.size _ _ hm X8).mono ?_
  rintro e w9 ⟨rfl, _, g9⟩
  have R9 := R8.gb_own g9 X8 (Nat.le_refl _) s38
  have V9 := V8.gb_own g9 X8 (Nat.le_refl _) s38
  have G9 : w9.ownsRow w4.heap.size 9 1 (.slice a1 m c1) m (strC ss) := G8.kept g9 (by
    cases hv : (Value.slice a1 m c1).ownBlock with
    | none => exact .inl rfl
    | some g =>
      right
      intro he
      have h1 := (own_ge G8 g hv).1
      have h2 : g = w3.heap.size := by simpa [Value.ownBlock] using he
      omega)
  have B9 := B8.trans (gb_below g9 B8.size (fun g e => by have := (own_ge X8 g e).1; have := B3.size; omega))
  have s49 : w4.heap.size ≤ w9.heap.size := Nat.le_trans s48 g9.size
  have s39 : w3.heap.size ≤ w9.heap.size := Nat.le_trans s4 s49
  clear R8 V8 X8 G8 B8 g9 s48 s38
  go_wp2_with fail
  refine (eqStringS_same a1 a0 m c1 c0 ss _ (by omega) (Rd.of_own G9) (V9.more s39)).mono ?_
  rintro e w10 ⟨rfl, hb10⟩
  have R10 := R9.below hb10 s39
  have V10 := V9.below hb10 s39
  have G10 := own_below G9 hb10
  have B10 := B9.trans (hb10.mono B9.size)
  have s410 : w4.heap.size ≤ w10.heap.size := Nat.le_trans s49 hb10.size
  have s310 : w3.heap.size ≤ w10.heap.size := Nat.le_trans s4 s410
  clear R9 V9 G9 B9 hb10 s49 s39
  go_wp2_with fail
  refine (markStringS_one a1 m c1 w4.heap.size _ _ (by omega) G10).mono ?_
  rintro e w11 ⟨rfl, G11, g11⟩
  have R11 := R10.gb_own g11 G10 s4 s310
  have V11 := V10.gb_own g11 G10 s4 s310
  have B11 := B10.trans (gb_below g11 B10.size (fun g e => by have := (own_ge G10 g e).1; have := B3.size; omega))
  have s311 : w3.heap.size ≤ w11.heap.size := Nat.le_trans s310 g11.size
  have Z11 := Rd.of_own G11
  clear R10 V10 G10 B10 g11 s410 s310 G11
  go_wp2_with fail
  refine (heldStringS_one a1 m c1 _ (by omega) Z11).mono ?_
  rintro e w12 ⟨rfl, hb12⟩
  have R12 := R11.below hb12 s311
  have V12 := V11.below hb12 s311
  have Z12 := (Z11.below hb12 (Nat.le_refl _)).more hb12.size
  have B12 := B11.trans (hb12.mono B11.size)
  have s312 : w3.heap.size ≤ w12.heap.size := Nat.le_trans s311 hb12.size
  clear R11 V11 Z11 B11 hb12 s311
  go_wp2_with fail
  refine (toRowS_any a len cap rs _ hm (R12.more s312)).mono ?_
  rintro e w13 ⟨rfl, hb13, hY13⟩
  have V13 := V12.below hb13 s312
  have Z13 := (Z12.below hb13 (Nat.le_refl _)).more hb13.size
  have B13 := B12.trans (hb13.mono B12.size)
  have s313 : w3.heap.size ≤ w13.heap.size := Nat.le_trans s312 hb13.size
  have Y13 := Rd.of_own hY13
  clear R12 V12 Z12 B12 hb13 s312 hY13
  go_wp2_with fail
  refine (CI _ len _ hm Y13).mono ?_
  rintro e w14 ⟨a2, c2, rfl, hb14, hO14⟩
  have V14 := V13.below hb14 s313
  have Z14 := (Z13.below hb14 (Nat.le_refl _)).more hb14.size
  have B14 := B13.trans (hb14.mono B13.size)
  have s314 : w3.heap.size ≤ w14.heap.size := Nat.le_trans s313 hb14.size
  have H14 := Rd.of_own hO14
  clear V13 Z13 B13 hb14 s313 Y13 hO14
  go_wp2_with fail
  refine (eqStringS_same a2 a0 m c2 c0 ss _ (by omega) H14 (V14.more s314)).mono ?_
  rintro e w15 ⟨rfl, hb15⟩
  have Z15 := (Z14.below hb15 (Nat.le_refl _)).more hb15.size
  have B15 := B14.trans (hb15.mono B14.size)
  clear V14 Z14 B14 hb15 s314 H14
  go_wp2_with fail
  refine (heldStringS_one a1 m c1 _ (by omega) Z15).mono ?_
  rintro e w16 ⟨rfl, hb16⟩
  have B16 := B15.trans (hb16.mono B15.size)
  clear Z15 B15 hb16
  go_wp2_with fail
  go_ret
  exact ⟨rfl, B16⟩
end Go.Proofs.Ytjnljobncdpkkaa
