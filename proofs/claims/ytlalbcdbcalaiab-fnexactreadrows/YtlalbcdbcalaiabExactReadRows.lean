/-
  laws.FnExactReadRows returns true for every string: impl.ReadRows and spec.ReadRows return the same, and each result of impl.ReadRows owns its memory. No conditions.
-/
import Derived.Test.YtlalbcdbcalaiabReadRowsSpec
import Derived.Test.YtlalbcdbcalaiabMarkRows
namespace Go.Proofs.Ytlalbcdbcalaiab
open Go.RowKit

theorem markRowS_one (a : Option Addr) (n cap base : Nat) (xs : List Value) (w : World) (hm : n ≤ 1048576) (hO : w.ownsRow base 32 3 (.slice a n cap) n xs) :
    Calls Try.prog 34 #[.slice a n cap, .int .i64 1] w fun e w' => e = .returned (.int .i64 (1 + 3 * n)) ∧ w'.ownsRow base 32 3 (.slice a n cap) n (flat (marksR 1 n)) ∧ w.grownBy w' (Value.slice a n cap).ownBlock := markRowS_any a n cap 1 base xs w hm (by omega) (by omega) hO
theorem heldRowS_one (a : Option Addr) (n cap : Nat) (w : World) (hm : n ≤ 1048576) (hR : Rd w w.heap.size 3 a n (flat (marksR 1 n))) :
    Calls Try.prog 35 #[.slice a n cap, .int .i64 1] w fun e w' => e = .returned (.int .i64 (1 + 3 * n)) ∧ Below w.heap.size w w' := heldRowS_any a n cap 1 w hm (by omega) (by omega) hR
theorem Rd.none_ (w : World) (B : Nat) : Rd w B 3 none 0 (flat []) := ⟨by simp [flat], fun h => absurd h (by omega)⟩
/-- An older slice does not lie in a younger owned block. -/
theorem Rd.gb_own {w w' : World} {B size n base e s k cap : Nat} {a b : Option Addr} {xs ys : List Value} (h : Rd w B size a n xs) (hg : w.grownBy w' (Value.slice b k cap).ownBlock) (hO : w.ownsRow base e s (.slice b k cap) k ys) (hB : B ≤ base) (hBw : B ≤ w.heap.size) : Rd w' B size a n xs :=
  ⟨h.1, fun hn => by
    obtain ⟨g, off, e, hb, hc⟩ := h.2 hn
    have hne : some g ≠ (Value.slice b k cap).ownBlock := fun h' => by have := own_block_ge hO g h'.symm; omega
    exact ⟨g, off, e, hb, fun j u hu => (World.cell?_of_block (a := ⟨g, off + j, none⟩) (hg.block g (by omega) hne)).trans (hc j u hu)⟩⟩
set_option maxHeartbeats 4000000 in
theorem walk_ExactReadRows (s : ByteArray) (w : World) (hs : s.size ≤ maxLen) :
    Calls Try.prog 9 #[.string s] w fun e w' => e = .returned (.bool true) ∧ Below w.heap.size w w' := by
  unfold maxLen at hs
  by_cases hb : 1048576 < s.size
  · go_enter Try.func9, Try.ntmps9
    go_wp2_with fail
    go_ret
    exact ⟨rfl, Below.refl _ _⟩
  go_enter Try.func9, Try.ntmps9
  go_wp2_with fail
  refine (specReadRows_any s _ (by omega)).mono ?_
  rintro e w1 hout
  rcases hout with ⟨rs, a0, c0, hk, hl, rfl, hO1, hb1⟩ | ⟨hk, rfl, hb1⟩
  · have K := Lib.hid hk
    clear hk
    go_wp2_with fail
    refine (implReadRows_any s _ (by omega)).mono ?_
    rintro e w2 hout
    rcases hout with ⟨rs', a1, c1, hk', _, rfl, hO2, hb2⟩ | ⟨hk', rfl, hb2⟩
    case inr => rw [K.out] at hk'; cases hk'
    obtain rfl : rs = rs' := by rw [K.out] at hk'; injection hk'
    clear hk'
    have X2 := (Rd.of_own hO1).below hb2 (Nat.le_refl _)
    have Y2 := Rd.of_own hO2
    have B2 := hb1.trans (hb2.mono hb1.size)
    go_wp2_with fail
    refine (eqRowS_same a1 a0 rs.length c1 c0 rs _ (by omega) Y2 (X2.more hb2.size)).mono ?_
    rintro e w3 ⟨rfl, hb3⟩
    have X3 := X2.below hb3 hb2.size
    have O3 := own_below hO2 hb3
    have B3 := B2.trans (hb3.mono B2.size)
    have hs3 : w1.heap.size ≤ w3.heap.size := Nat.le_trans hb2.size hb3.size
    have hs1 := hb1.size
    clear hb1 hb2 hb3 X2 Y2 B2 hO1 hO2
    go_wp2_with fail
    refine (markRowS_one a1 rs.length c1 w1.heap.size _ _ (by omega) O3).mono ?_
    rintro e w4 ⟨rfl, O4, g4⟩
    have X4 := X3.gb_own g4 O3 (Nat.le_refl _) hs3
    have B4 := B3.trans (gb_below g4 B3.size (fun g e => by have := own_block_ge O3 g e; omega))
    have Z4 := Rd.of_own O4
    have hs4 : w1.heap.size ≤ w4.heap.size := Nat.le_trans hs3 g4.size
    clear X3 O3 B3 hs3 g4 O4
    go_wp2_with fail
    refine (heldRowS_one a1 rs.length c1 _ (by omega) Z4).mono ?_
    rintro e w5 ⟨rfl, hb5⟩
    have X5 := X4.below hb5 hs4
    have Z5 := (Z4.below hb5 (Nat.le_refl _)).more hb5.size
    have B5 := B4.trans (hb5.mono B4.size)
    have hs5 : w1.heap.size ≤ w5.heap.size := Nat.le_trans hs4 hb5.size
    clear X4 Z4 B4 hs4 hb5
    go_wp2_with fail
    refine (implReadRows_any s _ (by omega)).mono ?_
    rintro e w6 hout
    rcases hout with ⟨rs', a2, c2, hk', _, rfl, hO6, hb6⟩ | ⟨hk', rfl, hb6⟩
    case inr => rw [K.out] at hk'; cases hk'
    obtain rfl : rs = rs' := by rw [K.out] at hk'; injection hk'
    clear hk'
    have X6 := (X5.below hb6 hs5).more (Nat.le_trans hs5 hb6.size)
    have Z6 := (Z5.below hb6 (Nat.le_refl _)).more hb6.size
    have B6 := B5.trans (hb6.mono B5.size)
    have H6 := Rd.of_own hO6
    clear X5 Z5 B5 hs5 hb6 hO6
    go_wp2_with fail
    refine (eqRowS_same a2 a0 rs.length c2 c0 rs _ (by omega) H6 X6).mono ?_
    rintro e w7 ⟨rfl, hb7⟩
    have Z7 := (Z6.below hb7 (Nat.le_refl _)).more hb7.size
    have B7 := B6.trans (hb7.mono B6.size)
    clear X6 Z6 B6 H6 hb7
    go_wp2_with fail
    refine (heldRowS_one a1 rs.length c1 _ (by omega) Z7).mono ?_
    rintro e w8 ⟨rfl, hb8⟩
    have B8 := B7.trans (hb8.mono B7.size)
    clear hb8 Z7 B7
    go_wp2_with fail
    go_ret
    exact ⟨rfl, B8⟩
  · have K := Lib.hid hk
    clear hk
    go_wp2_with fail
    refine (implReadRows_any s _ (by omega)).mono ?_
    rintro e w2 hout
    rcases hout with ⟨rs', a1, c1, hk', _, rfl, hO2, hb2⟩ | ⟨hk', rfl, hb2⟩
    case inl => rw [K.out] at hk'; cases hk'
    clear hk'
    have B2 := hb1.trans (hb2.mono hb1.size)
    clear hb1 hb2
    go_wp2_with fail
    refine (eqRowS_same none none 0 0 0 [] _ (by omega) (Rd.none_ _ _) (Rd.none_ _ _)).mono ?_
    rintro e w3 ⟨rfl, hb3⟩
    have B3 := B2.trans (hb3.mono B2.size)
    clear B2 hb3
    go_wp2_with fail
    refine (markRowS_one none 0 0 w3.heap.size [] _ (by omega) (World.ownsRow_nil _ _ _ _)).mono ?_
    rintro e w4 ⟨rfl, _, g4⟩
    have B4 := B3.trans (gb_below g4 B3.size (fun g e => by cases e))
    clear B3 g4
    go_wp2_with fail
    refine (heldRowS_one none 0 0 _ (by omega) (Rd.none_ _ _)).mono ?_
    rintro e w5 ⟨rfl, hb5⟩
    have B5 := B4.trans (hb5.mono B4.size)
    clear B4 hb5
    go_wp2_with fail
    refine (implReadRows_any s _ (by omega)).mono ?_
    rintro e w6 hout
    rcases hout with ⟨rs', a1, c1, hk', _, rfl, hO2, hb2⟩ | ⟨hk', rfl, hb6⟩
    case inl => rw [K.out] at hk'; cases hk'
    clear hk'
    have B6 := B5.trans (hb6.mono B5.size)
    clear B5 hb6
    go_wp2_with fail
    refine (eqRowS_same none none 0 0 0 [] _ (by omega) (Rd.none_ _ _) (Rd.none_ _ _)).mono ?_
    rintro e w7 ⟨rfl, hb7⟩
    have B7 := B6.trans (hb7.mono B6.size)
    clear B6 hb7
    go_wp2_with fail
    refine (heldRowS_one none 0 0 _ (by omega) (Rd.none_ _ _)).mono ?_
    rintro e w8 ⟨rfl, hb8⟩
    have B8 := B7.trans (hb8.mono B7.size)
    clear B7 hb8
    go_wp2_with fail
    go_ret
    exact ⟨rfl, B8⟩
end Go.Proofs.Ytlalbcdbcalaiab
