/-
  The methods set and has of impl.bitSet by their contracts. Conditions: the bit lies in the set.
-/
import Derived.Test.YtfndodaknejhfaaBitUnite
namespace Go.Proofs.Ytfndodaknejhfaa
open Go.RowKit
/-- The byte of a bit with that bit set. -/
def bitC (i : Nat) (c : UInt8) : UInt8 := c ||| (1 <<< UInt8.ofNat (i % 8))
def setL (l : List UInt8) (i : Nat) : List UInt8 := l.set (i / 8) (bitC i (l.getD (i / 8) 0))
def hasL (l : List UInt8) (i : Nat) : Bool := bitC i (l.getD (i / 8) 0) == l.getD (i / 8) 0
theorem one_shl (r : Nat) (h : r < 8) : ((1 : UInt8) <<< UInt8.ofNat r).toNat = 2 ^ r := by
  rcases (show r = 0 ∨ r = 1 ∨ r = 2 ∨ r = 3 ∨ r = 4 ∨ r = 5 ∨ r = 6 ∨ r = 7 by omega) with rfl | rfl | rfl | rfl | rfl | rfl | rfl | rfl <;> decide
theorem pow_lt (r : Nat) (h : r < 8) : 2 ^ r < 256 := by
  rcases (show r = 0 ∨ r = 1 ∨ r = 2 ∨ r = 3 ∨ r = 4 ∨ r = 5 ∨ r = 6 ∨ r = 7 by omega) with rfl | rfl | rfl | rfl | rfl | rfl | rfl | rfl <;> decide
theorem bitC_val (i r : Nat) (c : UInt8) (hr : i % 8 = r) : bits .or .u8 (c.toNat : Int) ((2 : Int) ^ r % 256) = ((bitC i c).toNat : Int) := by
  have h8 : r < 8 := by omega
  have e : (2 : Int) ^ r % 256 = ((2 ^ r : Nat) : Int) := by
    have := pow_lt r h8
    rw [show (2 : Int) ^ r = ((2 ^ r : Nat) : Int) by simp]
    generalize (2 ^ r : Nat) = m at *
    omega
  rw [e, u8_or_nat c.toNat (2 ^ r) (by have := c.toNat_lt; omega) (pow_lt r h8), bitC, UInt8.toNat_or, hr, one_shl r h8]
set_option maxRecDepth 100000 in
theorem bitSet_any (b : Nat) (n : Int) (l : List UInt8) (i : Nat) (w : World) (h : BS w b n l) (hi : i < 256) :
    Calls Try.prog 145 #[.pointer (some ⟨b, 0, none⟩), .int .i64 (i : Int)] w fun e w' => e = .returned (.tuple #[]) ∧ Below b w w' ∧ BS w' b n (setL l i) := by
  have hl := h.2.2.1
  obtain ⟨q, hq0⟩ : ∃ q, i / 8 = q := ⟨_, rfl⟩
  obtain ⟨r, hr0⟩ : ∃ r, i % 8 = r := ⟨_, rfl⟩
  obtain ⟨c, hc⟩ : ∃ c, l[q]? = some c := ⟨_, List.getElem?_eq_getElem (by omega)⟩
  have hq1 : q < 32 := by omega
  have hr1 : r < 8 := by omega
  have hq : IntKind.i64.wrap ((i : Int).tdiv 8) = (q : Int) := by
    rw [Int.tdiv_eq_ediv_of_nonneg (by omega), show (i : Int) / 8 = (q : Int) by omega, IntWalk.i64_in _ (by omega)]
  have hr : IntKind.i64.wrap ((i : Int).tmod 8) = (r : Int) := by
    rw [Int.tmod_eq_emod_of_nonneg (by omega), show (i : Int) % 8 = (r : Int) by omega, IntWalk.i64_in _ (by omega)]
  have x0 : w.cell? ⟨b, 1 + q, none⟩ = some (.int .u8 (c.toNat : Int)) := by
    have := h.1 (q + 1) (u8v c) (by simp [bsL, hc])
    rwa [show 0 + (q + 1) = 1 + q by omega] at this
  have f0 : w.frozen? ⟨b, 1 + q, none⟩ = false := by
    have := (h.2.1 (q + 1) (by omega)).2
    rwa [show 0 + (q + 1) = 1 + q by omega] at this
  have hor := bitC_val i r c hr0
  have R := Lib.hid (show BS (w.setCell ⟨b, 1 + q, none⟩ (.int .u8 ((bitC i c).toNat : Int))).drew b n (setL l i) by
    refine (show BS (w.setCell ⟨b, 1 + q, none⟩ (.int .u8 ((bitC i c).toNat : Int))) b n (setL l i) from ?_)
    have := h.set q (bitC i c) hq1
    unfold setL
    rw [hq0, List.getD, hc]
    exact this)
  have HB := Lib.hid (show Below b w (w.setCell ⟨b, 1 + q, none⟩ (.int .u8 ((bitC i c).toNat : Int))).drew from ((Below.refl b w).setCell (Nat.le_refl _) _).drew)
  clear h hc hl
  go_enter Try.func145, Try.ntmps145
  go_wp2_with fail
  go_region
  go_wp2_with fail
  go_end0
  exact ⟨rfl, HB.out, R.out⟩
theorem bit_table : ∀ (r : Fin 8) (k : Fin 256), (((k.val / 2 ^ r.val) &&& 1) == 1) = ((UInt8.ofNat k.val ||| (1 <<< UInt8.ofNat r.val)) == UInt8.ofNat k.val) := by decide +kernel
theorem bit_test (i r : Nat) (c : UInt8) (hr : i % 8 = r) : (bits .and .u8 ((c.toNat : Int) / 2 ^ r) 1 == 1) = (bitC i c == c) := by
  have h8 : r < 8 := by omega
  have hc : c.toNat < 256 := c.toNat_lt
  have e : (c.toNat : Int) / 2 ^ r = ((c.toNat / 2 ^ r : Nat) : Int) := by simp
  have hlt : c.toNat / 2 ^ r < 256 := Nat.lt_of_le_of_lt (Nat.div_le_self _ _) hc
  have t := bit_table ⟨r, h8⟩ ⟨c.toNat, hc⟩
  simp only [UInt8.ofNat_toNat] at t
  have ha := u8_and_nat (c.toNat / 2 ^ r) 1 hlt (by omega)
  rw [e, show (1 : Int) = ((1 : Nat) : Int) from rfl, ha, bitC, hr, ← t]
  generalize (c.toNat / 2 ^ r) &&& 1 = m
  by_cases hm : m = 1
  · subst hm; rfl
  · rw [beq_eq_false_iff_ne.2 hm, beq_eq_false_iff_ne.2 (by omega)]
set_option maxRecDepth 100000 in
theorem bitHas_any (b : Nat) (n : Int) (l : List UInt8) (i : Nat) (w : World) (h : BS w b n l) (hi : i < 256) :
    Calls Try.prog 148 #[.pointer (some ⟨b, 0, none⟩), .int .i64 (i : Int)] w fun e w' => e = .returned (.bool (hasL l i)) ∧ w = w' := by
  have hl := h.2.2.1
  obtain ⟨q, hq0⟩ : ∃ q, i / 8 = q := ⟨_, rfl⟩
  obtain ⟨r, hr0⟩ : ∃ r, i % 8 = r := ⟨_, rfl⟩
  obtain ⟨c, hc⟩ : ∃ c, l[q]? = some c := ⟨_, List.getElem?_eq_getElem (by omega)⟩
  have hq1 : q < 32 := by omega
  have hr1 : r < 8 := by omega
  have x0 : w.cell? ⟨b, 1 + q, none⟩ = some (.int .u8 (c.toNat : Int)) := by
    have := h.1 (q + 1) (u8v c) (by simp [bsL, hc])
    rwa [show 0 + (q + 1) = 1 + q by omega] at this
  have hbd := c.toNat_lt
  have E := Lib.hid (show hasL l i = (bits .and .u8 ((c.toNat : Int) / 2 ^ r) 1 == 1) by
    rw [bit_test i r c hr0, hasL, hq0, List.getD, hc]; rfl)
  clear h hl hc
  go_enter Try.func148, Try.ntmps148
  go_wp2_with fail
  go_ret
  exact ⟨ret_bool E.out.symm, rfl⟩
end Go.Proofs.Ytfndodaknejhfaa
