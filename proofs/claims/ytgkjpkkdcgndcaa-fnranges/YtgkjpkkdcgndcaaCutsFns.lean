/-
  impl.cutsOk, impl.cutsUpTo, impl.RangeOf, spec.l2Cuts, spec.l2Range and spec.RangeOf by their contracts. Conditions: those of each statement.
-/
import Derived.Test.YtgkjpkkdcgndcaaCutsMath
import Derived.Test.YtgkjpkkdcgndcaaRowsMem
import Derived.Deep.QuietTactic
import Derived.BigQuiet
namespace Go.Proofs.Ytgkjpkkdcgndcaa
open Go.RowKit

def MaxS (ss : List ByteArray) : Prop := ∀ s ∈ ss, s.size ≤ maxLen
theorem MaxS.at_ {ss : List ByteArray} {k : Nat} {s : ByteArray} (h : MaxS ss) (hs : ss[k]? = some s) : s.size ≤ maxLen := h s (List.mem_of_getElem? hs)

set_option maxRecDepth 100000 in
set_option maxHeartbeats 1000000 in
theorem cutsUpTo_any (a : Option Addr) (n cap : Nat) (ss : List ByteArray) (key : ByteArray) (w : World) (hm : n ≤ 1048576) (hR : Rd w w.heap.size 1 a n (strC ss)) :
    Calls Try.prog 81 #[.slice a n cap, .string key] w fun e w' => e = .returned (.int .i64 (rangeN ss key)) ∧ w = w' := by
  have hl := Lib.hid hR.strs_length
  go_enter Try.func81, Try.ntmps81
  go_wp2
  go_loop [5, 10] (fun c i => ∃ k q : Nat, k ≤ n ∧ q ≤ k ∧ i = .int .i64 k ∧ c = .int .i64 q ∧ Hid (q = rangeN (ss.take k) key)) (fun _ i => n - (intOf i).toNat)
  case atStart => exact ⟨0, 0, Nat.zero_le _, Nat.le_refl _, rfl, rfl, Lib.hid (by simp [rangeN])⟩
  case round =>
    obtain ⟨k, q, hk, hq, rfl, rfl, Hq⟩ := hrel
    by_cases hlt : k < n
    · obtain ⟨b, off, s, rfl, hB, hs, c0⟩ := hR.str hlt
      have Hs := Lib.hid hs
      clear hs
      cases hle : leB key s
      case false =>
        have H1 := Lib.hid (show q = rangeN (ss.take (k + 1)) key by rw [rangeN_take Hs.out, hle, ← Hq.out]; rfl)
        have hle' : (Op.bytesLess s.toList key.toList || s.toList == key.toList) = false := hle
        clear hle
        go_wp2
        go_round
        case rel => exact ⟨k + 1, q, by omega, by omega, by go_num, rfl, H1⟩
        case measure => simp [intOf]; omega
      have H1 := Lib.hid (show q + 1 = rangeN (ss.take (k + 1)) key by rw [rangeN_take Hs.out, hle, ← Hq.out]; rfl)
      have hle' : (Op.bytesLess s.toList key.toList || s.toList == key.toList) = true := hle
      clear hle
      go_wp2
      go_round
      case rel => exact ⟨k + 1, q + 1, by omega, by omega, by go_num, by go_num, H1⟩
      case measure => simp [intOf]; omega
    · have H1 := Lib.hid (show (q : Int) = rangeN ss key by rw [Hq.out, List.take_of_length_le (by rw [hl.out]; omega)])
      go_wp2
      go_ret
      exact ⟨ret_int H1.out, rfl⟩

/-- No cut ahead of k is greater than key. -/
def NotTo (ss : List ByteArray) (key : ByteArray) (k : Nat) : Prop := ∀ j x, j < k → ss[j]? = some x → Op.bytesLess key.toList x.toList = false
theorem NotTo.succ {ss : List ByteArray} {key s : ByteArray} {k : Nat} (h : NotTo ss key k) (hs : ss[k]? = some s) (h1 : Op.bytesLess key.toList s.toList = false) : NotTo ss key (k + 1) := fun j x hj hx => by
  rcases Nat.lt_or_ge j k with h2 | h2
  · exact h j x h2 hx
  · obtain rfl : j = k := by omega
    rw [hs] at hx; injection hx with e; rw [← e]; exact h1
set_option maxRecDepth 100000 in
set_option maxHeartbeats 1000000 in
theorem l2Range_any (a : Option Addr) (n cap : Nat) (ss : List ByteArray) (key : ByteArray) (w : World) (hc : cutsB ss = true) (hR : Rd w w.heap.size 1 a n (strC ss)) :
    Calls Try.prog 84 #[.slice a n cap, .string key] w fun e w' => e = .returned (.int .i64 (rangeN ss key)) ∧ w = w' := by
  have hl := Lib.hid hR.strs_length
  have hm : n < 8 := by have := (cutsB_good hc).1; have := hl.out; omega
  have Hc := Lib.hid hc
  clear hc
  go_enter Try.func84, Try.ntmps84
  go_wp2
  go_loop [5] (fun c => ∃ k : Nat, k ≤ n ∧ c = .int .i64 k ∧ NotTo ss key k) (fun c => n - (intOf c).toNat)
  case atStart => exact ⟨0, Nat.zero_le _, rfl, fun _ _ h => absurd h (by omega)⟩
  case round =>
    obtain ⟨k, hk, rfl, hN⟩ := hrel
    by_cases hlt : k < n
    · obtain ⟨b, off, s, rfl, hB, hs, c0⟩ := hR.str hlt
      have Hs := Lib.hid hs
      clear hs
      cases hle : Op.bytesLess key.toList s.toList
      case false =>
        have H1 := hN.succ Hs.out hle
        go_wp2
        go_round
        case rel => exact ⟨k + 1, by omega, by go_num, H1⟩
        case measure => simp [intOf]; omega
      have H1 := Lib.hid (show (k : Int) = rangeN ss key by rw [rangeN_at Hc.out Hs.out hN hle])
      go_wp2
      go_ret
      exact ⟨ret_int H1.out, rfl⟩
    · have hd : decide ((k : Nat) < n) = false := by simpa using hlt
      have H1 := Lib.hid (show (k : Int) = rangeN ss key by rw [rangeN_all (by rw [hl.out]; omega) hN])
      go_wp2
      go_ret
      exact ⟨ret_int H1.out, rfl⟩
end Go.Proofs.Ytgkjpkkdcgndcaa
