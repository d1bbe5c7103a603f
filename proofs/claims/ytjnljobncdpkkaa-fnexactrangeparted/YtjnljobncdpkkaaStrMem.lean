/-
  laws.szStringS, laws.toStringS and laws.eqStringS by their contracts. Conditions: at most 1048576 strings.
-/
import Derived.Test.YtjnljobncdpkkaaCutsFns
namespace Go.Proofs.Ytjnljobncdpkkaa
open Go.RowKit

set_option maxRecDepth 100000 in
set_option maxHeartbeats 1000000 in
theorem szStringS_any (a : Option Addr) (len cap : Nat) (ss : List ByteArray) (left : Int) (w : World) (hm : len ≤ maxLen) (hok : MaxS ss) (hR : Rd w w.heap.size 1 a len (strC ss)) (h0 : 0 ≤ left) (h1 : left ≤ 1048576) :
    Calls Try.prog 44 #[.slice a len cap, .int .i64 left] w (SzOut left len w) := by
  unfold maxLen at hm
  by_cases hs : left < len
  · go_enter Try.func44, Try.ntmps44
    go_wp2
    go_ret
    exact ⟨-1, rfl, Below.refl _ _, .inl rfl⟩
  go_enter Try.func44, Try.ntmps44
  go_wp2
  go_loop [1, 5] (fun l i => ∃ (k : Nat) (z : Int), k ≤ len ∧ i = .int .i64 k ∧ l = .int .i64 z ∧ 0 ≤ z ∧ z ≤ left) (fun _ i => len - (intOf i).toNat)
  case atStart => exact ⟨0, left - len, Nat.zero_le _, rfl, rfl, by omega, by omega⟩
  case round =>
    obtain ⟨k, z, hk, rfl, rfl, hz0, hz1⟩ := hrel
    by_cases hlt : k < len
    · obtain ⟨b, off, s, rfl, hB, hs', c0⟩ := hR.str hlt
      have hro := hok.at_ hs'
      clear hs'
      unfold maxLen at hro
      by_cases hneg : z < s.size
      · go_wp2
        go_ret
        exact ⟨-1, rfl, Below.refl _ _, .inl rfl⟩
      go_wp2
      go_round
      case rel => exact ⟨k + 1, z - s.size, by omega, by go_num, rfl, by omega, by omega⟩
      case measure => simp [intOf]; omega
    · go_wp2
      go_ret
      exact ⟨z, rfl, Below.refl _ _, .inr ⟨hz0, hz1, by omega⟩⟩
theorem infoStr : (Try.prog.info? 9).map (fun i => (i.zero, i.size, i.bytes)) = some (some (.string ⟨#[]⟩), 1, 16) := by kernel_rfl
theorem strC_take_succ {ss : List ByteArray} {k : Nat} {s : ByteArray} (h : ss[k]? = some s) : strC (ss.take (k + 1)) = strC (ss.take k) ++ [.string s] := by
  have hk := (List.getElem?_eq_some_iff.1 h).1
  have e : ss[k] = s := by rw [List.getElem?_eq_getElem hk] at h; injection h
  unfold strC
  rw [List.take_succ_eq_append_getElem hk, List.map_append, e]; rfl
theorem take_set1 {xs A : List Value} {k : Nat} (a : Value) (h : xs.take k = A) (hl : k < xs.length) : (xs.set k a).take (k + 1) = A ++ [a] := by
  subst h
  rw [List.take_succ_eq_append_getElem (by simpa using hl), List.take_set_of_le (Nat.le_refl _)]
  simp
set_option maxRecDepth 100000 in
set_option maxHeartbeats 1000000 in
theorem toStringS_any (a : Option Addr) (len cap : Nat) (ss : List ByteArray) (w : World) (hm : len ≤ 1048576) (hR : Rd w w.heap.size 1 a len (strC ss)) :
    Calls Try.prog 46 #[.slice a len cap] w fun e w' => e = .returned (.slice (some ⟨w.heap.size, 0, none⟩) len len) ∧ Below w.heap.size w w' ∧ w'.ownsRow w.heap.size 9 1 (.slice (some ⟨w.heap.size, 0, none⟩) len len) len (strC ss) := by
  obtain ⟨i0, hi, hz0, hz1, hz2⟩ := info_parts infoStr
  go_enter Try.func46, Try.ntmps46
  go_wp2_with (at_make; refine wpList_make_full _ rfl _ _ 32 rfl w.heap.size 9 i0 (.string ⟨#[]⟩) 1 Try.underlying32 hi hz0 hz1 .i64 .i64 _ _ len rfl rfl (by omega) (by omega) (by rw [hz2]; omega) (by unfold maxLen; omega) (Nat.le_refl _) ?_; intro w1 hown hgrow)
  have hb1 := (Below.refl w.heap.size w).grown hgrow (Nat.le_refl _) (by simp)
  clear hgrow
  go_loopw [4] (fun i wr => ∃ (k : Nat) (xs : List Value), k ≤ len ∧ i = .int .i64 k ∧ Below w.heap.size w wr ∧ wr.ownsRow w.heap.size 9 1 (.slice (some ⟨w.heap.size, 0, none⟩) len len) len xs ∧ xs.take k = strC (ss.take k)) (fun i _ => len - (intOf i).toNat)
  case atStart => exact ⟨0, _, Nat.zero_le _, rfl, hb1, hown, by simp [strC]⟩
  case round =>
    obtain ⟨k, xs, hk, rfl, hb, hO, hx⟩ := hrel
    have Hx := Lib.hid hx
    clear hx hown hb1
    by_cases hlt : k < len
    · obtain ⟨b, off, s, rfl, hB, hs, c0⟩ := (hR.below hb (Nat.le_refl _)).str hlt
      have Hs := Lib.hid hs
      have f0 := hO.frozenAt k
      obtain ⟨u0, e0⟩ := own_cell hO (j := k) (by omega)
      have hxl : k < xs.length := by rw [hO.1]; omega
      clear hs
      go_wp2_with fail
      go_roundw
      case rel => exact ⟨k + 1, _, by omega, by go_num, hb.setCell (p := ⟨w.heap.size, k, none⟩) (Nat.le_refl _) _, (hO.stored k _).1, (take_set1 _ Hx.out hxl).trans (strC_take_succ Hs.out).symm⟩
      case measure => simp [intOf]; omega
    · obtain rfl : k = len := by omega
      have hx := Hx.out
      rw [List.take_of_length_le (by rw [hO.1]; omega), List.take_of_length_le (by rw [hR.strs_length]; omega)] at hx
      subst hx
      go_wp2_with fail
      go_ret
      exact ⟨rfl, hb, hO⟩
set_option maxRecDepth 100000 in
set_option maxHeartbeats 1000000 in
theorem eqStringS_same (a b : Option Addr) (n ca cb : Nat) (ss : List ByteArray) (w : World) (hm : n ≤ 1048576) (hA : Rd w w.heap.size 1 a n (strC ss)) (hB : Rd w w.heap.size 1 b n (strC ss)) :
    Calls Try.prog 26 #[.slice a n ca, .slice b n cb] w fun e w' => e = .returned (.bool true) ∧ Below w.heap.size w w' := by
  go_enter Try.func26, Try.ntmps26
  go_wp2
  go_loopw [5] (fun i wr => ∃ k : Nat, k ≤ n ∧ i = .int .i64 k ∧ Below w.heap.size w wr) (fun i _ => n - (intOf i).toNat)
  case atStart => exact ⟨0, Nat.zero_le _, rfl, Below.refl _ _⟩
  case round =>
    obtain ⟨k, hk, rfl, hb⟩ := hrel
    by_cases hlt : k < n
    · obtain ⟨b1, o1, s, rfl, hB1, hs, c0⟩ := (hA.below hb (Nat.le_refl _)).str hlt
      obtain ⟨b2, o2, s', rfl, hB2, hs', d0⟩ := (hB.below hb (Nat.le_refl _)).str hlt
      obtain rfl : s = s' := by rw [hs] at hs'; injection hs'
      clear hs hs'
      go_wp2_with fail
      go_quiet (fail)
      go_wp2
      go_roundw
      case rel => exact ⟨k + 1, by omega, by go_num, below_drewN hb _⟩
      case measure => simp [intOf]; omega
    · go_wp2_with fail
      go_ret
      exact ⟨rfl, hb⟩
end Go.Proofs.Ytjnljobncdpkkaa
