/-
  laws.szStringS, laws.toStringS and laws.eqStringS by their contracts. Conditions: at most 1048576 strings.
-/
import Derived.Test.YtgdbpckobngmjaaCutsFns
namespace Go.Proofs.Ytgdbpckobngmjaa
open Go.RowKit

theorem infoStr : (Try.prog.info? 9).map (fun i => (i.zero, i.size, i.bytes)) = some (some (.string ⟨#[]⟩), 1, 16) := by kernel_rfl
theorem strC_take_succ {ss : List ByteArray} {k : Nat} {s : ByteArray} (h : ss[k]? = some s) : strC (ss.take (k + 1)) = strC (ss.take k) ++ [.string s] := by
  have hk := (List.getElem?_eq_some_iff.1 h).1
  have e : ss[k] = s := by rw [List.getElem?_eq_getElem hk] at h; injection h
  unfold strC
  rw [List.take_succ_eq_append_getElem hk, List.map_append, e]; rfl
theorem take_set1 {xs A : List Value} {k : Nat} (a : Value) (h : xs.take k = A) (hl : k < xs.length) : (xs.set k a).take (k + 1) = A ++ [a] := by
  subst h
  rw [List.take_succ_eq_append_getElem (by simpa using hl), List.take_set_of_le (Nat.le_refl _)]
  simp
set_option maxRecDepth 100000 in
set_option maxHeartbeats 1000000 in
theorem eqStringS_same (a b : Option Addr) (n ca cb : Nat) (ss : List ByteArray) (w : World) (hm : n ≤ 1048576) (hA : Rd w w.heap.size 1 a n (strC ss)) (hB : Rd w w.heap.size 1 b n (strC ss)) :
    Calls Try.prog 137 #[.slice a n ca, .slice b n cb] w fun e w' => e = .returned (.bool true) ∧ Below w.heap.size w w' := by
  go_enter Try.func137, Try.ntmps137
  go_wp2
  go_loopw [5] (fun i wr => ∃ k : Nat, k ≤ n ∧ i = .int .i64 k ∧ Below w.heap.size w wr) (fun i _ => n - (intOf i).toNat)
  case atStart => exact ⟨0, Nat.zero_le _, rfl, Below.refl _ _⟩
  case round =>
    obtain ⟨k, hk, rfl, hb⟩ := hrel
    by_cases hlt : k < n
    · obtain ⟨b1, o1, s, rfl, hB1, hs, c0⟩ := (hA.below hb (Nat.le_refl _)).str hlt
      obtain ⟨b2, o2, s', rfl, hB2, hs', d0⟩ := (hB.below hb (Nat.le_refl _)).str hlt
      obtain rfl : s = s' := by rw [hs] at hs'; injection hs'
      clear hs hs'
      go_wp2_with fail
      go_quiet (fail)
      go_wp2
      go_roundw
      case rel => exact ⟨k + 1, by omega, by go_num, below_drewN hb _⟩
      case measure => simp [intOf]; omega
    · go_wp2_with fail
      go_ret
      exact ⟨rfl, hb⟩
end Go.Proofs.Ytgdbpckobngmjaa
