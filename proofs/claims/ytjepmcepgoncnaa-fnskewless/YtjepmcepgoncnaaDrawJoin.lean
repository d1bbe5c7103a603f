
/-
  spec.DrawJoinOf and laws.samePairs by their contracts. Conditions: those of each statement.
-/
import Derived.Test.YtjepmcepgoncnaaDrawRows
import Derived.Test.YtjepmcepgoncnaaPairRead
import Derived.Test.YtjepmcepgoncnaaSame
import Derived.Laws.StructEq
namespace Go.Proofs.Ytjepmcepgoncnaa
open Go.RowKit
theorem rd_nil3 (w : World) (B : Nat) : Rd w B 3 none 0 (flat []) := ⟨by simp [flat], fun h => absurd h (by omega)⟩
set_option maxRecDepth 100000 in
set_option maxHeartbeats 1000000 in
theorem samePairs_same (a b : Option Addr) (n ca cb : Nat) (l : List PairV) (w : World) (hm : n ≤ 4194304) (hA : Rd w w.heap.size 5 a n (flatP l)) (hB : Rd w w.heap.size 5 b n (flatP l)) :
    Calls Try.prog 42 #[.slice a n ca, .slice b n cb] w fun e w' => e = .returned (.bool true) ∧ Below w.heap.size w w' := by
  go_enter Try.func42, Try.ntmps42
  go_wp2
  go_loopw [5] (fun i wr => ∃ k : Nat, k ≤ n ∧ i = .int .i64 k ∧ Below w.heap.size w wr) (fun i _ => n - (intOf i).toNat)
  case atStart => exact ⟨0, Nat.zero_le _, rfl, Below.refl _ _⟩
  case round =>
    obtain ⟨k, hk, rfl, hb⟩ := hrel
    by_cases hlt : k < n
    · obtain ⟨b1, o1, r, rfl, hB1, hr, c0, c1, c2, c3, c4⟩ := (hA.below hb (Nat.le_refl _)).pair hlt
      obtain ⟨b2, o2, r', rfl, hB2, hr', d0, d1, d2, d3, d4⟩ := (hB.below hb (Nat.le_refl _)).pair hlt
      obtain rfl : r = r' := by rw [hr] at hr'; injection hr'
      clear hr hr'
      go_wp2_with fail
      go_quiet (fail)
      have hb1 := hb.trans ((show Below wr.heap.size wr (wr.drewN nq) from below_drewN (Below.refl _ _) nq).mono hb.size)
      generalize wr.drewN nq = w1 at *
      clear c0 c1 c2 c3 c4 d0 d1 d2 d3 d4
      go_wp2_with fail
      go_roundw
      case rel => exact ⟨k + 1, by omega, by go_num, hb1⟩
      case measure => simp [intOf]; omega
    · go_wp2_with fail
      go_ret
      exact ⟨rfl, hb⟩
end Go.Proofs.Ytjepmcepgoncnaa
