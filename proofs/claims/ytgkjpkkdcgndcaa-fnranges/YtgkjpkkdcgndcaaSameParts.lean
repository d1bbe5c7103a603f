/-
  laws.sameParts of the same parts; the draw of rows and cuts. Conditions: those of each statement.
-/
import Derived.Test.YtgkjpkkdcgndcaaCutsTrue
import Derived.Test.YtgkjpkkdcgndcaaRangePartedFns
import Derived.StillTailTactics
namespace Go.Proofs.Ytgkjpkkdcgndcaa
open Go.RowKit

set_option maxRecDepth 100000 in
set_option maxHeartbeats 1000000 in
theorem sameParts_same (a b : Option Addr) (n ca cb : Nat) (ps : List (List RowV)) (w : World) (hm : n ≤ 1048576) (hr : rowsIn ps ≤ 1048576) (hA : PRd w w.heap.size a n ps) (hB : PRd w w.heap.size b n ps) :
    Calls Try.prog 19 #[.slice a n ca, .slice b n cb] w fun e w' => e = .returned (.bool true) ∧ Below w.heap.size w w' := by
  go_enter Try.func19, Try.ntmps19
  go_wp2
  go_loopw [5] (fun i wr => ∃ k : Nat, k ≤ n ∧ i = .int .i64 k ∧ Below w.heap.size w wr) (fun i _ => n - (intOf i).toNat)
  case atStart => exact ⟨0, Nat.zero_le _, rfl, Below.refl _ _⟩
  case round =>
    obtain ⟨k, hk, rfl, hb⟩ := hrel
    by_cases hlt : k < n
    · obtain ⟨b1, o1, a1, c1, rs, rfl, hB1, hr1, d1, R1⟩ := (hA.below hb (Nat.le_refl _)).at_ hlt
      obtain ⟨b2, o2, a2, c2, rs', rfl, hB2, hr2, d2, R2⟩ := (hB.below hb (Nat.le_refl _)).at_ hlt
      obtain rfl : rs = rs' := by rw [hr1] at hr2; injection hr2
      have hl := rowsIn_at hr1
      have R1' := (R1.more hb.size)
      have R2' := (R2.more hb.size)
      clear hr1 hr2 R1 R2
      go_wp2_with fail
      refine wp_region_still_tail 10 (by kernel_rfl) (by kernel_rfl) ?_
      simp only [List.take_succ_cons, List.take_zero, List.drop_succ_cons, List.drop_zero]
      change wpStill _ _ wr.drew _ _ _
      repeat still_step
      refine wpStill_nil ?_
      change wpList _ _ _ _ _ wr.drew
      go_wp2_with fail
      refine (sameRows_same a1 a2 rs.length c1 c2 rs _ (by omega) R1'.drew' R2'.drew').mono ?_
      rintro e w1 ⟨rfl, hb1⟩
      clear d1 d2
      go_wp2_with fail
      go_roundw
      case rel => exact ⟨k + 1, by omega, by go_num, hb.drew.trans (hb1.mono hb.size)⟩
      case measure => simp [intOf]; omega
    · go_wp2_with fail
      go_ret
      exact ⟨rfl, hb⟩
set_option maxRecDepth 100000 in
theorem drawRangeParted_any (a : Option Addr) (len cap : Nat) (w : World) (hl : len ≤ 1048576) (h : IsBy w w.heap.size a len) :
    Calls Try.prog 15 #[.slice a len cap] w fun e w' => ∃ (l : List RowV) (b c : Nat) (ss : List ByteArray) (d : Option Addr) (dc : Nat), l.length ≤ 12 ∧ (∀ r ∈ l, r.Ok) ∧ ss.length ≤ 9 ∧ MaxS ss ∧ l.length ≤ c ∧ e = .returned (.tuple #[.slice (some ⟨b, 0, none⟩) l.length c, .slice d ss.length dc]) ∧ Rd w' w'.heap.size 3 (some ⟨b, 0, none⟩) l.length (flat l) ∧ Rd w' w'.heap.size 1 d ss.length (strC ss) ∧ Below w.heap.size w w' := by
  go_enter Try.func15, Try.ntmps15
  go_wp2_with fail
  refine (l1Open_any a len cap w hl h).mono ?_
  rintro e w1 ⟨rfl, hR1, hb1⟩
  have hg0 := hR1.lt
  go_wp2_with fail
  refine (rows_lit w.heap.size len 12 _ _ hR1 (by omega) (by omega) (by omega)).mono ?_
  rintro e w2 ⟨l, b, c, hll, hok, rfl, hO, hD⟩
  have hcap := own_cap hO
  go_wp2_with fail
  refine (cuts_any w.heap.size len _ hD.rdr).mono ?_
  rintro e w3 ⟨ss, d, dc, rfl, hle, hmx, hO3, hD3⟩
  have R3 := Rd.of_own (hD3.own hO hg0)
  have D3 := Rd.of_own hO3
  have hb3 := below_drew hb1 (hD.trans hD3)
  clear hD hD3 hO hb1 hR1 hO3
  go_wp2_with fail
  go_ret2
  exact ⟨l, b, c, ss, d, dc, hll, hok, hle, hmx, hcap, rfl, R3, D3, hb3⟩
end Go.Proofs.Ytgkjpkkdcgndcaa
