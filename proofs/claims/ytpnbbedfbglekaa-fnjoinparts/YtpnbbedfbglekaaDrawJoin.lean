/-
  spec.DrawJoinOf and laws.samePairs by their contracts. Conditions: those of each statement.
-/
import Derived.Test.YtpnbbedfbglekaaDrawRows
import Derived.Test.YtpnbbedfbglekaaPairRead
import Derived.Test.YtpnbbedfbglekaaSame
import Derived.Laws.StructEq
namespace Go.Proofs.Ytpnbbedfbglekaa
open Go.RowKit
theorem rd_nil3 (w : World) (B : Nat) : Rd w B 3 none 0 (flat []) := ⟨by simp [flat], fun h => absurd h (by omega)⟩
set_option maxRecDepth 100000 in
set_option maxHeartbeats 1000000 in
theorem samePairs_same (a b : Option Addr) (n ca cb : Nat) (l : List PairV) (w : World) (hm : n ≤ 4194304) (hA : Rd w w.heap.size 5 a n (flatP l)) (hB : Rd w w.heap.size 5 b n (flatP l)) :
    Calls Try.prog 36 #[.slice a n ca, .slice b n cb] w fun e w' => e = .returned (.bool true) ∧ Below w.heap.size w w' := by
  go_enter Try.func36, Try.ntmps36
  go_wp2
  go_loopw [5] (fun i wr => ∃ k : Nat, k ≤ n ∧ i = .int .i64 k ∧ Below w.heap.size w wr) (fun i _ => n - (intOf i).toNat)
  case atStart => exact ⟨0, Nat.zero_le _, rfl, Below.refl _ _⟩
  case round =>
    obtain ⟨k, hk, rfl, hb⟩ := hrel
    by_cases hlt : k < n
    · obtain ⟨b1, o1, r, rfl, hB1, hr, c0, c1, c2, c3, c4⟩ := (hA.below hb (Nat.le_refl _)).pair hlt
      obtain ⟨b2, o2, r', rfl, hB2, hr', d0, d1, d2, d3, d4⟩ := (hB.below hb (Nat.le_refl _)).pair hlt
      obtain rfl : r = r' := by rw [hr] at hr'; injection hr'
      clear hr hr'
      go_wp2_with fail
      go_quiet (fail)
      have hb1 := hb.trans ((show Below wr.heap.size wr (wr.drewN nq) from below_drewN (Below.refl _ _) nq).mono hb.size)
      generalize wr.drewN nq = w1 at *
      clear c0 c1 c2 c3 c4 d0 d1 d2 d3 d4
      go_wp2_with fail
      go_roundw
      case rel => exact ⟨k + 1, by omega, by go_num, hb1⟩
      case measure => simp [intOf]; omega
    · go_wp2_with fail
      go_ret
      exact ⟨rfl, hb⟩
set_option maxRecDepth 100000 in
theorem drawJoinOf_any (a : Option Addr) (len cap : Nat) (w : World) (hl : len ≤ 1048576) (h : IsBy w w.heap.size a len) :
    Calls Try.prog 33 #[.slice a len cap] w fun e w' => ∃ (l : List RowV) (b c : Nat) (m : List RowV) (d f : Nat) (z : Int), l.length ≤ 7 ∧ (∀ r ∈ l, r.Ok) ∧ m.length ≤ 7 ∧ (∀ r ∈ m, r.Ok) ∧
      e = .returned (.tuple #[.slice (some ⟨b, 0, none⟩) l.length c, .slice (some ⟨d, 0, none⟩) m.length f, .int .i64 z]) ∧ w'.ownsRow w.heap.size 52 3 (.slice (some ⟨b, 0, none⟩) l.length c) l.length (flat l) ∧ w'.ownsRow w.heap.size 52 3 (.slice (some ⟨d, 0, none⟩) m.length f) m.length (flat m) ∧ Below w.heap.size w w' := by
  go_enter Try.func33, Try.ntmps33
  go_wp2_with fail
  refine (l1Open_any a len cap w hl h).mono ?_
  rintro e w1 ⟨rfl, hR1, hb1⟩
  have hlt := hR1.lt
  go_wp2_with fail
  refine (rows_lit w.heap.size len 7 _ _ hR1 (by omega) (by omega) (by omega)).mono ?_
  rintro e w2 ⟨l, b, c, hll, hok, rfl, hO, hD⟩
  have hlt2 := hD.rdr.lt
  go_wp2_with fail
  refine (rows_lit w.heap.size len 7 _ _ hD.rdr (by omega) (by omega) (by omega)).mono ?_
  rintro e w3 ⟨m, d, f, hml, hmok, rfl, hP, hD2⟩
  have O3 := hD2.own hO hlt
  have D3 := hD.trans hD2
  go_wp2_with fail
  refine (off_any w.heap.size len 1 6 _ D3.rdr (by omega) (by omega) (by omega)).mono ?_
  rintro e w4 ⟨z, hz0, hz1, rfl, hD3⟩
  have O4 := hD3.own O3 hlt
  have P4 := hD3.own hP hlt2
  have hb4 := below_drew hb1 (D3.trans hD3)
  have hws1 : w.heap.size ≤ w1.heap.size := hb1.size
  have hws2 : w.heap.size ≤ w2.heap.size := Nat.le_trans hws1 hD.size
  clear hO O3 hP hD hD2 D3 hD3
  go_wp2_with fail
  refine bodyPost_ret (v := .tuple #[.slice (some ⟨b, 0, none⟩) l.length c, .slice (some ⟨d, 0, none⟩) m.length f, .int .i64 z]) ?_ rfl ⟨l, b, c, m, d, f, z, hll, hok, hml, hmok, rfl, own_base' O4 hws1, own_base' P4 hws2, hb4⟩
  simp [results, Try.results33, go_sem]
end Go.Proofs.Ytpnbbedfbglekaa
