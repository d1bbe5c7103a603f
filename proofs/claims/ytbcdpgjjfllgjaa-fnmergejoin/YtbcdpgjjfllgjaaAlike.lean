/-
  laws.alike and laws.back by their contracts: two lists that are permutations of each other are alike; the rows the other way round. Condition: at most 1048576 rows.
-/
import Derived.Test.YtbcdpgjjfllgjaaSame
import Derived.Deep.RegionWith
namespace Go.Proofs.Ytbcdpgjjfllgjaa
open Go.RowKit

set_option maxRecDepth 100000 in
set_option maxHeartbeats 2000000 in
theorem back_any (a : Option Addr) (n cap : Nat) (rs : List RowV) (w : World) (hm : n ≤ 1048576) (hR : Rd w w.heap.size 3 a n (flat rs)) :
    Calls Try.prog 30 #[.slice a n cap] w fun e w' => ∃ b c, e = .returned (.slice b n c) ∧ w'.ownsRow w.heap.size 39 3 (.slice b n c) n (flat rs.reverse) ∧ Below w.heap.size w w' := by
  obtain ⟨i0, hi, hz0, hz1, hz2⟩ := info_parts infoRow
  have hl := Lib.hid hR.rows_length
  have hO0 : (w.alloc (.cells #[] 39)).ownsRow w.heap.size 39 3 (.slice (some ⟨w.heap.size, 0, none⟩) 0 0) 0 (flat (rs.drop n).reverse) := by
    rw [List.drop_eq_nil_of_le (by rw [hl.out]; omega)]
    exact World.ownsRow_lit (base := w.heap.size) (size := 3) w #[] 0 (Nat.le_refl _) (Nat.zero_le _) rfl
  go_enter Try.func30, Try.ntmps30
  go_wp2_with fail
  go_loopw [3, 4] (fun v i wr => ∃ (k q : Nat) (b : Option Addr) (c : Nat), (k + q ≤ n ∧ n ≤ k + q) ∧ i = .int .i64 ((k : Int) - 1) ∧ v = .slice b q c ∧ wr.ownsRow w.heap.size 39 3 (.slice b q c) q (flat (rs.drop k).reverse) ∧ Below w.heap.size w wr) (fun _ i _ => (intOf i + 1).toNat)
  case atStart => exact ⟨n, 0, _, 0, by omega, by go_num, rfl, hO0, bl1 _ _⟩
  case round =>
    obtain ⟨k, q, b, c, hkq, rfl, rfl, hO, hb⟩ := hrel
    clear hO0
    by_cases hpos : 0 < k
    · obtain ⟨j, hj1, hj2⟩ : ∃ j : Nat, j < k ∧ k < j + 2 := ⟨k - 1, by omega, by omega⟩
      obtain ⟨b1, o1, r, rfl, hB1, hr, c0, c1, c2⟩ := (hR.below hb (Nat.le_refl _)).row (k := j) (by omega)
      have HE := Lib.hid (show flat (rs.drop k).reverse ++ [.string r.key, .int .i64 r.tag, .string r.val] = flat (rs.drop j).reverse by
        obtain ⟨hq, e⟩ := List.getElem?_eq_some_iff.1 hr
        rw [List.drop_eq_getElem_cons hq, e, show j + 1 = k by omega, List.reverse_cons, flat_append]; rfl)
      have hk : ((k : Int) - 1) = (j : Int) := by omega
      have hk' := Lib.hid hk
      clear hr hk
      rw [hk'.out]
      go_wp2_with (at_builtin; refine wpList_append_own _ rfl _ _ 27 rfl w.heap.size 39 i0 (.agg #[.string ⟨#[]⟩, .int .i64 0, .string ⟨#[]⟩]) 3 40 Try.underlying27 hi hz0 hz1 hz2 rfl (by decide) _ _ _ rfl (hO.alloc _) ⟨wr.heap.size, 0, none⟩ 1 1 [.string r.key, .int .i64 r.tag, .string r.val] rfl rfl ?c1 ?c2 ?c3 ?c4 ?c5 ?_)
      case c1 =>
        intro j u hj
        match j, hj with
        | 0, hj => simp at hj; subst hj; simp [Addr.add, go_sem]
        | 1, hj => simp at hj; subst hj; simp [Addr.add, go_sem]
        | 2, hj => simp at hj; subst hj; simp [Addr.add, go_sem]
      case c2 =>
        intro u hu
        simp at hu
        rcases hu with rfl | rfl | rfl <;> rfl
      case c3 => unfold maxLen; omega
      case c4 => omega
      case c5 => have := hb.size; simp; omega
      intro v' w4 hO4 hg4 _
      obtain ⟨a', cap', rfl⟩ := own_slice' hO4
      have hb4 := (hb.alloc hb.size (.cells #[.string r.key, .int .i64 r.tag, .string r.val] 39)).grown hg4 (by have := hb.size; simp; omega) (fun q e => (own_ge hO q e).1)
      rw [HE.out] at hO4
      clear hg4 hO c0 c1 c2
      go_wp2_with fail
      go_roundw
      case rel => exact ⟨j, q + 1, a', cap', by omega, by go_num, rfl, hO4, hb4⟩
      case measure => simp [intOf]
    · obtain rfl : k = 0 := by omega
      obtain rfl : q = n := by omega
      rw [List.drop_zero] at hO
      go_wp2_with fail
      go_ret
      exact ⟨b, c, rfl, hO, hb⟩
end Go.Proofs.Ytbcdpgjjfllgjaa
