/-
  laws.alike and laws.back by their contracts: two lists that are permutations of each other are alike; the rows the other way round. Condition: at most 1048576 rows.
-/
import Derived.Test.YtgkjpkkdcgndcaaSame
import Derived.Deep.RegionWith
namespace Go.Proofs.Ytgkjpkkdcgndcaa
open Go.RowKit

set_option maxRecDepth 100000 in
set_option maxHeartbeats 2000000 in
theorem alike_perm (a b : Option Addr) (n ca cb : Nat) (rs ss : List RowV) (w : World) (hm : n ≤ 1048576) (hp : rs.Perm ss) (hA : Rd w w.heap.size 3 a n (flat rs)) (hB : Rd w w.heap.size 3 b n (flat ss)) :
    Calls Try.prog 22 #[.slice a n ca, .slice b n cb] w fun e w' => e = .returned (.bool true) ∧ Below w.heap.size w w' := by
  have HP := Lib.hid hp
  clear hp
  go_enter Try.func22, Try.ntmps22
  go_wp2
  go_loopw [5] (fun i wr => ∃ k : Nat, k ≤ n ∧ i = .int .i64 k ∧ Below w.heap.size w wr) (fun i _ => n - (intOf i).toNat)
  case atStart => exact ⟨0, Nat.zero_le _, rfl, Below.refl _ _⟩
  case round =>
    obtain ⟨k, hk, rfl, hb⟩ := hrel
    by_cases hlt : k < n
    · obtain ⟨b1, o1, x, rfl, hB1, hr, c0, c1, c2⟩ := (hA.below hb (Nat.le_refl _)).row hlt
      have HA := Lib.hid (show Rd wr.drew wr.drew.heap.size 3 (some ⟨b1, o1, none⟩) n (flat rs) from (hA.below hb.drew (Nat.le_refl _)).more hb.size)
      have HB := Lib.hid (show Rd wr.drew w.heap.size 3 b n (flat ss) from hB.below hb.drew (Nat.le_refl _))
      have hws : b1 < wr.drew.heap.size := Nat.lt_of_lt_of_le hB1 hb.size
      have HE := Lib.hid (manyN_perm HP.out x)
      have C1 := many_any (some ⟨b1, o1, none⟩) n ca rs x wr.drew hm HA.out
      clear hr HA
      go_wp2_with fail
      go_region_with (go_at_call 88; first | (refine C1.mono ?_; clear C1; rintro e w1 ⟨rfl, hb1⟩; have e0 := (hb1.cell (p := ⟨b1, o1 + k * 3, none⟩) hws).trans c0; have e1 := (hb1.cell (p := ⟨b1, o1 + k * 3 + 1, none⟩) hws).trans c1; have e2 := (hb1.cell (p := ⟨b1, o1 + k * 3 + 2, none⟩) hws).trans c2) | (refine (many_any b n cb ss x w1 hm ((HB.out.below hb1 hb.size).more (Nat.le_trans hb.size hb1.size))).mono ?_; rintro e w2 ⟨rfl, hb2⟩))
      all_goals
        rw [HE.out]
        have hz : (((manyN ss x : Nat) : Int) != ((manyN ss x : Nat) : Int)) = false := by simp
        have hbn := hb.drew.trans ((hb1.trans (hb2.mono hb1.size)).mono hb.size)
        clear c0 c1 c2 e0 e1 e2 hb1 hb2 HE HB
        go_wp2_with fail
        go_roundw
        case rel => exact ⟨k + 1, by omega, by go_num, hbn⟩
        case measure => simp [intOf]; omega
    · go_wp2_with fail
      go_ret
      exact ⟨rfl, hb⟩
end Go.Proofs.Ytgkjpkkdcgndcaa
