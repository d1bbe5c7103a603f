/-
  impl.pairsOfSides by its contract. Conditions: at most 1000 sides on each hand.
-/
import Derived.Maps.AppendAt
import Derived.Test.YtgdbpckobngmjaaPairsMath
namespace Go.Proofs.Ytgdbpckobngmjaa
open Go.RowKit
set_option maxRecDepth 100000 in
set_option maxHeartbeats 2000000 in
theorem pairsOfSides_any (key : ByteArray) (a b : Option Addr) (n ca m cb : Nat) (la lb : List SideV) (w : World) (hn : n ≤ 1000) (hm : m ≤ 1000) (hA : Rd w w.heap.size 2 a n (flatD la)) (hB : Rd w w.heap.size 2 b m (flatD lb)) :
    Calls Try.prog 148 #[.string key, .slice a n ca, .slice b m cb] w (PairsOut w (pairsL key la lb)) := by
  have h1 := Lib.hid hA.sides_length
  have h2 := Lib.hid hB.sides_length
  obtain ⟨i0, hi, hz0, hz1, hz2⟩ := info_parts infoPair
  obtain ⟨p, hp⟩ : ∃ p, n * m = p := ⟨_, rfl⟩
  have hp1 : p ≤ 1000 * 1000 := by rw [← hp]; exact Nat.mul_le_mul hn hm
  have hmul : (n : Int) * (m : Int) = (p : Int) := by rw [← hp]; simp
  have HP := Lib.hid hp
  clear hp
  go_enter Try.func148, Try.ntmps148
  go_wp2_with (at_make; refine wpList_make_own _ rfl _ _ 70 rfl w.heap.size 88 i0 (.agg #[.string ⟨#[]⟩, .string ⟨#[]⟩, .string ⟨#[]⟩, .bool false, .bool false]) 5 Try.underlying70 hi hz0 hz1 .i64 .i64 _ p rfl rfl (by omega) (by rw [hz2]; omega) (by unfold maxLen; omega) (Nat.le_refl _) ?_; intro w1 hown hgrow)
  have hb1 := (Below.refl w.heap.size w).grown hgrow (Nat.le_refl _) (by simp)
  clear hgrow hmul
  go_loopw [7, 20] (fun v i wr => ∃ (k q : Nat) (g : Option Addr) (c : Nat), k ≤ n ∧ i = .int .i64 k ∧ v = .slice g q c ∧ Hid ((pairsK key la lb k 0).length = q) ∧ wr.ownsRow w.heap.size 88 5 (.slice g q c) q (flatP (pairsK key la lb k 0)) ∧ Below w.heap.size w wr) (fun _ i _ => n - (intOf i).toNat)
  case atStart => exact ⟨0, 0, _, _, Nat.zero_le _, rfl, rfl, Lib.hid (by rw [pairsK_zero]; rfl), by rw [pairsK_zero]; exact hown, hb1⟩
  case round =>
    obtain ⟨k, q, g, c, hk, rfl, rfl, HQ, hO, hb⟩ := hrel
    clear hown hb1
    by_cases hlt : k < n
    · obtain ⟨b1, o1, x, rfl, hB1, hx, c0, c1⟩ := (hA.below hb (Nat.le_refl _)).side hlt
      have Hx := Lib.hid hx
      clear hx
      obtain ⟨xv, xh⟩ := x
      have hb2 := bl1 wr (.cells #[.string xv, .bool xh] 190)
      have hX0 : (wr.alloc (.cells #[.string xv, .bool xh] 190)).cell? ⟨wr.heap.size, 0, none⟩ = some (.string xv) := by simp [go_sem]
      have hX1 : (wr.alloc (.cells #[.string xv, .bool xh] 190)).cell? ⟨wr.heap.size, 1, none⟩ = some (.bool xh) := by simp [go_sem]
      have hXl : wr.heap.size < (wr.alloc (.cells #[.string xv, .bool xh] 190)).heap.size := by simp
      have hO2 := own_below hO hb2
      have hB2 := hb.trans (hb2.mono hb.size)
      have hXw : w.heap.size ≤ wr.heap.size := hb.size
      have hNX : ∀ q', (Value.slice g q c).ownBlock = some q' → q' ≠ wr.heap.size := fun q' e => by have := (own_ge hO q' e).2; omega
      clear hb2 hO hb
      go_wp2_with fail
      generalize wr.alloc (.cells #[.string xv, .bool xh] 190) = w2 at *
      generalize wr.heap.size = X at *
      clear c0 c1
      go_loopw [7, 26] (fun v i wi => ∃ (j q : Nat) (g : Option Addr) (c : Nat), j ≤ m ∧ i = .int .i64 j ∧ v = .slice g q c ∧ Hid ((pairsK key la lb k j).length = q) ∧ wi.ownsRow w.heap.size 88 5 (.slice g q c) q (flatP (pairsK key la lb k j)) ∧ Below w.heap.size w wi ∧ wi.cell? ⟨X, 0, none⟩ = some (.string xv) ∧ wi.cell? ⟨X, 1, none⟩ = some (.bool xh) ∧ X < wi.heap.size ∧ Hid (∀ q', (Value.slice g q c).ownBlock = some q' → q' ≠ X)) (fun _ i _ => m - (intOf i).toNat)
      case atStart => exact ⟨0, q, g, c, Nat.zero_le _, rfl, rfl, HQ, hO2, hB2, hX0, hX1, hXl, Lib.hid hNX⟩
      case round =>
        clear hNX hX0 hX1 hXl hO2 hB2 HQ
        obtain ⟨j, q, g, c, hj, rfl, rfl, HQ, hO, hb, hX0, hX1, hXl, HN⟩ := hrel
        by_cases hlj : j < m
        · obtain ⟨b2, o2, y, rfl, hB2, hy, d0, d1⟩ := (hB.below hb (Nat.le_refl _)).side hlj
          have HE := Lib.hid (pairsK_next (key := key) Hx.out hy)
          clear hy
          obtain ⟨yv, yh⟩ := y
          have hq : q ≤ 1001000 := by
            rw [← HQ.out]
            exact pairsK_le (by rw [h1.out]; exact hk) (by rw [h2.out]; exact hj) (by rw [h1.out]; exact hn) (by rw [h2.out]; exact hm)
          have hb2 := bl1 wr (.cells #[.string yv, .bool yh] 190)
          have hO2 := own_below hO hb2
          have hBB := hb.trans (hb2.mono hb.size)
          clear hb2 hO
          have hZ0 : (wr.alloc (.cells #[.string yv, .bool yh] 190)).cell? ⟨X, 0, none⟩ = some (.string xv) := by rw [World.cell?_alloc_past _ _ _ hXl]; exact hX0
          have hZ1 : (wr.alloc (.cells #[.string yv, .bool yh] 190)).cell? ⟨X, 1, none⟩ = some (.bool xh) := by rw [World.cell?_alloc_past _ _ _ hXl]; exact hX1
          have HC := Lib.hid (cell_pair_new (wr.alloc (.cells #[.string yv, .bool yh] 190)) key xv yv xh yh 88)
          rw [World.size_alloc] at HC
          go_wp2_with (at_builtin; refine wpList_append_own_at _ rfl _ _ 70 rfl w.heap.size 88 i0 (.agg #[.string ⟨#[]⟩, .string ⟨#[]⟩, .string ⟨#[]⟩, .bool false, .bool false]) 5 56 Try.underlying70 hi hz0 hz1 hz2 rfl (by decide) _ _ _ rfl (hO2.alloc _) ⟨wr.heap.size + 1, 0, none⟩ 1 1 [.string key, .string xv, .string yv, .bool xh, .bool yh] rfl rfl HC.out ?g2 ?g3 ?g4 ?g5 ?_)
          case g2 => simp [Value.oneCell']
          case g3 => unfold maxLen; omega
          case g4 => omega
          case g5 => have := hb.size; simp; omega
          intro v' w4 hO4 hg4 _ hown4
          obtain ⟨a', cap', rfl⟩ := own_slice' hO4
          have hb4 := (hBB.alloc hBB.size (.cells #[.string key, .string xv, .string yv, .bool xh, .bool yh] 88)).grown hg4 (by have := hBB.size; simp at this ⊢; omega) (fun q e => (own_ge hO2 q e).1)
          have hne : some X ≠ (Value.slice g q c).ownBlock := fun e => HN.out X e.symm rfl
          have hY0 : w4.cell? ⟨X, 0, none⟩ = some (.string xv) := hg4.cell (a := ⟨X, 0, none⟩) (by rw [World.cell?_alloc_past _ _ _ (by simp; omega)]; exact hZ0) hne
          have hY1 : w4.cell? ⟨X, 1, none⟩ = some (.bool xh) := hg4.cell (a := ⟨X, 1, none⟩) (by rw [World.cell?_alloc_past _ _ _ (by simp; omega)]; exact hZ1) hne
          have hYl : X < w4.heap.size := Nat.lt_of_lt_of_le (by simp; omega) hg4.size
          have HN4 : Hid (∀ q', (Value.slice a' (q + 1) cap').ownBlock = some q' → q' ≠ X) := Lib.hid (by
            intro q' e
            rcases hown4 with h | h
            · exact HN.out q' (h ▸ e)
            · rw [h] at e
              have : wr.heap.size + 1 + 1 = q' := by simpa using e
              omega)
          have hO5 : w4.ownsRow w.heap.size 88 5 (.slice a' (q + 1) cap') (q + 1) (flatP (pairsK key la lb k (j + 1))) := by
            rw [HE.out, flatP_snoc]
            exact hO4
          have HQ2 : Hid ((pairsK key la lb k (j + 1)).length = q + 1) := Lib.hid (by rw [HE.out, List.length_append, HQ.out]; rfl)
          clear hg4 hO2 hO4 hne hown4 hZ0 hZ1 hX0 hX1 d0 d1 HC HE hBB hb
          go_wp2_with fail
          go_roundw
          case rel => exact ⟨j + 1, q + 1, a', cap', by omega, by go_num, rfl, HQ2, hO5, hb4, hY0, hY1, hYl, HN4⟩
          case measure => simp [intOf]; omega
        · obtain rfl : j = m := by omega
          have e := pairsK_row (key := key) (b := lb) Hx.out
          rw [h2.out] at e
          have HQ2 := Lib.hid HQ.out
          rw [e] at HQ2 hO
          clear e
          go_wp2_with fail
          go_roundw
          case rel => exact ⟨k + 1, q, g, c, by omega, by go_num, rfl, HQ2, hO, hb⟩
          case measure => simp [intOf]; omega
    · obtain rfl : k = n := by omega
      have e : pairsK key la lb k 0 = pairsL key la lb := by rw [← h1.out]; exact pairsK_all
      have HQ2 := Lib.hid HQ.out
      rw [e] at HQ2 hO
      clear e
      go_wp2_with fail
      go_ret
      refine ⟨g, c, ?_, hb, ?_⟩
      · rw [HQ2.out]; rfl
      · rw [HQ2.out]; exact hO
end Go.Proofs.Ytgdbpckobngmjaa
