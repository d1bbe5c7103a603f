/-
  The reader's methods word, near, off, row and rows by their contracts: some number, some row, some rows in new memory. Conditions: those of each statement.
-/
import Derived.Test.YtjepmcepgoncnaaDrawBytes
import Derived.Laws.BitsAllLaws
namespace Go.Proofs.Ytjepmcepgoncnaa
open Go.RowKit

theorem or_u64_bd (a : Int) (x : Nat) (hx : x < 256) : 0 ≤ bits .or .u64 (IntKind.u64.wrap a) (x : Int) ∧ bits .or .u64 (IntKind.u64.wrap a) (x : Int) < 18446744073709551616 := by
  have hw : IntKind.u64.wrap a = a % 18446744073709551616 := rfl
  have h1 : 0 ≤ IntKind.u64.wrap a ∧ IntKind.u64.wrap a < 18446744073709551616 := by rw [hw]; omega
  rw [u64_or _ _ h1.1 h1.2 (by omega) (by omega)]
  have h2 : (IntKind.u64.wrap a).toNat ||| ((x : Int)).toNat < 2 ^ 64 := Nat.or_lt_two_pow (by omega) (by omega)
  omega
set_option maxRecDepth 100000 in
set_option maxHeartbeats 2000000 in
theorem word_any (g n : Nat) (w : World) (h : Rdr w g n) :
    Calls Try.prog 127 #[.pointer (some ⟨g, 0, none⟩)] w fun e w' => ∃ z : Int, 0 ≤ z ∧ z < 18446744073709551616 ∧ e = .returned (.int .u64 z) ∧ Drew w w' g n := by
  go_enter Try.func127, Try.ntmps127
  go_wp2
  go_loopw [3, 4] (fun x i wr => ∃ (z : Int) (k : Nat), 0 ≤ z ∧ z < 18446744073709551616 ∧ x = .int .u64 z ∧ k ≤ 8 ∧ i = .int .i64 k ∧ Drew w wr g n) (fun _ i _ => 8 - (intOf i).toNat)
  case atStart => exact ⟨0, 0, by omega, by omega, rfl, by omega, rfl, Drew.refl h⟩
  case round =>
    obtain ⟨z, k, hz0, hz1, rfl, hk, rfl, hD⟩ := hrel
    by_cases hlt : k < 8
    · go_wp2_with fail
      refine (next_any g n _ hD.rdr).mono ?_
      rintro e w1 ⟨x, hx, rfl, hD1⟩
      have hD2 := hD.trans hD1
      clear hD hD1
      go_wp2_with fail
      go_roundw
      case rel => exact ⟨_, k + 1, (or_u64_bd (z * 256) x hx).1, (or_u64_bd (z * 256) x hx).2, rfl, by omega, by go_num, hD2⟩
      case measure => simp [intOf]; omega
    · go_wp2_with fail
      go_ret
      exact ⟨z, hz0, hz1, rfl, hD⟩
theorem int_wf {z : Int} (h0 : -9223372036854775808 ≤ z) (h1 : z ≤ 9223372036854775807) : (Lit.int .i64 z).wf = true := by
  have := wrap64_wf z
  rwa [IntWalk.wrap64_in z ⟨h0, h1⟩] at this
theorem wrap64_bd (n : Int) : -9223372036854775808 ≤ wrap64 n ∧ wrap64 n ≤ 9223372036854775807 := by unfold wrap64; omega
set_option maxRecDepth 100000 in
set_option maxHeartbeats 2000000 in
theorem near_any (g n : Nat) (lo hi : Int) (w : World) (h : Rdr w g n) (h1 : -1000 ≤ lo) (h2 : lo ≤ hi) (h3 : hi ≤ 1000) :
    Calls Try.prog 109 #[.pointer (some ⟨g, 0, none⟩), .int .i64 lo, .int .i64 hi] w fun e w' => ∃ z : Int, -9223372036854775808 ≤ z ∧ z ≤ 9223372036854775807 ∧ e = .returned (.int .i64 z) ∧ Drew w w' g n := by
  go_enter Try.func109, Try.ntmps109
  go_wp2_with fail
  refine (below_lit g n 8 _ _ h (by omega) (by omega) (by omega)).mono ?_
  rintro e w1 ⟨x, hx, rfl, hD1⟩
  by_cases h0 : x = 0
  · subst h0
    go_wp2_with fail
    go_ret
    exact ⟨lo, by omega, by omega, rfl, hD1⟩
  by_cases h0' : x = 1
  · subst h0'
    go_wp2_with fail
    go_ret
    exact ⟨hi, by omega, by omega, rfl, hD1⟩
  have b0 : ((x : Int) == 0) = false := by rw [beq_eq_false_iff_ne]; omega
  have b1 : ((x : Int) == 1) = false := by rw [beq_eq_false_iff_ne]; omega
  go_wp2_with fail
  refine (word_any g n _ hD1.rdr).mono ?_
  rintro e w2 ⟨z, hz0, hz1, rfl, hD2⟩
  have hD := hD1.trans hD2
  go_wp2_with fail
  go_ret
  exact ⟨_, (wrap64_bd _).1, (wrap64_bd _).2, rfl, hD⟩
set_option maxRecDepth 100000 in
set_option maxHeartbeats 2000000 in
theorem off_any (g n : Nat) (lo hi : Int) (w : World) (h : Rdr w g n) (h1 : -1000 ≤ lo) (h2 : lo ≤ hi) (h3 : hi ≤ 1000) :
    Calls Try.prog 74 #[.pointer (some ⟨g, 0, none⟩), .int .i64 lo, .int .i64 hi] w fun e w' => ∃ z : Int, -9223372036854775808 ≤ z ∧ z ≤ 9223372036854775807 ∧ e = .returned (.int .i64 z) ∧ Drew w w' g n := by
  have hg0 := h.lt
  go_enter Try.func74, Try.ntmps74
  go_wp2_with fail
  refine (once_lit g n 24 _ _ h (by omega) (by omega) (by omega)).mono ?_
  rintro e w1 ⟨b, rfl, hD1⟩
  cases b
  · go_wp2_with fail
    refine (near_any g n lo hi _ hD1.rdr h1 h2 h3).mono ?_
    rintro e w2 ⟨z, hz0, hz1, rfl, hD2⟩
    have hD := hD1.trans hD2
    go_wp2_with fail
    go_ret
    exact ⟨z, hz0, hz1, rfl, hD⟩
  · have hX : (w1.alloc (.cells #[.int .i64 (lo - 1), .int .i64 (hi + 1), .int .i64 (-9223372036854775808), .int .i64 9223372036854775807] 2)).ownsRow w1.heap.size 2 1 (.slice (some ⟨w1.heap.size, 0, none⟩) 4 4) 4 [.int .i64 (lo - 1), .int .i64 (hi + 1), .int .i64 (-9223372036854775808), .int .i64 9223372036854775807] := World.ownsRow_lit (base := w1.heap.size) (size := 1) w1 #[.int .i64 (lo - 1), .int .i64 (hi + 1), .int .i64 (-9223372036854775808), .int .i64 9223372036854775807] 4 (Nat.le_refl _) (by decide) rfl
    have hD2 := hD1.alloc (.cells #[.int .i64 (lo - 1), .int .i64 (hi + 1), .int .i64 (-9223372036854775808), .int .i64 9223372036854775807] 2)
    have hs1 := hD1.size
    go_wp2_with fail
    refine (below_lit g n 4 _ _ hD2.rdr (by omega) (by omega) (by omega)).mono ?_
    rintro e w3 ⟨y, hy, rfl, hD3⟩
    have hX3 := hD3.own hX (by omega)
    have hDc := hD2.trans hD3
    obtain ⟨u, d0, z, hz0, hz1, rfl⟩ := lit_pick (P := fun v => ∃ z : Int, -9223372036854775808 ≤ z ∧ z ≤ 9223372036854775807 ∧ v = .int .i64 z) hX3 hy (by
      intro v hv
      simp only [List.mem_cons, List.not_mem_nil, or_false] at hv
      rcases hv with rfl | rfl | rfl | rfl
      all_goals exact ⟨_, by omega, by omega, rfl⟩)
    clear hX hX3 hD2 hD3
    go_wp2_with fail
    go_ret
    exact ⟨z, hz0, hz1, rfl, hDc⟩
set_option maxRecDepth 100000 in
set_option maxHeartbeats 4000000 in
theorem row_small (g n : Nat) (w : World) (h : Rdr w g n) :
    Calls Try.prog 107 #[.pointer (some ⟨g, 0, none⟩)] w fun e w' => ∃ r : RowV, (r.Ok ∧ r.key.size ≤ 5 ∧ r.val.size ≤ 14) ∧ e = .returned (.agg #[.string r.key, .int .i64 r.tag, .string r.val]) ∧ Drew w w' g n := by
  have hg0 := h.lt
  have hY0 : (w.alloc (.cells #[.string ⟨#[]⟩, .int .i64 0, .string ⟨#[]⟩] 77)).ownsRow w.heap.size 77 3 (.slice (some ⟨w.heap.size, 0, none⟩) 1 1) 1 [.string ⟨#[]⟩, .int .i64 0, .string ⟨#[]⟩] := World.ownsRow_lit (base := w.heap.size) (size := 3) w #[.string ⟨#[]⟩, .int .i64 0, .string ⟨#[]⟩] 1 (Nat.le_refl _) (by decide) rfl
  have hD0 := (Drew.refl h).alloc (.cells #[.string ⟨#[]⟩, .int .i64 0, .string ⟨#[]⟩] 77)
  have hs0 : w.heap.size < (w.alloc (.cells #[.string ⟨#[]⟩, .int .i64 0, .string ⟨#[]⟩] 77)).heap.size := by simp
  go_enter Try.func107, Try.ntmps107
  go_wp2_with fail
  refine (key_any g n _ hD0.rdr).mono ?_
  rintro e w1 ⟨k, hk, rfl, hD1⟩
  have hY1 := hD1.own hY0 hg0
  have hDa := hD0.trans hD1
  have hs1 := Nat.lt_of_lt_of_le hs0 hD1.size
  clear hY0 hD0 hD1 hs0
  go_wp2_with fail
  refine (below_lit g n 3 _ _ hDa.rdr (by omega) (by omega) (by omega)).mono ?_
  rintro e w2 ⟨t, ht, rfl, hD2⟩
  have hY2 := hD2.own hY1 hg0
  have hDb := hDa.trans hD2
  have hs2 := Nat.lt_of_lt_of_le hs1 hD2.size
  clear hY1 hDa hD2 hs1
  have hX : (w2.alloc (.cells #[.string ⟨#[]⟩, .string ⟨#[49]⟩, .string ⟨#[50]⟩, .string ⟨#[49, 48]⟩, .string ⟨#[55]⟩, .string ⟨#[120]⟩] 9)).ownsRow w2.heap.size 9 1 (.slice (some ⟨w2.heap.size, 0, none⟩) 6 6) 6 [.string ⟨#[]⟩, .string ⟨#[49]⟩, .string ⟨#[50]⟩, .string ⟨#[49, 48]⟩, .string ⟨#[55]⟩, .string ⟨#[120]⟩] := World.ownsRow_lit (base := w2.heap.size) (size := 1) w2 #[.string ⟨#[]⟩, .string ⟨#[49]⟩, .string ⟨#[50]⟩, .string ⟨#[49, 48]⟩, .string ⟨#[55]⟩, .string ⟨#[120]⟩] 6 (Nat.le_refl _) (by decide) rfl
  have hDc := hDb.alloc (.cells #[.string ⟨#[]⟩, .string ⟨#[49]⟩, .string ⟨#[50]⟩, .string ⟨#[49, 48]⟩, .string ⟨#[55]⟩, .string ⟨#[120]⟩] 9)
  have hYc := own_below hY2 (bl1 w2 (.cells #[.string ⟨#[]⟩, .string ⟨#[49]⟩, .string ⟨#[50]⟩, .string ⟨#[49, 48]⟩, .string ⟨#[55]⟩, .string ⟨#[120]⟩] 9))
  go_wp2_with fail
  refine (below_lit g n 6 _ _ hDc.rdr (by omega) (by omega) (by omega)).mono ?_
  rintro e w3 ⟨y, hy, rfl, hD3⟩
  have hX3 := hD3.own hX (by omega)
  have hY3 := hD3.own hYc hg0
  have hDd := hDc.trans hD3
  obtain ⟨u, d0, s, hs, rfl⟩ := lit_pick (P := fun v => ∃ s : ByteArray, s.size ≤ 5 ∧ v = .string s) hX3 hy (by
    intro v hv
    simp only [List.mem_cons, List.not_mem_nil, or_false] at hv
    rcases hv with rfl | rfl | rfl | rfl | rfl | rfl
    all_goals exact ⟨_, by decide, rfl⟩)
  have hs3 : w.heap.size < w3.heap.size := (own_ge hY3 w.heap.size rfl).2
  clear hX hX3 hDc hD3 hYc hY2 hDb hs2
  have hZ : (w3.alloc (.cells #[.string k, .int .i64 (t : Int), .string s] 77)).ownsRow w3.heap.size 77 3 (.slice (some ⟨w3.heap.size, 0, none⟩) 1 1) 1 [.string k, .int .i64 (t : Int), .string s] := World.ownsRow_lit (base := w3.heap.size) (size := 3) w3 #[.string k, .int .i64 (t : Int), .string s] 1 (Nat.le_refl _) (by decide) rfl
  have hDe := hDd.alloc (.cells #[.string k, .int .i64 (t : Int), .string s] 77)
  have hYe := own_below hY3 (bl1 w3 (.cells #[.string k, .int .i64 (t : Int), .string s] 77))
  go_wp2_with fail
  refine (below_lit g n 80 _ _ hDe.rdr (by omega) (by omega) (by omega)).mono ?_
  rintro e w4 ⟨x, hx, rfl, hD4⟩
  have hZ4 := hD4.own hZ (by omega)
  have hY4 := hD4.own hYe hg0
  have hDf := hDe.trans hD4
  have hw3 : w.heap.size ≤ w3.heap.size := Nat.le_of_lt hs3
  generalize w3.heap.size = B3 at *
  clear hZ hDe hD4 hYe hY3 hDd d0
  by_cases hc1 : x = 78
  · subst hc1
    go_wp2_with fail
    refine (off_any g n 0 3 _ hDf.rdr (by omega) (by omega) (by omega)).mono ?_
    rintro e w5 ⟨z, hz0, hz1, rfl, hD5⟩
    have hZ5 := hD5.own hZ4 (by omega)
    have hY5 := hD5.own hY4 hg0
    have hDf' := hDf.trans hD5
    clear hZ4 hY4 hDf hD5
    have t1 : w5.cell? ⟨B3, 1, none⟩ = some (.int .i64 (t : Int)) := hZ5.cellAt 1 (by omega)
    have tf := hZ5.frozenAt 1
    have hZf : (w5.setCell ⟨B3, 1, none⟩ (.int .i64 z)).ownsRow B3 77 3 (.slice (some ⟨B3, 0, none⟩) 1 1) 1 [.string k, .int .i64 z, .string s] := (hZ5.stored 1 (.int .i64 z)).1
    have hYf : (w5.setCell ⟨B3, 1, none⟩ (.int .i64 z)).ownsRow w.heap.size 77 3 (.slice (some ⟨w.heap.size, 0, none⟩) 1 1) 1 [.string ⟨#[]⟩, .int .i64 0, .string ⟨#[]⟩] := hY5.kept (gb_store (World.grownBy.refl w5 (some B3)) 1 (.int .i64 z)) (.inr (fun e => by injection e with e; simp at e; omega))
    have hDf := hDf'.set hg0 hw3 (o := 1) (.int .i64 z)
    clear hDf' hZ5 hY5
    have e0 : (w5.setCell ⟨B3, 1, none⟩ (.int .i64 z)).cell? ⟨B3, 0, none⟩ = some (.string k) := hZf.cellAt 0 (by omega)
    have e1 : (w5.setCell ⟨B3, 1, none⟩ (.int .i64 z)).cell? ⟨B3, 1, none⟩ = some (.int .i64 z) := hZf.cellAt 1 (by omega)
    have e2 : (w5.setCell ⟨B3, 1, none⟩ (.int .i64 z)).cell? ⟨B3, 2, none⟩ = some (.string s) := hZf.cellAt 2 (by omega)
    have y0 : (w5.setCell ⟨B3, 1, none⟩ (.int .i64 z)).cell? ⟨w.heap.size, 0, none⟩ = some (.string ⟨#[]⟩) := hYf.cellAt 0 (by omega)
    have y1 : (w5.setCell ⟨B3, 1, none⟩ (.int .i64 z)).cell? ⟨w.heap.size, 1, none⟩ = some (.int .i64 0) := hYf.cellAt 1 (by omega)
    have y2 : (w5.setCell ⟨B3, 1, none⟩ (.int .i64 z)).cell? ⟨w.heap.size, 2, none⟩ = some (.string ⟨#[]⟩) := hYf.cellAt 2 (by omega)
    have q0 := hYf.frozenAt 0
    have q1 := hYf.frozenAt 1
    have q2 := hYf.frozenAt 2
    have hDg := ((hDf.set hg0 (Nat.le_refl _) (o := 0) (.string k)).set hg0 (Nat.le_refl _) (o := 1) (.int .i64 z)).set hg0 (Nat.le_refl _) (o := 2) (.string s)
    clear hZf hYf hDf
    go_wp2_with fail
    exact bodyPost_ret (v := .agg #[.string k, .int .i64 z, .string s]) (by simp [results, Try.results107, go_sem, y0, y1, y2]) rfl ⟨⟨k, z, s⟩, ⟨⟨by unfold maxLen; simp only; omega, int_wf hz0 hz1, by unfold maxLen; simp only; omega⟩, by simp only; omega, by simp only; omega⟩, rfl, hDg⟩
  have b78 : ((x : Int) == 78) = false := by rw [beq_eq_false_iff_ne]; omega
  by_cases hc2 : x = 79
  · subst hc2
    go_wp2_with fail
    refine (bytes_lit g n 14 _ _ hDf.rdr (by omega) (by omega) (by omega)).mono ?_
    rintro e w5 ⟨z, hz, rfl, hD5⟩
    have hZ5 := hD5.own hZ4 (by omega)
    have hY5 := hD5.own hY4 hg0
    have hDf' := hDf.trans hD5
    clear hZ4 hY4 hDf hD5
    have t1 : w5.cell? ⟨B3, 2, none⟩ = some (.string s) := hZ5.cellAt 2 (by omega)
    have tf := hZ5.frozenAt 2
    have hZf : (w5.setCell ⟨B3, 2, none⟩ (.string z)).ownsRow B3 77 3 (.slice (some ⟨B3, 0, none⟩) 1 1) 1 [.string k, .int .i64 (t : Int), .string z] := (hZ5.stored 2 (.string z)).1
    have hYf : (w5.setCell ⟨B3, 2, none⟩ (.string z)).ownsRow w.heap.size 77 3 (.slice (some ⟨w.heap.size, 0, none⟩) 1 1) 1 [.string ⟨#[]⟩, .int .i64 0, .string ⟨#[]⟩] := hY5.kept (gb_store (World.grownBy.refl w5 (some B3)) 2 (.string z)) (.inr (fun e => by injection e with e; simp at e; omega))
    have hDf := hDf'.set hg0 hw3 (o := 2) (.string z)
    clear hDf' hZ5 hY5
    have e0 : (w5.setCell ⟨B3, 2, none⟩ (.string z)).cell? ⟨B3, 0, none⟩ = some (.string k) := hZf.cellAt 0 (by omega)
    have e1 : (w5.setCell ⟨B3, 2, none⟩ (.string z)).cell? ⟨B3, 1, none⟩ = some (.int .i64 (t : Int)) := hZf.cellAt 1 (by omega)
    have e2 : (w5.setCell ⟨B3, 2, none⟩ (.string z)).cell? ⟨B3, 2, none⟩ = some (.string z) := hZf.cellAt 2 (by omega)
    have y0 : (w5.setCell ⟨B3, 2, none⟩ (.string z)).cell? ⟨w.heap.size, 0, none⟩ = some (.string ⟨#[]⟩) := hYf.cellAt 0 (by omega)
    have y1 : (w5.setCell ⟨B3, 2, none⟩ (.string z)).cell? ⟨w.heap.size, 1, none⟩ = some (.int .i64 0) := hYf.cellAt 1 (by omega)
    have y2 : (w5.setCell ⟨B3, 2, none⟩ (.string z)).cell? ⟨w.heap.size, 2, none⟩ = some (.string ⟨#[]⟩) := hYf.cellAt 2 (by omega)
    have q0 := hYf.frozenAt 0
    have q1 := hYf.frozenAt 1
    have q2 := hYf.frozenAt 2
    have hDg := ((hDf.set hg0 (Nat.le_refl _) (o := 0) (.string k)).set hg0 (Nat.le_refl _) (o := 1) (.int .i64 (t : Int))).set hg0 (Nat.le_refl _) (o := 2) (.string z)
    clear hZf hYf hDf
    go_wp2_with fail
    exact bodyPost_ret (v := .agg #[.string k, .int .i64 (t : Int), .string z]) (by simp [results, Try.results107, go_sem, y0, y1, y2]) rfl ⟨⟨k, (t : Int), z⟩, ⟨⟨by unfold maxLen; simp only; omega, int_wf (by simp only; omega) (by simp only; omega), by unfold maxLen; simp only; omega⟩, by simp only; omega, by simp only; omega⟩, rfl, hDg⟩
  have b79 : ((x : Int) == 79) = false := by rw [beq_eq_false_iff_ne]; omega
  have hZf := hZ4
  have hYf := hY4
  clear hZ4 hY4
  have e0 : w4.cell? ⟨B3, 0, none⟩ = some (.string k) := hZf.cellAt 0 (by omega)
  have e1 : w4.cell? ⟨B3, 1, none⟩ = some (.int .i64 (t : Int)) := hZf.cellAt 1 (by omega)
  have e2 : w4.cell? ⟨B3, 2, none⟩ = some (.string s) := hZf.cellAt 2 (by omega)
  have y0 : w4.cell? ⟨w.heap.size, 0, none⟩ = some (.string ⟨#[]⟩) := hYf.cellAt 0 (by omega)
  have y1 : w4.cell? ⟨w.heap.size, 1, none⟩ = some (.int .i64 0) := hYf.cellAt 1 (by omega)
  have y2 : w4.cell? ⟨w.heap.size, 2, none⟩ = some (.string ⟨#[]⟩) := hYf.cellAt 2 (by omega)
  have q0 := hYf.frozenAt 0
  have q1 := hYf.frozenAt 1
  have q2 := hYf.frozenAt 2
  have hDg := ((hDf.set hg0 (Nat.le_refl _) (o := 0) (.string k)).set hg0 (Nat.le_refl _) (o := 1) (.int .i64 (t : Int))).set hg0 (Nat.le_refl _) (o := 2) (.string s)
  clear hZf hYf hDf
  go_wp2_with fail
  exact bodyPost_ret (v := .agg #[.string k, .int .i64 (t : Int), .string s]) (by simp [results, Try.results107, go_sem, y0, y1, y2]) rfl ⟨⟨k, (t : Int), s⟩, ⟨⟨by unfold maxLen; simp only; omega, int_wf (by simp only; omega) (by simp only; omega), by unfold maxLen; simp only; omega⟩, by simp only; omega, by simp only; omega⟩, rfl, hDg⟩
theorem row_any (g n : Nat) (w : World) (h : Rdr w g n) :
    Calls Try.prog 107 #[.pointer (some ⟨g, 0, none⟩)] w fun e w' => ∃ r : RowV, r.Ok ∧ e = .returned (.agg #[.string r.key, .int .i64 r.tag, .string r.val]) ∧ Drew w w' g n :=
  (row_small g n w h).mono fun _ _ ⟨r, hr, he, hD⟩ => ⟨r, hr.1, he, hD⟩
set_option maxRecDepth 100000 in
set_option maxHeartbeats 2000000 in
theorem rows_lit (g n m : Nat) (K : Int) (w : World) (h : Rdr w g n) (hK : (m : Int) = K) (hm1 : 1 ≤ m) (hm : m ≤ 100) :
    Calls Try.prog 73 #[.pointer (some ⟨g, 0, none⟩), .int .i64 K] w fun e w' => ∃ (l : List RowV) (b c : Nat), l.length ≤ m ∧ (∀ r ∈ l, r.Ok) ∧ e = .returned (.slice (some ⟨b, 0, none⟩) l.length c) ∧ w'.ownsRow w.heap.size 77 3 (.slice (some ⟨b, 0, none⟩) l.length c) l.length (flat l) ∧ Drew w w' g n := by
  subst hK
  obtain ⟨i0, hi, hz0, hz1, hz2⟩ := info_parts infoRow
  have hO0 : (w.alloc (.cells #[] 77)).ownsRow w.heap.size 77 3 (.slice (some ⟨w.heap.size, 0, none⟩) 0 0) 0 (flat []) := World.ownsRow_lit (base := w.heap.size) (size := 3) w #[] 0 (Nat.le_refl _) (Nat.zero_le _) rfl
  have hD0 := (Drew.refl h).alloc (.cells #[] 77)
  have hg0 := h.lt
  go_enter Try.func73, Try.ntmps73
  go_wp2_with fail
  refine (below_lit g n (m + 1) _ _ hD0.rdr (by omega) (by omega) (by omega)).mono ?_
  rintro e w1 ⟨t, ht, rfl, hD1⟩
  have hO1 := hD1.own hO0 hg0
  have hD := hD0.trans hD1
  clear hO0 hD0 hD1
  go_wp2_with fail
  go_loopw [5, 6] (fun v i wr => ∃ (l : List RowV) (b cc q : Nat), l.length + q ≤ m ∧ i = .int .i64 q ∧ v = .slice (some ⟨b, 0, none⟩) l.length cc ∧ Hid (∀ r ∈ l, r.Ok) ∧ wr.ownsRow w.heap.size 77 3 (.slice (some ⟨b, 0, none⟩) l.length cc) l.length (flat l) ∧ Drew w wr g n) (fun _ i _ => (intOf i).toNat)
  case atStart => exact ⟨[], _, 0, t, by simp; omega, rfl, rfl, Lib.hid (by simp), hO1, hD⟩
  case round =>
    obtain ⟨l, b, cc, q, hl, rfl, rfl, Hok, hO, hDr⟩ := hrel
    clear hO1 hD
    by_cases hpos : 0 < q
    · go_wp2_with fail
      refine (row_any g n _ hDr.rdr).mono ?_
      rintro e w2 ⟨r, hr, rfl, hD2⟩
      have hO2 := hD2.own hO hg0
      have hDa := hDr.trans hD2
      have hs2 : w.heap.size ≤ w2.heap.size := hDa.size
      have hDd := hDa.alloc (.cells #[.string r.key, .int .i64 r.tag, .string r.val] 77)
      clear hO hDr hD2
      go_wp2_with (at_builtin; refine wpList_append_own _ rfl _ _ 24 rfl w.heap.size 77 i0 (.agg #[.string ⟨#[]⟩, .int .i64 0, .string ⟨#[]⟩]) 3 40 Try.underlying24 hi hz0 hz1 hz2 rfl (by decide) _ _ _ rfl (hO2.alloc _) ⟨w2.heap.size, 0, none⟩ 1 1 [.string r.key, .int .i64 r.tag, .string r.val] rfl rfl ?c1 ?c2 ?c3 ?c4 ?c5 ?_)
      case c1 =>
        intro j u hj
        match j, hj with
        | 0, hj => simp at hj; subst hj; simp [Addr.add, go_sem]
        | 1, hj => simp at hj; subst hj; simp [Addr.add, go_sem]
        | 2, hj => simp at hj; subst hj; simp [Addr.add, go_sem]
      case c2 =>
        intro u hu
        simp at hu
        rcases hu with rfl | rfl | rfl <;> rfl
      case c3 => unfold maxLen; omega
      case c4 => omega
      case c5 => simp; omega
      intro v' w4 hO4 hg4 _
      obtain ⟨a', cap', rfl⟩ := own_slice' hO4
      obtain ⟨b', rfl, _, _⟩ := own_form hO4 (by omega)
      have hO5 : w4.ownsRow w.heap.size 77 3 (.slice (some ⟨b', 0, none⟩) (l ++ [r]).length cap') (l ++ [r]).length (flat (l ++ [r])) := by
        rw [flat_append]; simpa [flat, RowV.cells] using hO4
      have hD5 : Drew w w4 g n := hDd.grown hg0 hg4 (fun q e => (own_ge hO2 q e).1)
      have hll : (l ++ [r]).length + (q - 1) ≤ m := by simp; omega
      have He := Lib.hid (show l.length + 1 = (l ++ [r]).length by simp)
      have Hok2 := Lib.hid (show ∀ x ∈ l ++ [r], x.Ok from fun x hx => by
        rcases List.mem_append.1 hx with hx | hx
        · exact Hok.out x hx
        · rw [List.mem_singleton.1 hx]; exact hr)
      clear hO4 hg4 hDd hDa hO2
      rw [He.out]
      generalize l ++ [r] = l2 at *
      go_wp2_with fail
      go_roundw
      case rel => exact ⟨l2, b', cap', q - 1, hll, by go_num, rfl, Hok2, hO5, hD5⟩
      case measure => simp [intOf]; omega
    · have hq0 : decide (0 < q) = false := by simp; omega
      go_wp2_with fail
      go_ret
      exact ⟨l, b, cc, by omega, Hok.out, rfl, hO, hDr⟩
theorem below_drew {w w1 w2 : World} {n : Nat} (hb : Below w.heap.size w w1) (hD : Drew w1 w2 w.heap.size n) : Below w.heap.size w w2 := hb.trans (gb_below hD.2 hb.size (fun _ e => Nat.le_of_eq (Option.some.inj e)))
/-- What a law is handed: a code; it is read alone. -/
def IsCode (w : World) (a : Option Addr) (len cap : Nat) (xs : List Value) : Prop := len ≤ cap ∧ cap ≤ maxLen ∧ Rd w w.heap.size 1 a len xs ∧ ∀ v ∈ xs, ∃ x : Nat, x < 256 ∧ v = .int .u8 x
theorem IsCode.by_ {w : World} {a : Option Addr} {len cap : Nat} {xs : List Value} (h : IsCode w a len cap xs) : IsBy w w.heap.size a len := ⟨xs, h.2.2⟩
end Go.Proofs.Ytjepmcepgoncnaa
