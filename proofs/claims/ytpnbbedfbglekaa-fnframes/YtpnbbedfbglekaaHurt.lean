/-
  The reader's method hurt by its contract: some text, at most two bytes longer. Conditions: those of each statement.
-/
import Derived.Test.YtpnbbedfbglekaaDrawRows
namespace Go.Proofs.Ytpnbbedfbglekaa
open Go.RowKit

set_option maxRecDepth 100000 in
theorem below_some (g n k : Nat) (K : Int) (w : World) (h : Rdr w g n) (hK : (k : Int) = K) (hk1 : 1 ≤ k) (hk : k ≤ 256) :
    Calls Try.prog 73 #[.pointer (some ⟨g, 0, none⟩), .int .i64 K] w fun e w' => ∃ x : Nat, x < k ∧ e = .returned (.int .i64 x) ∧ Drew w w' g n := by
  rcases Nat.lt_or_ge k 2 with h1 | h1
  · obtain rfl : k = 1 := by omega
    subst hK
    have hD := Drew.refl h
    go_enter Try.func73, Try.ntmps73
    go_wp2_with fail
    go_ret
    exact ⟨0, by omega, rfl, hD⟩
  · exact below_lit g n k K w h hK h1 hk
theorem size_to (s : ByteArray) (x : Nat) : (s.extract 0 x).size ≤ s.size := by rw [ByteArray.size_extract]; omega
theorem size_mid {s t : ByteArray} {x y z : Nat} (hx : x < s.size) (ht : t.size ≤ 1) (hy : y = x + 1) (hz : z = s.size) : (s.extract 0 x ++ t ++ s.extract y z).size ≤ s.size := by
  rw [ByteArray.size_append, ByteArray.size_append, ByteArray.size_extract, ByteArray.size_extract]; omega
theorem size_end {s t : ByteArray} (ht : t.size ≤ 2) : (s ++ t).size ≤ s.size + 2 := by rw [ByteArray.size_append]; omega
theorem pick4 (q : Nat) (hq : q < 4) : ∃ t : ByteArray, t.size ≤ 1 ∧ (#[Value.string ⟨#[0]⟩, .string ⟨#[97]⟩, .string ⟨#[255]⟩, .string ⟨#[4]⟩] : Array Value)[q]? = some (.string t) := by
  rcases (show q = 0 ∨ q = 1 ∨ q = 2 ∨ q = 3 by omega) with rfl | rfl | rfl | rfl
  all_goals exact ⟨_, by decide, rfl⟩
theorem lit4_new (w : World) {xs : Array Value} {ty q : Nat} {v : Value} (h : xs[q]? = some v) : (w.alloc (.cells xs ty)).cell? ⟨w.heap.size, q, none⟩ = some v := by
  simp [go_sem, h]
theorem lit4_far {w w' : World} {g n : Nat} {xs : Array Value} {ty q : Nat} {v : Value} (hD : Drew (w.alloc (.cells xs ty)).drew w' g n) (hg : g < w.heap.size) (h : xs[q]? = some v) : w'.cell? ⟨w.heap.size, q, none⟩ = some v := by
  refine (World.cell?_of_block (a := ⟨w.heap.size, q, none⟩) (hD.2.block w.heap.size (by show w.heap.size < (w.alloc (.cells xs ty)).heap.size; simp) ?_)).trans (lit4_new w h)
  intro e
  injection e with e
  omega
set_option maxRecDepth 100000 in
set_option maxHeartbeats 2000000 in
theorem hurt_any (g n : Nat) (s : ByteArray) (w : World) (h : Rdr w g n) (hs : s.size ≤ 255) :
    Calls Try.prog 75 #[.pointer (some ⟨g, 0, none⟩), .string s] w fun e w' => ∃ t : ByteArray, t.size ≤ s.size + 2 ∧ e = .returned (.string t) ∧ Drew w w' g n := by
  have hg0 := h.lt
  go_enter Try.func75, Try.ntmps75
  go_wp2_with fail
  refine (below_lit g n 6 _ _ h (by omega) (by omega) (by omega)).mono ?_
  rintro e w1 ⟨x, hx, rfl, hD1⟩
  by_cases h1 : x = 1
  · subst h1
    go_wp2_with fail
    refine (below_some g n (s.size + 1) _ _ hD1.rdr (by omega) (by omega) (by omega)).mono ?_
    rintro e w2 ⟨y, hy, rfl, hD2⟩
    have hD := hD1.trans hD2
    go_wp2_with fail
    go_ret
    exact ⟨_, Nat.le_trans (size_to s y) (Nat.le_add_right _ _), rfl, hD⟩
  have b1 : ((x : Int) == 1) = false := by rw [beq_eq_false_iff_ne]; omega
  by_cases h2 : x = 2
  · subst h2
    clear b1 h1
    by_cases hz : 0 < s.size
    · go_wp2_with fail
      refine (below_some g n s.size _ _ hD1.rdr (by omega) (by omega) (by omega)).mono ?_
      rintro e w2 ⟨y, hy, rfl, hD2⟩
      have hD := hD1.trans hD2
      clear hD1 hD2
      have hs1 := hD.size
      have hgw2 : g < w2.heap.size := by omega
      have hy2 : y + 1 ≤ s.size := by omega
      have hy3 : (y : Int) + 1 ≤ (s.size : Int) := by omega
      have hy4 : (y : Int) ≤ (s.size : Int) := by omega
      have hy5 : (0 : Int) ≤ (y : Int) := by omega
      have hy6 : (0 : Int) ≤ (y : Int) + 1 := by omega
      have hy7 : IntKind.i64.wrap ((y : Int) + 1) = (y : Int) + 1 := IntWalk.i64_in _ (by omega)
      have HDa := Lib.hid (show Drew w w2.drew g n from hD.and (Below.refl _ _).drew)
      have HDb := Lib.hid (show Drew w (w2.alloc (.cells #[.string ⟨#[0]⟩, .string ⟨#[97]⟩, .string ⟨#[255]⟩, .string ⟨#[4]⟩] 9)).drew g n from HDa.out.alloc _)
      clear hD
      have CB : Calls Try.prog 73 #[.pointer (some ⟨g, 0, none⟩), .int .i64 4] (w2.alloc (.cells #[.string ⟨#[0]⟩, .string ⟨#[97]⟩, .string ⟨#[255]⟩, .string ⟨#[4]⟩] 9)).drew fun e w3 => ∃ (q : Nat) (t : ByteArray), q < 4 ∧ (0 : Int) ≤ (q : Int) ∧ (q : Int) < 4 ∧ t.size ≤ 1 ∧ e = .returned (.int .i64 q) ∧ Hid (Drew w w3 g n) ∧ w3.cell? ⟨w2.heap.size, q, none⟩ = some (.string t) := by
        refine (below_lit g n 4 4 _ HDb.out.rdr rfl (by decide) (by decide)).mono ?_
        rintro e w3 ⟨q, hq, rfl, hD3⟩
        obtain ⟨t, ht, hget⟩ := pick4 q hq
        exact ⟨q, t, hq, by omega, by omega, ht, rfl, Lib.hid (HDb.out.trans hD3), lit4_far hD3 hgw2 hget⟩
      have CA : Calls Try.prog 73 #[.pointer (some ⟨g, 0, none⟩), .int .i64 4] w2.drew fun e w3 => ∃ (q : Nat) (t : ByteArray), q < 4 ∧ (0 : Int) ≤ (q : Int) ∧ (q : Int) < 4 ∧ t.size ≤ 1 ∧ e = .returned (.int .i64 q) ∧ Hid (Drew w (w3.alloc (.cells #[.string ⟨#[0]⟩, .string ⟨#[97]⟩, .string ⟨#[255]⟩, .string ⟨#[4]⟩] 9)) g n) ∧ (w3.alloc (.cells #[.string ⟨#[0]⟩, .string ⟨#[97]⟩, .string ⟨#[255]⟩, .string ⟨#[4]⟩] 9)).cell? ⟨w3.heap.size, q, none⟩ = some (.string t) := by
        refine (below_lit g n 4 4 _ HDa.out.rdr rfl (by decide) (by decide)).mono ?_
        rintro e w3 ⟨q, hq, rfl, hD3⟩
        obtain ⟨t, ht, hget⟩ := pick4 q hq
        exact ⟨q, t, hq, by omega, by omega, ht, rfl, Lib.hid ((HDa.out.trans hD3).alloc _), lit4_new w3 hget⟩
      clear HDa HDb
      go_wp2_with fail
      go_region_with ((go_at_call 73; first
        | (refine CB.mono ?_; clear CA CB; rintro e w3 ⟨q, t, hq, hq1, hq2, ht, rfl, HD, d0⟩)
        | (refine CA.mono ?_; clear CA CB; rintro e w3 ⟨q, t, hq, hq1, hq2, ht, rfl, HD, d0⟩)))
      all_goals
        go_wp2_with fail
        go_ret
        exact ⟨_, Nat.le_trans (size_mid hy ht (by omega) (by omega)) (Nat.le_add_right _ _), rfl, HD.out⟩
    · go_wp2_with fail
      go_ret
      exact ⟨s, by omega, rfl, hD1⟩
  have b2 : ((x : Int) == 2) = false := by rw [beq_eq_false_iff_ne]; omega
  by_cases h3 : x = 3
  · subst h3
    clear b1 h1 b2 h2
    have hX : (w1.alloc (.cells #[.string ⟨#[0]⟩, .string ⟨#[97]⟩, .string ⟨#[10]⟩, .string ⟨#[0, 0]⟩] 9)).ownsRow w1.heap.size 9 1 (.slice (some ⟨w1.heap.size, 0, none⟩) 4 4) 4 [.string ⟨#[0]⟩, .string ⟨#[97]⟩, .string ⟨#[10]⟩, .string ⟨#[0, 0]⟩] := World.ownsRow_lit (base := w1.heap.size) (size := 1) w1 #[.string ⟨#[0]⟩, .string ⟨#[97]⟩, .string ⟨#[10]⟩, .string ⟨#[0, 0]⟩] 4 (Nat.le_refl _) (by decide) rfl
    have hD2 := hD1.alloc (.cells #[.string ⟨#[0]⟩, .string ⟨#[97]⟩, .string ⟨#[10]⟩, .string ⟨#[0, 0]⟩] 9)
    have hs1 := hD1.size
    go_wp2_with fail
    refine (below_lit g n 4 _ _ hD2.rdr (by omega) (by omega) (by omega)).mono ?_
    rintro e w3 ⟨q, hq, rfl, hD3⟩
    have hX3 := hD3.own hX (by omega)
    have hDc := hD2.trans hD3
    obtain ⟨u, d0, t, ht, rfl⟩ := lit_pick (P := fun v => ∃ t : ByteArray, t.size ≤ 2 ∧ v = .string t) hX3 hq (by
      intro v hv
      simp only [List.mem_cons, List.not_mem_nil, or_false] at hv
      rcases hv with rfl | rfl | rfl | rfl
      all_goals exact ⟨_, by decide, rfl⟩)
    clear hX hX3 hD2 hD3 hD1
    go_wp2_with fail
    go_ret
    exact ⟨_, size_end ht, rfl, hDc⟩
  have b3 : ((x : Int) == 3) = false := by rw [beq_eq_false_iff_ne]; omega
  go_wp2_with fail
  go_ret
  exact ⟨s, by omega, rfl, hD1⟩
end Go.Proofs.Ytpnbbedfbglekaa
