/-
  spec.DrawFrameOf and spec.DrawTakeFrames by their contracts: some short texts. Conditions: a code of at most 1048576 bytes.
-/
import Derived.Test.YtpnbbedfbglekaaHurt
import Derived.Test.YtpnbbedfbglekaaFrame
namespace Go.Proofs.Ytpnbbedfbglekaa
open Go.RowKit
set_option maxRecDepth 100000 in
set_option maxHeartbeats 2000000 in
theorem text_any (g n : Nat) (w : World) (h : Rdr w g n) :
    Calls Try.prog 74 #[.pointer (some ⟨g, 0, none⟩)] w fun e w' => ∃ s : ByteArray, s.size ≤ 3 ∧ e = .returned (.string s) ∧ Drew w w' g n := by
  have hg0 := h.lt
  have hX : (w.alloc (.cells #[.string ⟨#[]⟩, .string ⟨#[97]⟩, .string ⟨#[120, 10]⟩, .string ⟨#[97, 98, 99]⟩, .string ⟨#[0]⟩] 9)).ownsRow w.heap.size 9 1 (.slice (some ⟨w.heap.size, 0, none⟩) 5 5) 5 [.string ⟨#[]⟩, .string ⟨#[97]⟩, .string ⟨#[120, 10]⟩, .string ⟨#[97, 98, 99]⟩, .string ⟨#[0]⟩] := World.ownsRow_lit (base := w.heap.size) (size := 1) w #[.string ⟨#[]⟩, .string ⟨#[97]⟩, .string ⟨#[120, 10]⟩, .string ⟨#[97, 98, 99]⟩, .string ⟨#[0]⟩] 5 (Nat.le_refl _) (by decide) rfl
  have hD2 := (Drew.refl h).alloc (.cells #[.string ⟨#[]⟩, .string ⟨#[97]⟩, .string ⟨#[120, 10]⟩, .string ⟨#[97, 98, 99]⟩, .string ⟨#[0]⟩] 9)
  go_enter Try.func74, Try.ntmps74
  go_wp2_with fail
  refine (below_lit g n 5 _ _ hD2.rdr (by omega) (by omega) (by omega)).mono ?_
  rintro e w3 ⟨y, hy, rfl, hD3⟩
  have hX3 := hD3.own hX (by omega)
  have hDc := hD2.trans hD3
  obtain ⟨u, d0, s, hs, rfl⟩ := lit_pick (P := fun v => ∃ s : ByteArray, s.size ≤ 3 ∧ v = .string s) hX3 hy (by
    intro v hv
    simp only [List.mem_cons, List.not_mem_nil, or_false] at hv
    rcases hv with rfl | rfl | rfl | rfl | rfl
    all_goals exact ⟨_, by decide, rfl⟩)
  clear hX hX3 hD2 hD3
  go_wp2_with fail
  go_ret
  exact ⟨s, hs, rfl, hDc⟩
set_option maxRecDepth 100000 in
theorem drawFrameOf_any (a : Option Addr) (len cap : Nat) (w : World) (hl : len ≤ 1048576) (h : IsBy w w.heap.size a len) :
    Calls Try.prog 32 #[.slice a len cap] w fun e w' => ∃ s : ByteArray, s.size ≤ 8 ∧ e = .returned (.string s) ∧ Below w.heap.size w w' := by
  go_enter Try.func32, Try.ntmps32
  go_wp2_with fail
  refine (l1Open_any a len cap w hl h).mono ?_
  rintro e w1 ⟨rfl, hR1, hb1⟩
  go_wp2_with fail
  refine (text_any w.heap.size len _ hR1).mono ?_
  rintro e w2 ⟨s, hs, rfl, hD⟩
  go_wp2_with fail
  refine (bytes_lit w.heap.size len 5 _ _ hD.rdr (by omega) (by omega) (by omega)).mono ?_
  rintro e w3 ⟨t, ht, rfl, hD3⟩
  have hb3 := below_drew hb1 (hD.trans hD3)
  have hsz : (s ++ t).size ≤ 8 := by rw [ByteArray.size_append]; omega
  have hno : ¬ 9223372036854775807 < s.size + t.size := by omega
  go_wp2_with fail
  go_ret
  exact ⟨s ++ t, hsz, rfl, hb3⟩
theorem frameS_size (s : ByteArray) : (frameS s).size ≤ 8 + s.size := by
  unfold frameS
  split
  · unfold frameB
    rw [ByteArray.size_append]
    exact Nat.le_refl _
  · exact Nat.zero_le _
set_option maxRecDepth 100000 in
set_option maxHeartbeats 1000000 in
theorem drawTakeFrames_any (a : Option Addr) (len cap : Nat) (w : World) (hl : len ≤ 1048576) (h : IsBy w w.heap.size a len) :
    Calls Try.prog 30 #[.slice a len cap] w fun e w' => ∃ s : ByteArray, s.size ≤ 40 ∧ e = .returned (.string s) ∧ Below w.heap.size w w' := by
  go_enter Try.func30, Try.ntmps30
  go_wp2_with fail
  refine (l1Open_any a len cap w hl h).mono ?_
  rintro e w1 ⟨rfl, hR1, hb1⟩
  go_wp2_with fail
  refine (below_lit w.heap.size len 4 _ _ hR1 (by omega) (by omega) (by omega)).mono ?_
  rintro e w2 ⟨x, hx, rfl, hD⟩
  have hb2 := below_drew hb1 hD
  have hR2 := hD.rdr
  clear hb1 hR1 hD
  go_wp2_with fail
  go_loopw [4, 5] (fun v i wr => ∃ (k : Nat) (s : ByteArray), k ≤ 3 ∧ i = .int .i64 k ∧ v = .string s ∧ s.size + k * 11 ≤ 33 ∧ Rdr wr w.heap.size len ∧ Below w.heap.size w wr) (fun _ i _ => (intOf i).toNat)
  case atStart => exact ⟨x, ⟨#[]⟩, by omega, rfl, rfl, by show 0 + x * 11 ≤ 33; omega, hR2, hb2⟩
  case round =>
    obtain ⟨k, s, hk, rfl, rfl, hs, hR, hb⟩ := hrel
    clear hR2 hb2
    by_cases hk0 : 0 < k
    · have hkI : (0 : Int) < (k : Int) := by omega
      go_wp2_with fail
      refine (text_any w.heap.size len _ hR).mono ?_
      rintro e w3 ⟨t, ht, rfl, hD3⟩
      have hb3 := below_drew hb hD3
      have hfz := frameS_size t
      have CF := specFrameOf_any t w3 (by unfold maxLen; omega)
      generalize frameS t = q at *
      go_wp2_with fail
      refine CF.mono ?_
      rintro e w4 ⟨rfl, hb4⟩
      have hb5 := hb3.trans (hb4.mono hb3.size)
      have hR5 := hD3.rdr.below hb4
      clear hb hR hD3 hb3 hb4 CF
      have hsz : (s ++ q).size + (k - 1) * 11 ≤ 33 := by rw [ByteArray.size_append]; omega
      have hno : ¬ 9223372036854775807 < s.size + q.size := by omega
      go_wp2_with fail
      go_roundw
      case rel => exact ⟨k - 1, s ++ q, by omega, by go_num, rfl, hsz, hR5, hb5⟩
      case measure => simp [intOf]; omega
    · obtain rfl : k = 0 := by omega
      go_wp2_with fail
      refine (hurt_any w.heap.size len s _ hR (by omega)).mono ?_
      rintro e w3 ⟨t, ht, rfl, hD3⟩
      have hb3 := below_drew hb hD3
      go_wp2_with fail
      go_ret
      exact ⟨t, by omega, rfl, hb3⟩
end Go.Proofs.Ytpnbbedfbglekaa
