/-
  The method filter of impl.bitSet by its contract: the size, and as many bytes as it asks for. Conditions: the size lies in 8..256.
-/
import Derived.Test.YtpnbbedfbglekaaBitSet
namespace Go.Proofs.Ytpnbbedfbglekaa
open Go.RowKit
def bytesOf (n : Int) (l : List UInt8) : ByteArray := ⟨(l.take (n / 8).toNat).toArray⟩
theorem conv_bits {w : World} {b : Nat} {n : Int} {l : List UInt8} (h : BS w b n l) (m : Nat) (hm : m ≤ 32) :
    (convert 41 9 (.slice (some ⟨b, 1, none⟩) m 32)).run Try.prog w = .ok (.string ⟨(l.take m).toArray⟩) w := by
  have hl := h.2.2.1
  have e : (l.take m).length = m := by simp; omega
  have := run_convert_bytes_back (P := Try.prog) w 41 9 5 ⟨b, 1, none⟩ 32 (l.take m) Try.underlying41 Try.underlying5 Try.underlying9 (fun j hj => by
    have := h.1 (j + 1) (u8v (l.take m)[j]) (by
      simp only [bsL, List.getElem?_cons_succ, List.getElem?_map, List.getElem_take]
      rw [List.getElem?_eq_getElem (by simp at hj; omega)]; rfl)
    rw [Addr.add_mid]
    rwa [show 0 + (j + 1) = 1 + j by omega] at this)
  rwa [e] at this
set_option maxRecDepth 100000 in
theorem slice_bits (b m : Nat) (hm : m ≤ 32) (W : World) : (Instr.sliceAt 125 (.pointer (some ⟨b, 1, none⟩)) none (some (.int .i64 (m : Int))) none).run Try.prog W = .ok (.slice (some ⟨b, 1, none⟩) m 32) W := by
  have e : Try.prog.arrayLen 125 = 32 := by kernel_rfl
  have e2 : Try.prog.elem 125 = 5 := by kernel_rfl
  rw [run_sliceAt_array_h (P := Try.prog) W 125 ⟨b, 1, none⟩ (by rw [e, e2]; exact Try.underlying125) .i64 m (by omega) (by rw [e]; omega), e, e2, Try.sizeOf5]
  simp [slicedAt, Addr.add]
set_option maxRecDepth 100000 in
theorem bitFilter_any (b : Nat) (n : Int) (l : List UInt8) (w : World) (h : BS w b n l) (h0 : 8 ≤ n) (h1 : n ≤ 256) :
    Calls Try.prog 99 #[.pointer (some ⟨b, 0, none⟩)] w fun e w' => e = .returned (.agg #[.int .i64 n, .string (bytesOf n l)]) ∧ Below w.heap.size w w' := by
  obtain ⟨m, hm⟩ : ∃ m : Nat, n / 8 = m := ⟨(n / 8).toNat, by omega⟩
  have hm32 : m ≤ 32 := by omega
  have hq : IntKind.i64.wrap (n.tdiv 8) = (m : Int) := by
    rw [Int.tdiv_eq_ediv_of_nonneg (by omega), hm]
    rw [IntWalk.i64_in _ (by omega)]
  have hsl := slice_bits b m hm32
  go_enter Try.func99, Try.ntmps99
  have c0 : w.cell? ⟨b, 0, none⟩ = some (.int .i64 n) := h.1 0 _ rfl
  have hcv := conv_bits (show BS ((w.alloc (.cells #[.int .i64 0, .string ⟨#[]⟩] 66)).drew) b n l from (h.below ((bl1 w _).drew) h.2.2.2)) m hm32
  have E := Lib.hid (show bytesOf n l = ⟨(l.take m).toArray⟩ by unfold bytesOf; rw [hm]; rfl)
  have hlt := h.2.2.2
  have c1 : (w.alloc (.cells #[.int .i64 0, .string ⟨#[]⟩] 66)).cell? ⟨b, 0, none⟩ = some (.int .i64 n) := ((bl1 w _).cell (p := ⟨b, 0, none⟩) hlt).trans c0
  clear h c0
  go_wp2_with fail
  generalize (⟨(l.take m).toArray⟩ : ByteArray) = s at *
  have hB := bl1 w (.cells #[.int .i64 0, .string ⟨#[]⟩] 66)
  have hN : (w.alloc (.cells #[.int .i64 0, .string ⟨#[]⟩] 66)).there w.heap.size 0 2 := by
    intro j hj
    rcases (show j = 0 ∨ j = 1 by omega) with rfl | rfl <;> simp [go_sem, World.frozen?_alloc_new]
  generalize w.alloc (.cells #[.int .i64 0, .string ⟨#[]⟩] 66) = w1 at *
  refine wp_region_still_tail 15 (by kernel_rfl) (by kernel_rfl) ?_
  simp only [List.take_succ_cons, List.take_zero, List.drop_succ_cons, List.drop_zero]
  change wpStill _ _ w1.drew _ _ _
  repeat still_step
  refine wpStill_nil ?_
  change wpList _ _ _ _ _ w1.drew
  refine wpList_store_mid rfl 66 _ _ rfl w.heap.size 0 #[.int .i64 n, .string s] rfl rfl (by simpa using hN) (by kernel_rfl) (by simp [Value.oneCell']) ?_
  have hR : (w1.drew.setCells w.heap.size 0 [.int .i64 n, .string s]).rangeAt w.heap.size 0 [.int .i64 n, .string s] := World.rangeAt_setCells_same _ _ _ _ (by simpa using hN)
  have hB2 := below_setCells (B := w.heap.size) (b := w.heap.size) (Nat.le_refl _) [.int .i64 n, .string s] 0 _ hB.drew
  change wpList _ _ _ _ _ (w1.drew.setCells w.heap.size 0 [.int .i64 n, .string s])
  generalize w1.drew.setCells w.heap.size 0 [.int .i64 n, .string s] = w2 at *
  go_wp2_with fail
  have hld := run_loadVar_mid (P := Try.prog) w2 w.heap.size 0 66 [.int .i64 n, .string s] _ hR Try.underlying66 rfl (by kernel_rfl)
  refine bodyPost_ret (v := .agg #[.int .i64 n, .string s]) ?_ rfl ⟨by rw [E.out], hB2⟩
  simp [results, Try.results99, asAddr, hld, Act.put]
end Go.Proofs.Ytpnbbedfbglekaa
