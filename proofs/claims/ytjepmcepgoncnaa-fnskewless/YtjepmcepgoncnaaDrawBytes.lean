/-
  The reader's methods bytes and key by their contracts: some short text. Conditions: those of each statement.
-/
import Derived.Test.YtjepmcepgoncnaaDraw
import Derived.Laws.IdiomStrings
namespace Go.Proofs.Ytjepmcepgoncnaa
open Go.RowKit

/-- Bytes as cells. -/
def byC (l : List UInt8) : List Value := l.map fun c => Value.int .u8 c.toNat
theorem infoByte : (Try.prog.info? 5).map (fun i => (i.zero, i.size, i.bytes)) = some (some (.int .u8 0), 1, 1) := by kernel_rfl
theorem byte_cell {x : Nat} (h : x < 256) : Value.int .u8 (x : Int) = .int .u8 ((UInt8.ofNat x).toNat : Int) := by
  rw [UInt8.toNat_ofNat', Nat.mod_eq_of_lt h]
theorem run_convert_bytes_empty (w : World) (a : Option Addr) (c : Nat) : (convert 31 9 (.slice a 0 c)).run Try.prog w = .ok (.string ⟨[].toArray⟩) w := by
  cases a with
  | none =>
    have := run_convert_bytes_string (P := Try.prog) w 31 9 5 none 0 c Try.underlying31 Try.underlying5 Try.underlying9
    rw [this]; rfl
  | some x => exact run_convert_bytes_back (P := Try.prog) w 31 9 5 x c [] Try.underlying31 Try.underlying5 Try.underlying9 (fun j hj => by simp at hj)
/-- One of the cells of a block that holds a literal. -/
theorem lit_pick {w : World} {base e g n q : Nat} {xs : List Value} {P : Value → Prop} (h : w.ownsRow base e 1 (.slice (some ⟨g, 0, none⟩) n n) n xs) (hq : q < n) (hP : ∀ v ∈ xs, P v) : ∃ v, w.cell? ⟨g, q, none⟩ = some v ∧ P v := by
  have hl := h.1
  have hv : xs[q]? = some (xs[q]'(by omega)) := List.getElem?_eq_getElem _
  exact ⟨_, (h.cellAt q (by omega)).trans hv, hP _ (List.mem_of_getElem? hv)⟩
set_option maxRecDepth 100000 in
set_option maxHeartbeats 2000000 in
theorem bytes_lit (g n m : Nat) (K : Int) (w : World) (h : Rdr w g n) (hK : (m : Int) = K) (hm1 : 1 ≤ m) (hm : m ≤ 100) :
    Calls Try.prog 126 #[.pointer (some ⟨g, 0, none⟩), .int .i64 K] w fun e w' => ∃ s : ByteArray, s.size ≤ m ∧ e = .returned (.string s) ∧ Drew w w' g n := by
  subst hK
  obtain ⟨i0, hi, hz0, hz1, hz2⟩ := info_parts infoByte
  have hO0 : (w.alloc (.cells #[] 5)).ownsRow w.heap.size 5 1 (.slice (some ⟨w.heap.size, 0, none⟩) 0 0) 0 (byC []) := World.ownsRow_lit (base := w.heap.size) (size := 1) w #[] 0 (Nat.le_refl _) (Nat.zero_le _) rfl
  have hD0 := (Drew.refl h).alloc (.cells #[] 5)
  have hg0 := h.lt
  go_enter Try.func126, Try.ntmps126
  go_wp2_with fail
  refine (below_lit g n (m + 1) _ _ hD0.rdr (by omega) (by omega) (by omega)).mono ?_
  rintro e w1 ⟨t, ht, rfl, hD1⟩
  have hO1 := hD1.own hO0 hg0
  have hD := hD0.trans hD1
  clear hO0 hD0 hD1
  go_wp2_with fail
  go_loopw [5, 6] (fun v i wr => ∃ (l : List UInt8) (a : Option Addr) (cc q : Nat), l.length + q ≤ m ∧ i = .int .i64 q ∧ v = .slice a l.length cc ∧ wr.ownsRow w.heap.size 5 1 (.slice a l.length cc) l.length (byC l) ∧ Drew w wr g n) (fun _ i _ => (intOf i).toNat)
  case atStart => exact ⟨[], _, 0, t, by simp; omega, rfl, rfl, hO1, hD⟩
  case round =>
    obtain ⟨l, a, cc, q, hl, rfl, rfl, hO, hDr⟩ := hrel
    clear hO1 hD
    by_cases hpos : 0 < q
    · go_wp2_with fail
      refine (below_lit g n 256 _ _ hDr.rdr (by omega) (by omega) (by omega)).mono ?_
      rintro e w2 ⟨x, hx, rfl, hD2⟩
      have hO2 := hD2.own hO hg0
      have hDa := hDr.trans hD2
      clear hO hDr hD2
      have hX : (w2.alloc (.cells #[.int .u8 0, .int .u8 1, .int .u8 97, .int .u8 98, .int .u8 255, .int .u8 (x : Int)] 5)).ownsRow w2.heap.size 5 1 (.slice (some ⟨w2.heap.size, 0, none⟩) 6 6) 6 [.int .u8 0, .int .u8 1, .int .u8 97, .int .u8 98, .int .u8 255, .int .u8 (x : Int)] := World.ownsRow_lit (base := w2.heap.size) (size := 1) w2 #[.int .u8 0, .int .u8 1, .int .u8 97, .int .u8 98, .int .u8 255, .int .u8 (x : Int)] 6 (Nat.le_refl _) (by decide) rfl
      have hDb := hDa.alloc (.cells #[.int .u8 0, .int .u8 1, .int .u8 97, .int .u8 98, .int .u8 255, .int .u8 (x : Int)] 5)
      have hOb := own_below hO2 (bl1 w2 (.cells #[.int .u8 0, .int .u8 1, .int .u8 97, .int .u8 98, .int .u8 255, .int .u8 (x : Int)] 5))
      have hs2 : w.heap.size ≤ w2.heap.size := hDa.size
      go_wp2_with fail
      refine (below_lit g n 6 _ _ hDb.rdr (by omega) (by omega) (by omega)).mono ?_
      rintro e w3 ⟨y, hy, rfl, hD3⟩
      have hX3 := hD3.own hX (by omega)
      have hO3 := hD3.own hOb hg0
      have hDc := hDb.trans hD3
      have hs3 : w.heap.size ≤ w3.heap.size := hDc.size
      obtain ⟨u, d0, z, hz, rfl⟩ := lit_pick (P := fun v => ∃ z : Nat, z < 256 ∧ v = .int .u8 (z : Int)) hX3 hy (by
        intro v hv
        simp only [List.mem_cons, List.not_mem_nil, or_false] at hv
        rcases hv with rfl | rfl | rfl | rfl | rfl | rfl
        · exact ⟨0, by omega, rfl⟩
        · exact ⟨1, by omega, rfl⟩
        · exact ⟨97, by omega, rfl⟩
        · exact ⟨98, by omega, rfl⟩
        · exact ⟨255, by omega, rfl⟩
        · exact ⟨x, hx, rfl⟩)
      clear hX hX3 hDb hOb hO2 hDa hD3
      have hDd := hDc.alloc (.cells #[.int .u8 (z : Int)] 5)
      go_wp2_with (at_builtin; refine wpList_append_own _ rfl _ _ 31 rfl w.heap.size 5 i0 (.int .u8 0) 1 1 Try.underlying31 hi hz0 hz1 hz2 rfl (by decide) _ _ _ rfl (hO3.alloc _) ⟨w3.heap.size, 0, none⟩ 1 1 [.int .u8 (z : Int)] rfl rfl ?c1 ?c2 ?c3 ?c4 ?c5 ?_)
      case c1 =>
        intro j u hj
        match j, hj with
        | 0, hj => simp at hj; subst hj; simp [Addr.add, go_sem]
      case c2 =>
        intro u hu
        simp at hu
        subst hu; rfl
      case c3 => unfold maxLen; omega
      case c4 => omega
      case c5 => simp; omega
      intro v' w4 hO4 hg4 _
      obtain ⟨a', cap', rfl⟩ := own_slice' hO4
      have hO5 : w4.ownsRow w.heap.size 5 1 (.slice a' (l ++ [UInt8.ofNat z]).length cap') (l ++ [UInt8.ofNat z]).length (byC (l ++ [UInt8.ofNat z])) := by
        rw [byte_cell hz] at hO4
        simpa [byC] using hO4
      have hD5 : Drew w w4 g n := hDd.grown hg0 hg4 (fun q e => (own_ge hO3 q e).1)
      have hll : (l ++ [UInt8.ofNat z]).length + (q - 1) ≤ m := by simp; omega
      have he : l.length + 1 = (l ++ [UInt8.ofNat z]).length := by simp
      have He := Lib.hid he
      clear hO4 hg4 hDd hDc hO3 d0 he
      rw [He.out]
      generalize l ++ [UInt8.ofNat z] = l2 at *
      go_wp2_with fail
      go_roundw
      case rel => exact ⟨l2, a', cap', q - 1, hll, by go_num, rfl, hO5, hD5⟩
      case measure => simp [intOf]; omega
    · have hcv : (convert 31 9 (.slice a l.length cc)).run Try.prog wr = .ok (.string ⟨l.toArray⟩) wr := by
        cases l with
        | nil =>
          exact run_convert_bytes_empty wr a cc
        | cons x l =>
          obtain ⟨b, rfl, _, _⟩ := own_form hO (by simp)
          exact run_convert_bytes_back (P := Try.prog) wr 31 9 5 ⟨b, 0, none⟩ cc (x :: l) Try.underlying31 Try.underlying5 Try.underlying9 (fun j hj => by
            rw [addr_add3, Nat.zero_add, hO.cellAt j (by simpa using hj)]
            rw [byC, List.getElem?_map, List.getElem?_eq_getElem hj]; rfl)
      have hsz : (⟨l.toArray⟩ : ByteArray).size ≤ m := by simp [ByteArray.size]; omega
      generalize (⟨l.toArray⟩ : ByteArray) = s at *
      have hq0 : decide (0 < q) = false := by simp; omega
      clear hO
      go_wp2_with fail
      go_ret
      exact ⟨s, hsz, rfl, hDr⟩
set_option maxRecDepth 100000 in
set_option maxHeartbeats 2000000 in
theorem key_any (g n : Nat) (w : World) (h : Rdr w g n) :
    Calls Try.prog 103 #[.pointer (some ⟨g, 0, none⟩)] w fun e w' => ∃ s : ByteArray, s.size ≤ 5 ∧ e = .returned (.string s) ∧ Drew w w' g n := by
  have hg0 := h.lt
  go_enter Try.func103, Try.ntmps103
  go_wp2_with fail
  refine (once_lit g n 12 _ _ h (by omega) (by omega) (by omega)).mono ?_
  rintro e w1 ⟨b, rfl, hD1⟩
  cases b
  · have hX : (w1.alloc (.cells #[.string ⟨#[]⟩, .string ⟨#[97]⟩, .string ⟨#[98]⟩, .string ⟨#[97, 98]⟩, .string ⟨#[99]⟩, .string ⟨#[107, 101, 121]⟩] 9)).ownsRow w1.heap.size 9 1 (.slice (some ⟨w1.heap.size, 0, none⟩) 6 6) 6 [.string ⟨#[]⟩, .string ⟨#[97]⟩, .string ⟨#[98]⟩, .string ⟨#[97, 98]⟩, .string ⟨#[99]⟩, .string ⟨#[107, 101, 121]⟩] := World.ownsRow_lit (base := w1.heap.size) (size := 1) w1 #[.string ⟨#[]⟩, .string ⟨#[97]⟩, .string ⟨#[98]⟩, .string ⟨#[97, 98]⟩, .string ⟨#[99]⟩, .string ⟨#[107, 101, 121]⟩] 6 (Nat.le_refl _) (by decide) rfl
    have hD2 := hD1.alloc (.cells #[.string ⟨#[]⟩, .string ⟨#[97]⟩, .string ⟨#[98]⟩, .string ⟨#[97, 98]⟩, .string ⟨#[99]⟩, .string ⟨#[107, 101, 121]⟩] 9)
    have hs1 := hD1.size
    go_wp2_with fail
    refine (below_lit g n 6 _ _ hD2.rdr (by omega) (by omega) (by omega)).mono ?_
    rintro e w3 ⟨y, hy, rfl, hD3⟩
    have hX3 := hD3.own hX (by omega)
    have hDc := hD2.trans hD3
    obtain ⟨u, d0, s, hs, rfl⟩ := lit_pick (P := fun v => ∃ s : ByteArray, s.size ≤ 5 ∧ v = .string s) hX3 hy (by
      intro v hv
      simp only [List.mem_cons, List.not_mem_nil, or_false] at hv
      rcases hv with rfl | rfl | rfl | rfl | rfl | rfl
      all_goals exact ⟨_, by decide, rfl⟩)
    clear hX hX3 hD2 hD3
    go_wp2_with fail
    go_ret
    exact ⟨s, hs, rfl, hDc⟩
  · go_wp2_with fail
    refine (bytes_lit g n 5 _ _ hD1.rdr (by omega) (by omega) (by omega)).mono ?_
    rintro e w2 ⟨s, hs, rfl, hD2⟩
    have hD := hD1.trans hD2
    go_wp2_with fail
    go_ret
    exact ⟨s, hs, rfl, hD⟩
end Go.Proofs.Ytjepmcepgoncnaa
