/-
  The methods add and hasKey of impl.bitSet by their contracts. Conditions: the size lies in 8..256, the key has at most 12 bytes.
-/
import Derived.Test.YtfndodaknejhfaaBitPlaces
namespace Go.Proofs.Ytfndodaknejhfaa
open Go.RowKit
def plN (n : Int) (s : ByteArray) (k : Nat) : Nat := (place n s k).toNat
theorem place_bd (n : Int) (s : ByteArray) (k : Nat) (h0 : 8 ≤ n) : place n s k = (plN n s k : Int) ∧ (plN n s k : Int) < n := by
  have h1 := Int.emod_nonneg (fnv (keyB k s).data.toList) (show n ≠ 0 by omega)
  have h2 := Int.emod_lt_of_pos (fnv (keyB k s).data.toList) (show 0 < n by omega)
  have : plN n s k = (place n s k).toNat := rfl
  have : place n s k = fnv (keyB k s).data.toList % n := rfl
  omega
/-- The bits of a key, set. -/
def addL (n : Int) (s : ByteArray) (l : List UInt8) : List UInt8 := setL (setL (setL l (plN n s 0)) (plN n s 1)) (plN n s 2)
def hasK (n : Int) (s : ByteArray) (l : List UInt8) : Bool := hasL l (plN n s 0) && hasL l (plN n s 1) && hasL l (plN n s 2)
def addTo (a0 a1 a2 k : Nat) (l : List UInt8) : List UInt8 := ([a0, a1, a2].take k).foldl setL l
theorem int_agg (a b c : Int) (a' b' c' : Int) (h0 : a = a') (h1 : b = b') (h2 : c = c') : Ending.returned (.agg #[.int .i64 a, .int .i64 b, .int .i64 c]) = .returned (.agg #[.int .i64 a', .int .i64 b', .int .i64 c']) := by rw [h0, h1, h2]
theorem places_nat (b : Nat) (n : Int) (l : List UInt8) (s : ByteArray) (w : World) (h : BS w b n l) (h0 : 8 ≤ n) (h1 : n ≤ 256) (hs : s.size ≤ 12) (a0 a1 a2 : Nat) (e0 : plN n s 0 = a0) (e1 : plN n s 1 = a1) (e2 : plN n s 2 = a2) :
    Calls Try.prog 144 #[.pointer (some ⟨b, 0, none⟩), .string s] w fun e w' => e = .returned (.agg #[.int .i64 (a0 : Int), .int .i64 (a1 : Int), .int .i64 (a2 : Int)]) ∧ Below w.heap.size w w' :=
  (places_any b n l s w h h0 h1 hs).mono fun e w' ⟨he, hb⟩ => ⟨he.trans (int_agg _ _ _ _ _ _ (by rw [← e0]; exact (place_bd n s 0 h0).1) (by rw [← e1]; exact (place_bd n s 1 h0).1) (by rw [← e2]; exact (place_bd n s 2 h0).1)), hb⟩
theorem addTo_succ (a0 a1 a2 k x : Nat) (l : List UInt8) (hx : [a0, a1, a2][k]? = some x) : addTo a0 a1 a2 (k + 1) l = setL (addTo a0 a1 a2 k l) x := by
  unfold addTo
  obtain ⟨h, rfl⟩ := List.getElem?_eq_some_iff.1 hx
  rw [List.take_succ_eq_append_getElem h, List.foldl_append]; rfl
set_option maxRecDepth 100000 in
theorem index3 (a0 a1 a2 k x : Nat) (hx : [a0, a1, a2][k]? = some x) (W : World) : (Instr.index 187 (.agg #[.int .i64 (a0 : Int), .int .i64 (a1 : Int), .int .i64 (a2 : Int)]) (.int .i64 (k : Int))).run Try.prog W = .ok (.int .i64 (x : Int)) W := by
  have hk := (List.getElem?_eq_some_iff.1 hx).1
  rcases (show k = 0 ∨ k = 1 ∨ k = 2 by simp at hk; omega) with rfl | rfl | rfl <;> simp at hx <;> subst hx <;> simp [Instr.index, go_sem]
theorem pick3 (a0 a1 a2 k : Nat) (hk : k < 3) (n : Int) (b0 : (a0 : Int) < n) (b1 : (a1 : Int) < n) (b2 : (a2 : Int) < n) : ∃ x, [a0, a1, a2][k]? = some x ∧ (x : Int) < n := by
  rcases (show k = 0 ∨ k = 1 ∨ k = 2 by omega) with rfl | rfl | rfl
  · exact ⟨a0, rfl, b0⟩
  · exact ⟨a1, rfl, b1⟩
  · exact ⟨a2, rfl, b2⟩
set_option maxRecDepth 100000 in
theorem bitAdd_any (b : Nat) (n : Int) (l : List UInt8) (s : ByteArray) (w : World) (h : BS w b n l) (h0 : 8 ≤ n) (h1 : n ≤ 256) (hs : s.size ≤ 12) :
    Calls Try.prog 86 #[.pointer (some ⟨b, 0, none⟩), .string s] w fun e w' => e = .returned (.tuple #[]) ∧ Below b w w' ∧ BS w' b n (addL n s l) := by
  have b0 := (place_bd n s 0 h0).2
  have b1 := (place_bd n s 1 h0).2
  have b2 := (place_bd n s 2 h0).2
  have E : Hid (addL n s l = addTo (plN n s 0) (plN n s 1) (plN n s 2) 3 l) := Lib.hid rfl
  obtain ⟨a0, e0⟩ : ∃ a, plN n s 0 = a := ⟨_, rfl⟩
  obtain ⟨a1, e1⟩ : ∃ a, plN n s 1 = a := ⟨_, rfl⟩
  obtain ⟨a2, e2⟩ : ∃ a, plN n s 2 = a := ⟨_, rfl⟩
  have C := places_nat b n l s w h h0 h1 hs a0 a1 a2 e0 e1 e2
  rw [e0] at b0
  rw [e1] at b1
  rw [e2] at b2
  rw [e0, e1, e2] at E
  clear e0 e1 e2
  go_enter Try.func86, Try.ntmps86
  go_wp2_with fail
  refine C.mono ?_
  clear C
  rintro e w1 ⟨rfl, hb1⟩
  have hlt0 := h.2.2.2
  replace h := h.below hb1 hlt0
  have hbb : Below b w w1 := hb1.mono (Nat.le_of_lt hlt0)
  go_wp2_with fail
  go_loopw [9] (fun i wr => ∃ k : Nat, k ≤ 3 ∧ i = .int .i64 k ∧ Below b w wr ∧ BS wr b n (addTo a0 a1 a2 k l)) (fun i _ => 3 - (intOf i).toNat)
  case atStart => exact ⟨0, by omega, rfl, hbb, h⟩
  case round =>
    obtain ⟨k, hk, rfl, hbr, hr⟩ := hrel
    clear h hbb hb1
    by_cases hk3 : k < 3
    · obtain ⟨x, hx, hxb⟩ := pick3 a0 a1 a2 k hk3 n b0 b1 b2
      have hix := index3 a0 a1 a2 k x hx
      have A := Lib.hid (addTo_succ a0 a1 a2 k x l hx)
      clear hx
      go_wp2_with fail
      refine (bitSet_any b n _ x _ hr (by omega)).mono ?_
      rintro e w2 ⟨rfl, hb2, r2⟩
      rw [← A.out] at r2
      replace hbr := hbr.trans hb2
      clear hr hb2
      go_wp2_with fail
      go_roundw
      case rel => exact ⟨k + 1, by omega, by go_num, hbr, r2⟩
      case measure => simp [intOf]; omega
    · obtain rfl : k = 3 := by omega
      go_wp2_with fail
      go_end0
      exact ⟨rfl, hbr, by rw [E.out]; exact hr⟩
set_option maxRecDepth 100000 in
theorem bitHasKey_any (b : Nat) (n : Int) (l : List UInt8) (s : ByteArray) (w : World) (h : BS w b n l) (h0 : 8 ≤ n) (h1 : n ≤ 256) (hs : s.size ≤ 12) :
    Calls Try.prog 94 #[.pointer (some ⟨b, 0, none⟩), .string s] w fun e w' => e = .returned (.bool (hasK n s l)) ∧ Below w.heap.size w w' := by
  have b0 := (place_bd n s 0 h0).2
  have b1 := (place_bd n s 1 h0).2
  have b2 := (place_bd n s 2 h0).2
  have E : Hid (hasK n s l = ([plN n s 0, plN n s 1, plN n s 2].all (hasL l))) := Lib.hid (by simp [hasK, Bool.and_assoc])
  obtain ⟨a0, e0⟩ : ∃ a, plN n s 0 = a := ⟨_, rfl⟩
  obtain ⟨a1, e1⟩ : ∃ a, plN n s 1 = a := ⟨_, rfl⟩
  obtain ⟨a2, e2⟩ : ∃ a, plN n s 2 = a := ⟨_, rfl⟩
  have C := places_nat b n l s w h h0 h1 hs a0 a1 a2 e0 e1 e2
  rw [e0] at b0
  rw [e1] at b1
  rw [e2] at b2
  rw [e0, e1, e2] at E
  clear e0 e1 e2
  go_enter Try.func94, Try.ntmps94
  go_wp2_with fail
  refine C.mono ?_
  clear C
  rintro e w1 ⟨rfl, hb1⟩
  replace h := h.below hb1 h.2.2.2
  go_wp2_with fail
  go_loopw [10] (fun i wr => ∃ k : Nat, k ≤ 3 ∧ i = .int .i64 k ∧ w1 = wr ∧ ∀ x ∈ [a0, a1, a2].take k, hasL l x = true) (fun i _ => 3 - (intOf i).toNat)
  case atStart => exact ⟨0, by omega, rfl, rfl, by simp⟩
  case round =>
    obtain ⟨k, hk, rfl, rfl, hall⟩ := hrel
    by_cases hk3 : k < 3
    · obtain ⟨x, hx, hxb⟩ := pick3 a0 a1 a2 k hk3 n b0 b1 b2
      have hix := index3 a0 a1 a2 k x hx
      have HM := Lib.hid (show x ∈ [a0, a1, a2] from List.mem_of_getElem? hx)
      have A := Lib.hid (show hasL l x = true → ∀ y ∈ [a0, a1, a2].take (k + 1), hasL l y = true by
        intro h' y hy
        obtain ⟨hlt, rfl⟩ := List.getElem?_eq_some_iff.1 hx
        rw [List.take_succ_eq_append_getElem hlt] at hy
        rcases List.mem_append.1 hy with h2 | h2
        · exact hall y h2
        · rw [List.mem_singleton.1 h2]; exact h')
      clear hx hall
      go_wp2_with fail
      refine (bitHas_any b n l x _ h (by omega)).mono ?_
      rintro e w2 ⟨rfl, rfl⟩
      cases hv : hasL l x
      · have E2 := Lib.hid (show hasK n s l = false by
          rw [E.out, List.all_eq_false]
          exact ⟨x, HM.out, by simp [hv]⟩)
        go_wp2_with fail
        go_ret
        exact ⟨ret_bool E2.out.symm, hb1⟩
      · go_wp2_with fail
        go_roundw
        case rel => exact ⟨k + 1, by omega, by go_num, trivial, A.out hv⟩
        case measure => simp [intOf]; omega
    · obtain rfl : k = 3 := by omega
      have E2 := Lib.hid (show hasK n s l = true by
        rw [E.out, List.all_eq_true]
        exact hall)
      clear hall
      go_wp2_with fail
      go_ret
      exact ⟨ret_bool E2.out.symm, hb1⟩
end Go.Proofs.Ytfndodaknejhfaa
