/-
  spec.ReadKeyCode by its contract. Condition: the text has at most 1099511627776 bytes.
-/
import Derived.Test.YtgeepfoknhhcjaaDoorReadMath
namespace Go.Proofs.YtgeepfoknhhcjaaDoor
open Go.RowKit

/-- What ReadKeyCode returns. -/
def keyRes (s : ByteArray) : Value := match rkAt s 0 [] with
  | some (key, j) => .tuple #[.string ⟨key.toArray⟩, .int .i64 (j : Int), .bool true]
  | none => .tuple #[.string ⟨#[]⟩, .int .i64 0, .bool false]
theorem keyRes_none {s : ByteArray} (h : rkAt s 0 [] = none) : keyRes s = .tuple #[.string ⟨#[]⟩, .int .i64 0, .bool false] := by simp only [keyRes, h]
theorem keyRes_some {s : ByteArray} {key : List UInt8} {j : Nat} (h : rkAt s 0 [] = some (key, j)) : keyRes s = .tuple #[.string ⟨key.toArray⟩, .int .i64 (j : Int), .bool true] := by simp only [keyRes, h]
theorem ret_val {a b : Value} (h : a = b) : Ending.returned a = .returned b := by rw [h]
theorem rd_append (a b : List UInt8) : (⟨a.toArray⟩ : ByteArray) ++ (⟨b.toArray⟩ : ByteArray) = ⟨(a ++ b).toArray⟩ := by
  apply ByteArray.ext
  rw [ByteArray.data_append]
  simp
theorem rd_extract (s : ByteArray) (k : Nat) (h : k < s.size) : s.extract k (k + 1) = ⟨[s[k]].toArray⟩ := by
  apply ByteArray.ext
  rw [ByteArray.data_extract]
  apply Array.ext'
  have hl : k < s.data.size := h
  simp only [Array.toList_extract, List.extract_eq_take_drop]
  rw [show k + 1 - k = 1 by omega, List.drop_eq_getElem_cons (by simpa using hl)]
  rfl
theorem rd_str {a b : ByteArray} (h : a = b) : Value.string a = .string b := by rw [h]
/-- What holds at a round's head. -/
def SpecRel (s : ByteArray) (q : Nat) (acc : List UInt8) : Prop := (acc.length ≤ 12 → rkAt s q acc = rkAt s 0 []) ∧ (12 < acc.length → rkAt s 0 [] = none)
set_option maxRecDepth 100000 in
set_option maxHeartbeats 2000000 in
theorem specReadKeyCode_any (s : ByteArray) (w : World) (hs : s.size ≤ 1099511627776) :
    Calls Tryd.prog 16 #[.string s] w fun e w' => e = .returned (keyRes s) ∧ w = w' := by
  go_enter Tryd.func16, Tryd.ntmps16
  go_wp2
  go_loop [5, 6] (fun o i => ∃ (q : Nat) (acc : List UInt8), q ≤ s.size ∧ acc.length ≤ 13 ∧ i = .int .i64 q ∧ o = .string ⟨acc.toArray⟩ ∧ SpecRel s q acc) (fun _ i => s.size - (intOf i).toNat)
  case atStart => exact ⟨0, [], Nat.zero_le _, by simp, rfl, rfl, fun _ => rfl, fun h => absurd h (by simp)⟩
  case round =>
    obtain ⟨q, acc, hq, hacc, rfl, rfl, hR1, hR2⟩ := hrel
    have HR1 := Lib.hid hR1
    have HR2 := Lib.hid hR2
    clear hR1 hR2
    have hsz : (⟨acc.toArray⟩ : ByteArray).size = acc.length := by simp [ByteArray.size]
    by_cases hlt : q < s.size
    case neg =>
      have hd : decide (q < s.size) = false := by simpa using hlt
      have E := Lib.hid (keyRes_none (s := s) (by
        rcases Nat.lt_or_ge 12 acc.length with h | h
        · exact HR2.out h
        · rw [← HR1.out h]; exact rkAt_end _ (by omega)))
      go_wp2
      go_ret3
      exact ⟨ret_val E.out.symm, rfl⟩
    have hd : decide (q < s.size) = true := by simpa using hlt
    by_cases hl : acc.length ≤ 12
    case neg =>
      have E := Lib.hid (keyRes_none (s := s) (HR2.out (by omega)))
      go_wp2
      go_ret3
      exact ⟨ret_val E.out.symm, rfl⟩
    have hk := Lib.hid (HR1.out hl)
    by_cases h0 : s[q] = 0
    case neg =>
      have hd0 : ((s[q].toNat : Int) != 0) = true := by
        rw [bne_iff_ne]; intro e; apply h0; apply UInt8.toNat_inj.1; simpa using e
      have R : SpecRel s (q + 1) (acc ++ [s[q]]) := by
        refine ⟨fun h => ?_, fun h => ?_⟩
        · rw [← hk.out]; exact (rkAt_plain hlt h0 (by simp at h; omega)).symm
        · rw [← hk.out]; exact rkAt_full hlt h0 (by simp at h; omega)
      have hx := Lib.hid (rd_extract s q hlt)
      clear h0
      go_wp2
      go_round
      case rel => exact ⟨q + 1, acc ++ [s[q]], by omega, by simp; omega, by go_num, rd_str (by rw [hx.out, rd_append]), R⟩
      case measure => simp [intOf]; omega
    have hd0 : ((s[q].toNat : Int) != 0) = false := by rw [h0]; rfl
    have H0 := Lib.hid h0
    clear h0
    by_cases hlt1 : q + 1 < s.size
    case neg =>
      have E := Lib.hid (keyRes_none (s := s) (by rw [← hk.out]; exact rkAt_cut hlt H0.out (by omega)))
      have hde : (((q : Int) + 1) == (s.size : Int)) = true := by rw [beq_iff_eq]; omega
      go_wp2
      go_ret3
      exact ⟨ret_val E.out.symm, rfl⟩
    have hde : (((q : Int) + 1) == (s.size : Int)) = false := by rw [beq_eq_false_iff_ne]; omega
    by_cases hm0 : s[q + 1] = 0
    case pos =>
      have hm1 : ((s[q + 1].toNat : Int) != 0) = false := by rw [hm0]; rfl
      have hm2 : ((s[q + 1].toNat : Int) == 0) = true := by rw [hm0]; rfl
      have E := Lib.hid (keyRes_some (s := s) (by rw [← hk.out]; exact rkAt_stop hlt H0.out hlt1 hm0))
      clear hm0
      go_wp2
      go_ret3
      exact ⟨ret_val (by rw [E.out]; simp), rfl⟩
    have hm1 : ((s[q + 1].toNat : Int) != 0) = true := by
      rw [bne_iff_ne]; intro e; apply hm0; apply UInt8.toNat_inj.1; simpa using e
    have hm2 : ((s[q + 1].toNat : Int) == 0) = false := by
      rw [beq_eq_false_iff_ne]; intro e; apply hm0; apply UInt8.toNat_inj.1; simpa using e
    by_cases hm : s[q + 1] = 255
    case neg =>
      have hm3 : ((s[q + 1].toNat : Int) != 255) = true := by
        rw [bne_iff_ne]; intro e; apply hm; apply UInt8.toNat_inj.1; have e' : s[q + 1].toNat = 255 := by omega
        exact e'
      have E := Lib.hid (keyRes_none (s := s) (by rw [← hk.out]; exact rkAt_bad hlt H0.out hlt1 hm0 hm))
      clear hm hm0
      go_wp2
      go_ret3
      exact ⟨ret_val E.out.symm, rfl⟩
    have hm3 : ((s[q + 1].toNat : Int) != 255) = false := by rw [hm]; rfl
    have R : SpecRel s (q + 2) (acc ++ [0]) := by
      refine ⟨fun h => ?_, fun h => ?_⟩
      · rw [← hk.out]; exact (rkAt_mark hlt H0.out hlt1 hm (by simp at h; omega)).symm
      · rw [← hk.out]; exact rkAt_mark_full hlt H0.out hlt1 hm (by simp at h; omega)
    clear hm hm0
    go_wp2
    go_round
    case rel => exact ⟨q + 2, acc ++ [0], by omega, by simp; omega, by go_num, rd_str (rd_append acc [0]), R⟩
    case measure => simp [intOf]; omega
end Go.Proofs.YtgeepfoknhhcjaaDoor
