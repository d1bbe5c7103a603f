/-
  The code of a text: spec.l1Code, spec.KeyCode and impl.KeyCode by their contracts. Conditions: those of each statement.
-/
import Derived.Test.YtgeepfoknhhcjaaDoorPlain
import Derived.Test.YtgeepfoknhhcjaaDoorShelf
namespace Go.Proofs.YtgeepfoknhhcjaaDoor
open Go.RowKit

def esc (c : UInt8) : List UInt8 := if c = 0 then [0, 255] else [c]
def escs (l : List UInt8) : List UInt8 := l.flatMap esc
theorem escs_nil : escs [] = [] := rfl
theorem escs_cons (c : UInt8) (l : List UInt8) : escs (c :: l) = esc c ++ escs l := rfl
theorem escs_append (a b : List UInt8) : escs (a ++ b) = escs a ++ escs b := by simp [escs]
theorem escs_snoc (l : List UInt8) (c : UInt8) : escs (l ++ [c]) = escs l ++ esc c := by simp [escs]
theorem esc_le (c : UInt8) : 1 ≤ (esc c).length ∧ (esc c).length ≤ 2 := by unfold esc; split <;> simp
theorem escs_le : ∀ l : List UInt8, (escs l).length ≤ 2 * l.length
  | [] => by simp [escs]
  | c :: l => by
    have := escs_le l
    have := (esc_le c).2
    rw [escs_cons, List.length_append, List.length_cons]; omega
/-- The code of a text that is not too long. -/
def codeB (s : ByteArray) : ByteArray := ⟨(escs s.data.toList ++ [0, 0]).toArray⟩
/-- What KeyCode returns. -/
def keyCode (s : ByteArray) : ByteArray := if s.size ≤ 12 then codeB s else ⟨#[]⟩
theorem size_mk (l : List UInt8) : (⟨l.toArray⟩ : ByteArray).size = l.length := by simp [ByteArray.size]
theorem mk_append (a b : List UInt8) : (⟨a.toArray⟩ : ByteArray) ++ (⟨b.toArray⟩ : ByteArray) = ⟨(a ++ b).toArray⟩ := by
  apply ByteArray.ext
  rw [ByteArray.data_append]
  simp
theorem data_toList_size (s : ByteArray) : s.data.toList.length = s.size := by simp
theorem codeB_size (s : ByteArray) : (codeB s).size ≤ 2 * s.size + 2 := by
  have := escs_le s.data.toList
  unfold codeB
  rw [size_mk, List.length_append]
  simp at this ⊢
  omega
theorem codeB_pos (s : ByteArray) : 2 ≤ (codeB s).size := by
  unfold codeB
  rw [size_mk, List.length_append]
  simp
theorem extract_one (s : ByteArray) (k : Nat) (h : k < s.size) : s.extract k (k + 1) = ⟨[s[k]].toArray⟩ := by
  apply ByteArray.ext
  rw [ByteArray.data_extract]
  apply Array.ext'
  have hl : k < s.data.size := h
  simp only [Array.toList_extract, List.extract_eq_take_drop]
  rw [show k + 1 - k = 1 by omega, List.drop_eq_getElem_cons (by simpa using hl)]
  rfl
theorem take_snoc' (s : ByteArray) (k : Nat) (h : k < s.size) : s.data.toList.take (k + 1) = s.data.toList.take k ++ [s[k]] := by
  rw [List.take_succ_eq_append_getElem (by simpa using h)]; rfl
theorem val_str {a b : ByteArray} (h : a = b) : Value.string a = .string b := by rw [h]

theorem replace_escs : ∀ l : List UInt8, Lib.replaceK [0] [0, 255] (Lib.count l [0]) l = escs l
  | [] => by
    rw [Lib.count_miss (by rfl), Lib.replaceK]; rfl
  | b :: l => by
    have ih := replace_escs l
    by_cases hb : b = 0
    · subst hb
      have hi : Lib.index (0 :: l) [0] = ((0 : Nat) : Int) := by simp [Lib.index]
      rw [Lib.count_hit (by simp) hi, Nat.add_comm 1, Lib.replaceK_hit _ _ _ _ _ hi]
      simp only [List.take_zero, List.nil_append, List.length_cons, List.length_nil, Nat.zero_add, List.drop_succ_cons, List.drop_zero, ih]
      rfl
    · have hp : ([0] : List UInt8).isPrefixOf (b :: l) = false := by
        simp [List.isPrefixOf, Ne.symm hb]
      have he : esc b = [b] := by simp [esc, hb]
      by_cases hm : Lib.index l [0] = -1
      · have hi : Lib.index (b :: l) [0] = -1 := by simp [Lib.index, hp, hm]
        rw [Lib.count_miss hi, Lib.replaceK, escs_cons, he]
        rw [Lib.count_miss hm, Lib.replaceK] at ih
        rw [← ih]; rfl
      · obtain ⟨i, hi⟩ : ∃ i : Nat, Lib.index l [0] = i := ⟨(Lib.index l [0]).toNat, by have := Lib.index_ge l [0]; omega⟩
        have hi' : Lib.index (b :: l) [0] = ((i + 1 : Nat) : Int) := by
          simp [Lib.index, hp, hi]
        rw [Lib.count_hit (by simp) hi, Nat.add_comm 1, Lib.replaceK_hit _ _ _ _ _ hi] at ih
        rw [Lib.count_hit (by simp) hi', Nat.add_comm 1, Lib.replaceK_hit _ _ _ _ _ hi', escs_cons, he, ← ih]
        simp
theorem replaceAll_escs (l : List UInt8) : Lib.replaceAll l [0] [0, 255] = escs l := by
  have e : Lib.replaceNum l [0] (-1) = Lib.count l [0] := by
    unfold Lib.replaceNum; rw [if_pos (.inl (by omega))]
  unfold Lib.replaceAll Lib.replace
  rw [if_neg (by decide), e, replace_escs]

set_option maxRecDepth 100000 in
set_option maxHeartbeats 1000000 in
theorem l1Code_any (s : ByteArray) (w : World) (hs : s.size ≤ 4294967296) :
    Calls Tryd.prog 51 #[.string s] w fun e w' => e = .returned (.string (codeB s)) ∧ w = w' := by
  go_enter Tryd.func51, Tryd.ntmps51
  go_wp2
  go_loop [3, 4] (fun o i => ∃ (k : Nat) (l : List UInt8), k ≤ s.size ∧ i = .int .i64 k ∧ o = .string ⟨l.toArray⟩ ∧ l.length ≤ 2 * k ∧ Hid (l = escs (s.data.toList.take k))) (fun _ i => s.size - (intOf i).toNat)
  case atStart => exact ⟨0, [], Nat.zero_le _, rfl, rfl, by simp, Lib.hid (by simp [escs])⟩
  case round =>
    obtain ⟨k, l, hk, rfl, rfl, hl, Hl⟩ := hrel
    by_cases hlt : k < s.size
    · have hx := Lib.hid (extract_one s k hlt)
      by_cases h0 : s[k] = 0
      · have hd : ((s[k].toNat : Int) == 0) = true := by rw [h0]; rfl
        have H1 := Lib.hid (show l ++ [s[k]] ++ [255] = escs (s.data.toList.take (k + 1)) by rw [take_snoc' s k hlt, escs_snoc, Hl.out, h0, List.append_assoc]; rfl)
        clear h0
        go_wp2
        go_round
        case rel => exact ⟨k + 1, l ++ [s[k]] ++ [255], by omega, by go_num, val_str (by rw [hx.out, mk_append]; exact mk_append _ [255]), by simp; omega, H1⟩
        case measure => simp [intOf]; omega
      · have hd : ((s[k].toNat : Int) == 0) = false := by
          rw [beq_eq_false_iff_ne]
          intro e
          apply h0
          apply UInt8.toNat_inj.1
          simpa using e
        have H1 := Lib.hid (show l ++ [s[k]] = escs (s.data.toList.take (k + 1)) by rw [take_snoc' s k hlt, escs_snoc, Hl.out]; simp [esc, h0])
        clear h0
        go_wp2
        go_round
        case rel => exact ⟨k + 1, l ++ [s[k]], by omega, by go_num, val_str (by rw [hx.out, mk_append]), by simp; omega, H1⟩
        case measure => simp [intOf]; omega
    · have H1 := Lib.hid (show l = escs s.data.toList by rw [Hl.out, List.take_of_length_le (by simp; omega)])
      go_wp2
      go_ret
      exact ⟨ret_str (by unfold codeB; rw [← H1.out]; exact mk_append l [0, 0]), rfl⟩
theorem specKeyCode_any (s : ByteArray) (w : World) (hs : s.size ≤ maxLen) :
    Calls Tryd.prog 17 #[.string s] w fun e w' => e = .returned (.string (keyCode s)) ∧ w = w' := by
  unfold maxLen at hs
  by_cases h : s.size ≤ 12
  · have E := Lib.hid (show keyCode s = codeB s from if_pos h)
    go_enter Tryd.func17, Tryd.ntmps17
    go_wp2_with fail
    refine (l1Code_any s _ (by omega)).mono ?_
    rintro e w' ⟨rfl, rfl⟩
    go_wp2_with fail
    go_ret
    exact ⟨ret_str E.out.symm, rfl⟩
  · have E := Lib.hid (show keyCode s = ⟨#[]⟩ from if_neg h)
    go_enter Tryd.func17, Tryd.ntmps17
    go_wp2_with fail
    go_ret
    exact ⟨ret_str E.out.symm, rfl⟩
theorem implKeyCode_any (s : ByteArray) (m : Int) (w : World) (hs : s.size ≤ maxLen) (hm : w.cell? ⟨0, 0, none⟩ = some (.int .i64 m)) :
    Calls Tryd.prog 13 #[.string s] w fun e w' => e = .returned (.string (keyCode s)) ∧ Below w.heap.size w w' := by
  unfold maxLen at hs
  by_cases h : s.size ≤ 12
  · have E := Lib.hid (show keyCode s = codeB s from if_pos h)
    have hd : decide ((s.size : Int) ≤ 12) = true := by simp; omega
    have Hr := Lib.hid (replaceAll_escs s.data.toList)
    have hle := escs_le s.data.toList
    rw [data_toList_size] at hle
    go_enter Tryd.func13, Tryd.ntmps13
    go_wp2_with (go_at_call 45; go_in)
    refine (Tryd.strings_ReplaceAll s ⟨#[0]⟩ ⟨#[0, 255]⟩ m _ (by omega) hm (by decide) ?_).mono ?_
    · have h2 : (ByteArray.mk #[0, 255]).size = 2 := rfl
      have := Lib.countB_mul_le (ByteArray.mk #[0]) (by decide) s.size s (Nat.le_refl _)
      have h1 : (ByteArray.mk #[0]).size = 1 := rfl
      rw [h1] at this
      rw [h2]
      omega
    rintro e w1 ⟨rfl, hb⟩
    rw [show (ByteArray.mk #[0]).data.toList = [0] from rfl, show (ByteArray.mk #[0, 255]).data.toList = [0, 255] from rfl, Hr.out]
    generalize hg : escs s.data.toList = l at *
    have Hg := Lib.hid hg
    clear hg
    go_wp2_with fail
    go_ret
    exact ⟨ret_str (by rw [E.out]; unfold codeB; rw [Hg.out]; exact mk_append l [0, 0]), hb⟩
  · have E := Lib.hid (show keyCode s = ⟨#[]⟩ from if_neg h)
    have hd : decide ((s.size : Int) ≤ 12) = false := by simp; omega
    go_enter Tryd.func13, Tryd.ntmps13
    go_wp2
    go_ret
    exact ⟨ret_str E.out.symm, Below.refl _ _⟩
end Go.Proofs.YtgeepfoknhhcjaaDoor
