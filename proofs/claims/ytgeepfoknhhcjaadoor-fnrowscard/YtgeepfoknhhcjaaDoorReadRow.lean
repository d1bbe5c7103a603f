/-
  impl.ReadRow and spec.ReadRow by their contracts. Condition: the text has at most 1099511627776 bytes.
-/
import Derived.Test.YtgeepfoknhhcjaaDoorRowRead
import Derived.Test.YtgeepfoknhhcjaaDoorRowOk
namespace Go.Proofs.YtgeepfoknhhcjaaDoor
open Go.RowKit

theorem rk_shift (d : Nat) : ∀ (n : Nat) (l acc : List UInt8) (i : Nat), l.length ≤ n → rk l acc (i + d) = (rk l acc i).map fun x => (x.1, x.2 + d)
  | n, [], acc, i, _ => by rw [rk_nil, rk_nil]; rfl
  | 0, _ :: _, _, _, hn => by simp at hn
  | n + 1, c :: l, acc, i, hn => by
    simp only [List.length_cons] at hn
    by_cases hc : c = 0
    · subst hc
      match l, hn with
      | [], _ => rw [rk_cut, rk_cut]; rfl
      | m :: l', hn =>
        simp only [List.length_cons] at hn
        by_cases h0 : m = 0
        · subst h0
          rw [rk_end, rk_end]
          simp only [Option.map_some]
          rw [show i + d + 2 = i + 2 + d by omega]
        · by_cases h1 : m = 255
          · subst h1
            by_cases hl : acc.length < 12
            · rw [rk_mark _ _ _ hl, rk_mark _ _ _ hl, show i + d + 2 = (i + 2) + d by omega]
              exact rk_shift d n l' _ _ (by omega)
            · rw [rk_mark_full _ _ _ hl, rk_mark_full _ _ _ hl]; rfl
          · rw [rk_bad _ _ _ h0 h1, rk_bad _ _ _ h0 h1]; rfl
    · by_cases hl : acc.length < 12
      · rw [rk_plain _ _ _ hc hl, rk_plain _ _ _ hc hl, show i + d + 1 = (i + 1) + d by omega]
        exact rk_shift d n l _ _ (by omega)
      · rw [rk_full _ _ _ hc hl, rk_full _ _ _ hc hl]; rfl
theorem extract_drop (s : ByteArray) (j : Nat) : (s.extract j s.size).data.toList = s.data.toList.drop j := by
  rw [ByteArray.data_extract, Array.toList_extract, List.extract_eq_take_drop]
  apply List.take_of_length_le
  simp
theorem rkAt_sub (s : ByteArray) (j : Nat) : rkAt s j [] = (rkAt (s.extract j s.size) 0 []).map fun x => (x.1, x.2 + j) := by
  unfold rkAt
  rw [extract_drop, List.drop_zero]
  have := rk_shift j _ (s.data.toList.drop j) [] 0 (Nat.le_refl _)
  rw [Nat.zero_add] at this
  exact this
theorem rowRes_form (s : ByteArray) : ∃ (a : ByteArray) (t : Int) (v : ByteArray) (b : Int) (c : Bool), rowRes s = .tuple #[.agg #[.string a, .int .i64 t, .string v], .int .i64 b, .bool c] := by
  unfold rowRes; split <;> exact ⟨_, _, _, _, _, rfl⟩
theorem implReadRow_any (s : ByteArray) (w : World) (hs : s.size ≤ 1099511627776) :
    Calls Tryd.prog 23 #[.string s] w fun e w' => e = .returned (rowRes s) ∧ Below w.heap.size w w' := by
  obtain ⟨a, t, v, b, c, hx⟩ := rowRes_form s
  have E := Lib.hid hx
  clear hx
  have bA := Bk.new w #[.string ⟨#[]⟩, .int .i64 0, .string ⟨#[]⟩] 29
  go_enter Tryd.func23, Tryd.ntmps23
  go_wp2_with fail
  refine (readingR_any s _ hs).mono ?_
  rintro e w1 ⟨rfl, hb⟩
  rw [E.out]
  have b1 := bA.below hb
  have B1 := ((Below.refl w.heap.size w).alloc (Nat.le_refl _) (.cells #[.string ⟨#[]⟩, .int .i64 0, .string ⟨#[]⟩] 29)).trans (hb.mono (by simp))
  have e0 := b1.cell 0
  have e1 := b1.cell 1
  have e2 := b1.cell 2
  have f0 := b1.frozen 0
  have f1 := b1.frozen 1
  have f2 := b1.frozen 2
  simp at e0 e1 e2
  clear hb bA
  go_wp2_with fail
  have bS := ((b1.set_ 0 (.string a)).set_ 1 (.int .i64 t)).set_ 2 (.string v)
  have BS := ((B1.setCell (p := ⟨w.heap.size, 0, none⟩) (Nat.le_refl _) (.string a)).setCell (p := ⟨w.heap.size, 1, none⟩) (Nat.le_refl _) (.int .i64 t)).setCell (p := ⟨w.heap.size, 2, none⟩) (Nat.le_refl _) (.string v)
  clear e0 e1 e2 f0 f1 f2 b1 B1
  generalize ((w1.setCell ⟨w.heap.size, 0, none⟩ (.string a)).setCell ⟨w.heap.size, 1, none⟩ (.int .i64 t)).setCell ⟨w.heap.size, 2, none⟩ (.string v) = W at *
  have e0 := bS.cell 0
  have e1 := bS.cell 1
  have e2 := bS.cell 2
  simp at e0 e1 e2
  exact bodyPost_ret (v := .tuple #[.agg #[.string a, .int .i64 t, .string v], .int .i64 b, .bool c]) (by simp [results, Tryd.results23, go_sem, e0, e1, e2]) rfl ⟨ret_val E.out.symm, BS⟩
set_option maxRecDepth 100000 in
set_option maxHeartbeats 2000000 in
theorem specReadRow_any (s : ByteArray) (w : World) (hs : s.size ≤ 1099511627776) :
    Calls Tryd.prog 24 #[.string s] w fun e w' => e = .returned (rowRes s) ∧ Below w.heap.size w w' := by
  cases hk : rkAt s 0 [] with
  | none =>
    have E := Lib.hid (rowRes_none (rrAt_a hk))
    have K := Lib.hid (keyRes_none hk)
    clear hk
    go_enter Tryd.func24, Tryd.ntmps24
    go_wp2_with fail
    refine (specReadKeyCode_any s _ hs).mono ?_
    rintro e w1 ⟨rfl, rfl⟩
    rw [K.out]
    go_wp2_with fail
    exact bodyPost_ret (v := .tuple #[.agg #[.string ⟨#[]⟩, .int .i64 0, .string ⟨#[]⟩], .int .i64 0, .bool false]) (by simp [results, Tryd.results24, go_sem]) rfl ⟨ret_val E.out.symm, bl1 _ _⟩
  | some x =>
    obtain ⟨key, j⟩ := x
    have hjb := rkAt_bd (Nat.zero_le _) hk
    have K := Lib.hid (keyRes_some hk)
    by_cases hlt : j < s.size
    case neg =>
      have E := Lib.hid (rowRes_none (rrAt_b hk hlt))
      have hde : ((j : Int) == (s.size : Int)) = true := by rw [beq_iff_eq]; omega
      clear hk
      go_enter Tryd.func24, Tryd.ntmps24
      go_wp2_with fail
      refine (specReadKeyCode_any s _ hs).mono ?_
      rintro e w1 ⟨rfl, rfl⟩
      rw [K.out]
      go_wp2_with fail
      exact bodyPost_ret (v := .tuple #[.agg #[.string ⟨#[]⟩, .int .i64 0, .string ⟨#[]⟩], .int .i64 0, .bool false]) (by simp [results, Tryd.results24, go_sem]) rfl ⟨ret_val E.out.symm, bl1 _ _⟩
    have hde : ((j : Int) == (s.size : Int)) = false := by rw [beq_eq_false_iff_ne]; omega
    have Hk := Lib.hid hk
    clear hk
    go_enter Tryd.func24, Tryd.ntmps24
    go_wp2_with fail
    refine (specReadKeyCode_any s _ hs).mono ?_
    rintro e w1 ⟨rfl, rfl⟩
    rw [K.out]
    go_wp2_with fail
    have hsub : (s.extract (j + 1) s.size).size ≤ 1099511627776 := by simp; omega
    have Hsub := Lib.hid (rkAt_sub s (j + 1))
    refine (specReadKeyCode_any _ _ hsub).mono ?_
    rintro e w1 ⟨rfl, rfl⟩
    have hc256 : (s[j].toNat : Int) < 256 := by have := s[j].toNat_lt; omega
    cases hv : rkAt (s.extract (j + 1) s.size) 0 [] with
    | none =>
      have V := Lib.hid (keyRes_none hv)
      have E := Lib.hid (rowRes_none (s := s) (by
        by_cases ht : s[j].toNat ≤ 3
        · exact rrAt_d Hk.out hlt ht (by rw [Hsub.out, hv]; rfl)
        · exact rrAt_c Hk.out hlt ht))
      clear hv
      rw [V.out]
      go_wp2_with fail
      exact bodyPost_ret (v := .tuple #[.agg #[.string ⟨#[]⟩, .int .i64 0, .string ⟨#[]⟩], .int .i64 0, .bool false]) (by simp [results, Tryd.results24, go_sem]) rfl ⟨ret_val E.out.symm, bl2 _ _ _⟩
    | some x =>
      obtain ⟨val, q⟩ := x
      have hvb := rkAt_bd (Nat.zero_le _) hv
      have V := Lib.hid (keyRes_some hv)
      have Hv := Lib.hid (show rkAt s (j + 1) [] = some (val, q + (j + 1)) by rw [Hsub.out, hv]; rfl)
      clear hv
      rw [V.out]
      have sk : (⟨key.toArray⟩ : ByteArray).size = key.length := by simp [ByteArray.size]
      have sv : (⟨val.toArray⟩ : ByteArray).size = val.length := by simp [ByteArray.size]
      have hsq : q ≤ s.size := by have := hvb.2.2; simp at this; omega
      by_cases ht : s[j].toNat ≤ 3
      · have ho := Lib.hid (show okB ⟨key.toArray⟩ (s[j].toNat : Int) ⟨val.toArray⟩ = true from decide_eq_true ⟨by rw [sk]; exact hjb.1, by rw [sv]; exact hvb.1, by omega, by omega⟩)
        have E := Lib.hid (rowRes_some (rrAt_e Hk.out hlt ht Hv.out))
        have mk : (⟨key.toArray⟩ : ByteArray).size ≤ maxLen := by unfold maxLen; rw [sk]; omega
        have mv : (⟨val.toArray⟩ : ByteArray).size ≤ maxLen := by unfold maxLen; rw [sv]; omega
        clear sk sv
        go_wp2_with fail
        refine (specRowOk_b _ _ _ true _ mk mv ho.out).mono ?_
        rintro e w2 ⟨rfl, hb2⟩
        have bR := ((Bk.new w #[.string ⟨#[]⟩, .int .i64 0, .string ⟨#[]⟩] 29).alloc (.cells #[.string ⟨key.toArray⟩, .int .i64 (s[j].toNat : Int), .string ⟨val.toArray⟩] 29)).below hb2
        have bL := (Bk.new (w.alloc (.cells #[.string ⟨#[]⟩, .int .i64 0, .string ⟨#[]⟩] 29)) #[.string ⟨key.toArray⟩, .int .i64 (s[j].toNat : Int), .string ⟨val.toArray⟩] 29).below hb2
        have B2 := (bl2 w _ _).trans (hb2.mono (by simp; omega))
        simp only [World.size_alloc] at bL
        have e0 := bR.cell 0
        have e1 := bR.cell 1
        have e2 := bR.cell 2
        have f0 := bR.frozen 0
        have f1 := bR.frozen 1
        have f2 := bR.frozen 2
        have l0 := bL.cell 0
        have l1 := bL.cell 1
        have l2 := bL.cell 2
        simp at e0 e1 e2 l0 l1 l2
        clear hb2
        go_wp2_with fail
        have bS := ((bR.set_ 0 (.string ⟨key.toArray⟩)).set_ 1 (.int .i64 (s[j].toNat : Int))).set_ 2 (.string ⟨val.toArray⟩)
        have BS := ((B2.setCell (p := ⟨w.heap.size, 0, none⟩) (Nat.le_refl _) (.string ⟨key.toArray⟩)).setCell (p := ⟨w.heap.size, 1, none⟩) (Nat.le_refl _) (.int .i64 (s[j].toNat : Int))).setCell (p := ⟨w.heap.size, 2, none⟩) (Nat.le_refl _) (.string ⟨val.toArray⟩)
        clear e0 e1 e2 f0 f1 f2 l0 l1 l2 bR bL B2
        generalize ((w2.setCell ⟨w.heap.size, 0, none⟩ (.string ⟨key.toArray⟩)).setCell ⟨w.heap.size, 1, none⟩ (.int .i64 (s[j].toNat : Int))).setCell ⟨w.heap.size, 2, none⟩ (.string ⟨val.toArray⟩) = W at *
        have e0 := bS.cell 0
        have e1 := bS.cell 1
        have e2 := bS.cell 2
        simp at e0 e1 e2
        exact bodyPost_ret (v := .tuple #[.agg #[.string ⟨key.toArray⟩, .int .i64 (s[j].toNat : Int), .string ⟨val.toArray⟩], .int .i64 ((j : Int) + 1 + q), .bool true]) (by simp [results, Tryd.results24, go_sem, e0, e1, e2]) rfl ⟨ret_val (by rw [E.out]; simp; omega), BS⟩
      · have ho := Lib.hid (show okB ⟨key.toArray⟩ (s[j].toNat : Int) ⟨val.toArray⟩ = false from decide_eq_false (by omega))
        have E := Lib.hid (rowRes_none (rrAt_c Hk.out hlt ht))
        have mk : (⟨key.toArray⟩ : ByteArray).size ≤ maxLen := by unfold maxLen; rw [sk]; omega
        have mv : (⟨val.toArray⟩ : ByteArray).size ≤ maxLen := by unfold maxLen; rw [sv]; omega
        clear sk sv
        go_wp2_with fail
        refine (specRowOk_b _ _ _ false _ mk mv ho.out).mono ?_
        rintro e w2 ⟨rfl, hb2⟩
        have bR := ((Bk.new w #[.string ⟨#[]⟩, .int .i64 0, .string ⟨#[]⟩] 29).alloc (.cells #[.string ⟨key.toArray⟩, .int .i64 (s[j].toNat : Int), .string ⟨val.toArray⟩] 29)).below hb2
        have bL := (Bk.new (w.alloc (.cells #[.string ⟨#[]⟩, .int .i64 0, .string ⟨#[]⟩] 29)) #[.string ⟨key.toArray⟩, .int .i64 (s[j].toNat : Int), .string ⟨val.toArray⟩] 29).below hb2
        have B2 := (bl2 w _ _).trans (hb2.mono (by simp; omega))
        simp only [World.size_alloc] at bL
        have e0 := bR.cell 0
        have e1 := bR.cell 1
        have e2 := bR.cell 2
        have f0 := bR.frozen 0
        have f1 := bR.frozen 1
        have f2 := bR.frozen 2
        have l0 := bL.cell 0
        have l1 := bL.cell 1
        have l2 := bL.cell 2
        simp at e0 e1 e2 l0 l1 l2
        clear hb2
        go_wp2_with fail
        have bS := ((bR.set_ 0 (.string ⟨#[]⟩)).set_ 1 (.int .i64 0)).set_ 2 (.string ⟨#[]⟩)
        have BS := ((B2.setCell (p := ⟨w.heap.size, 0, none⟩) (Nat.le_refl _) (.string ⟨#[]⟩)).setCell (p := ⟨w.heap.size, 1, none⟩) (Nat.le_refl _) (.int .i64 0)).setCell (p := ⟨w.heap.size, 2, none⟩) (Nat.le_refl _) (.string ⟨#[]⟩)
        clear e0 e1 e2 f0 f1 f2 l0 l1 l2 bR bL B2
        generalize ((w2.setCell ⟨w.heap.size, 0, none⟩ (.string ⟨#[]⟩)).setCell ⟨w.heap.size, 1, none⟩ (.int .i64 0)).setCell ⟨w.heap.size, 2, none⟩ (.string ⟨#[]⟩) = W at *
        have e0 := bS.cell 0
        have e1 := bS.cell 1
        have e2 := bS.cell 2
        simp at e0 e1 e2
        exact bodyPost_ret (v := .tuple #[.agg #[.string ⟨#[]⟩, .int .i64 0, .string ⟨#[]⟩], .int .i64 0, .bool false]) (by simp [results, Tryd.results24, go_sem, e0, e1, e2]) rfl ⟨ret_val E.out.symm, BS⟩
end Go.Proofs.YtgeepfoknhhcjaaDoor
