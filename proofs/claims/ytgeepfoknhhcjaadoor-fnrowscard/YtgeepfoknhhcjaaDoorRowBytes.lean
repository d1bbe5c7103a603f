/-
  spec.RowBytes and impl.RowBytes by their contracts. Condition: the variable internal/bytealg.MaxLen holds some int.
-/
import Derived.Test.YtgeepfoknhhcjaaDoorL1Row
namespace Go.Proofs.YtgeepfoknhhcjaaDoor
open Go.RowKit

theorem okB_parts {k v : ByteArray} {t : Int} (h : okB k t v = true) : k.size ≤ 12 ∧ v.size ≤ 12 ∧ 0 ≤ t ∧ t ≤ 3 := by
  simp [okB] at h
  omega
theorem new_byte (W : World) (x : Value) (t : TypeId) : (W.alloc (.cells #[x] t)).drew.cell? ⟨W.heap.size, 0, none⟩ = some x := by simp [go_sem]
theorem rowS_new (k v : ByteArray) (t m : Int) (w : World) (hm : w.cell? ⟨0, 0, none⟩ = some (.int .i64 m)) : RowS w w.heap.size k t v m (w.alloc (.cells #[.string k, .int .i64 t, .string v] 29)) := by
  have l3 := World.block_lt_of_cell? w _ hm
  exact ⟨⟨by simp [go_sem], by simp [go_sem], by simp [go_sem], (((Below.refl w.heap.size w).alloc (Nat.le_refl _) _).cell l3).trans hm⟩, (Below.refl _ _).alloc (Nat.le_refl _) _⟩
theorem keyCode_S2 {w0 w : World} {g : Nat} {k v s : ByteArray} {t m : Int} {Q : Ending → World → Prop} (h : RowS w0 g k t v m w) (hs : s.size ≤ 12) (hQ : ∀ w', RowS w0 g k t v m w' → (∀ (a : Addr) (u : Value), w.cell? a = some u → w'.cell? a = some u) → Q (.returned (.string (codeB s))) w') : Calls Tryd.prog 13 #[.string s] w Q := by
  refine (implKeyCode_any s m w (by unfold maxLen; omega) h.1.2.2.2).mono ?_
  rintro e w' ⟨rfl, hb⟩
  have e : keyCode s = codeB s := by unfold keyCode; simp [hs]
  rw [e]
  exact hQ w' (h.below hb) (fun a u h => (hb.cell (World.block_lt_of_cell? w a h)).trans h)
theorem specRowBytes_any (k v : ByteArray) (t m : Int) (w : World) (hk : k.size ≤ maxLen) (hv : v.size ≤ maxLen) (hm : w.cell? ⟨0, 0, none⟩ = some (.int .i64 m)) :
    Calls Tryd.prog 25 #[.agg #[.string k, .int .i64 t, .string v]] w fun e w' => e = .returned (.string (rowBytes k t v)) ∧ Below w.heap.size w w' := by
  cases hq : okB k t v
  · have E := Lib.hid (show rowBytes k t v = ⟨#[]⟩ from if_neg (by rw [hq]; simp))
    have hq' := Lib.hid hq
    clear hq
    go_enter Tryd.func25, Tryd.ntmps25
    go_wp2_with fail
    refine (specRowOk_b k v t false _ hk hv hq'.out).mono ?_
    rintro e w1 ⟨rfl, hb1⟩
    go_wp2_with fail
    go_ret
    exact ⟨ret_str E.out.symm, ((rowS_new k v t m w hm).below hb1).2⟩
  obtain ⟨h1, h2, h3, h4⟩ := okB_parts hq
  have E := Lib.hid (show rowBytes k t v = rowB k t v from if_pos hq)
  have hq' := Lib.hid hq
  clear hq
  go_enter Tryd.func25, Tryd.ntmps25
  go_wp2_with fail
  refine (specRowOk_b k v t true _ hk hv hq'.out).mono ?_
  rintro e w1 ⟨rfl, hb1⟩
  obtain ⟨⟨c0, c1, c2, c3⟩, hB1⟩ := (rowS_new k v t m w hm).below hb1
  go_wp2_with fail
  refine (l1Row_any k v t m w1 h1 h2 h3 h4 c3).mono ?_
  rintro e w2 ⟨rfl, hb2⟩
  have hB2 := hB1.trans (hb2.mono hB1.size)
  go_wp2_with fail
  go_ret
  exact ⟨ret_str E.out.symm, hB2⟩
set_option maxRecDepth 100000 in
set_option maxHeartbeats 4000000 in
theorem implRowBytes_any (k v : ByteArray) (t m : Int) (w : World) (hk : k.size ≤ maxLen) (hv : v.size ≤ maxLen) (hm : w.cell? ⟨0, 0, none⟩ = some (.int .i64 m)) :
    Calls Tryd.prog 20 #[.agg #[.string k, .int .i64 t, .string v]] w fun e w' => e = .returned (.string (rowBytes k t v)) ∧ Below w.heap.size w w' := by
  cases hq : okB k t v
  · have E := Lib.hid (show rowBytes k t v = ⟨#[]⟩ from if_neg (by rw [hq]; simp))
    have hq' := Lib.hid hq
    clear hq
    go_enter Tryd.func20, Tryd.ntmps20
    go_wp2_with fail
    refine (implRowOk_b k v t false _ hk hv hq'.out).mono ?_
    rintro e w1 ⟨rfl, hb1⟩
    go_wp2_with fail
    go_ret
    exact ⟨ret_str E.out.symm, ((rowS_new k v t m w hm).below hb1).2⟩
  obtain ⟨h1, h2, h3, h4⟩ := okB_parts hq
  have E := Lib.hid (show rowBytes k t v = rowB k t v from if_pos hq)
  have hq' := Lib.hid hq
  clear hq
  go_enter Tryd.func20, Tryd.ntmps20
  go_wp2_with fail
  refine (implRowOk_b k v t true _ hk hv hq'.out).mono ?_
  rintro e w1 ⟨rfl, hb1⟩
  have hS1 := (rowS_new k v t m w hm).below hb1
  have hS2 : RowS w w.heap.size k t v m w1.drew := hS1.below (Below.refl _ _).drew
  have s1 := codeB_size k
  have s2 := codeB_size v
  have ht := tagB_wrap t
  clear hb1 hq'
  go_wp2_with fail
  go_region_held (fun w' => (w'.cell? ⟨w.heap.size, 0, none⟩ = some (.string k) ∧ w'.cell? ⟨w.heap.size, 1, none⟩ = some (.int .i64 t) ∧ w'.cell? ⟨w.heap.size, 2, none⟩ = some (.string v) ∧ w'.cell? ⟨0, 0, none⟩ = some (.int .i64 m)) ∧ Below w.heap.size w w') (first | assumption | exact hS2 | exact RowS.alloc_drew (by assumption) _ | exact RowS.alloc (by assumption) _)
    (first
      | (go_at_call 13; refine keyCode_S2 (w0 := w) (g := w.heap.size) (k := k) (v := v) (t := t) (m := m) (by assumption) (by assumption) ?_; intro w' hw' hfar; first | (have hbyte := hfar ⟨w1.heap.size, 0, none⟩ (.int .u8 (IntKind.u8.wrap t)) hbyte) | (have hbyte := hfar ⟨w1.heap.size, 0, none⟩ (.int .u8 (IntKind.u8.wrap t)) (new_byte w1 _ _)) | skip)
      | (rw [conv_byte1 _ _ (tagB t) (IntKind.u8.wrap t) ht (by first | assumption | (simp [go_sem]; done) | exact hfar _ _ (by simp [go_sem]))]))
  all_goals (go_wp2; go_ret; exact ⟨ret_str E.out.symm, And.right (by assumption)⟩)
end Go.Proofs.YtgeepfoknhhcjaaDoor
