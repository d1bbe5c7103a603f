/-
  laws.FnKeys returns true for every code. Condition: the variable internal/bytealg.MaxLen holds some int.
-/
import Derived.Test.YtgeepfoknhhcjaaDoorDrawKeys
import Derived.Test.YtgeepfoknhhcjaaDoorReadStr
import Derived.Test.YtgeepfoknhhcjaaDoorWQ
namespace Go.Proofs.YtgeepfoknhhcjaaDoor
open Go.RowKit

theorem read_said {s : ByteArray} {x : List UInt8} {j : Nat} (h : rkAt s 0 [] = some (x, j)) : (⟨x.toArray⟩ : ByteArray).size ≤ 12 ∧ s.extract 0 j = codeB ⟨x.toArray⟩ ∧ j ≤ s.size := by
  unfold rkAt at h
  rw [List.drop_zero] at h
  obtain ⟨k, u, e1, e2, e3, e4⟩ := rk_said _ _ _ _ _ _ (Nat.le_refl _) (by simp) h
  rw [List.nil_append] at e1
  subst e1
  have hj : j = (escs x ++ [0, 0]).length := by rw [e4]; simp
  have hl : s.data.toList = (escs x ++ [0, 0]) ++ u := by rw [e3]; simp
  refine ⟨by simpa [ByteArray.size] using e2, ?_, ?_⟩
  · apply bytes_ext
    rw [ByteArray.data_extract, Array.toList_extract, codeB_list, hl, hj]
    show List.take (_ - 0) (List.drop 0 _) = _
    rw [List.drop_zero, Nat.sub_zero, List.take_left]
  · rw [← data_toList_size, hl, hj]; simp
theorem read_code {k t : ByteArray} (h : k.size ≤ 12) : rkAt (codeB k ++ t) 0 [] = some (k.data.toList, (codeB k).size) := by
  unfold rkAt
  rw [List.drop_zero, ByteArray.data_append, Array.toList_append, codeB_list, List.append_assoc]
  show rk (escs k.data.toList ++ 0 :: 0 :: t.data.toList) [] 0 = _
  rw [rk_code _ _ _ _ (by rw [data_toList_size]; simpa using h), codeB_len]
  simp
theorem codeB_empty (s : ByteArray) : (codeB s).toList.isEmpty = false := by
  rw [ByteArray.toList_eq, codeB_list]
  simp
set_option maxRecDepth 100000 in
set_option maxHeartbeats 4000000 in
theorem walk_Keys (a : Option Addr) (len cap : Nat) (xs : List Value) (w : World) (hI : IsCode w a len cap xs) (m : Int) (hm : w.cell? ⟨0, 0, none⟩ = some (.int .i64 m)) :
    Calls Tryd.prog 3 #[.slice a len cap] w fun e w' => e = .returned (.bool true) ∧ Below w.heap.size w w' := by
  have hI0 := hI.by_
  obtain ⟨hlc, hcm, _, _⟩ := hI
  go_enter Tryd.func3, Tryd.ntmps3
  go_wp2_with fail
  refine (big_any a len cap w (by omega)).mono ?_
  rintro e w0 ⟨rfl, rfl⟩
  by_cases hbig : 1048576 < len
  · have hd : decide (1048576 < len) = true := by simpa using hbig
    rw [hd]
    go_wp2_with fail
    go_ret
    exact ⟨rfl, Below.refl _ _⟩
  have hd : decide (1048576 < len) = false := by simpa using hbig
  rw [hd]
  go_wp2_with fail
  refine (drawKeyCode_any a len cap w (by omega) hI0).mono ?_
  rintro e w1 ⟨k, hk, rfl, B⟩
  replace hm := hold_max hm B
  replace hI0 := hI0.far B
  have hkm : k.size ≤ maxLen := by unfold maxLen; omega
  go_wp2_with fail
  refine (implKeyCode_any k m _ hkm hm).mono ?_
  rintro e w2 ⟨rfl, hb⟩
  replace hm := hold_max hm hb
  replace hI0 := hI0.far hb
  replace B := B.trans (hb.mono B.size)
  clear hb
  go_wp2_with fail
  refine (drawReadKeyCode_any a len cap _ (by omega) hI0).mono ?_
  rintro e w3 ⟨t, ht, rfl, hb⟩
  replace hm := hold_max hm hb
  replace B := B.trans (hb.mono B.size)
  clear hb hI0
  go_wp2_with fail
  refine (implReadKeyCode_any t _ (by omega)).mono ?_
  rintro e w4 ⟨rfl, hb⟩
  replace hm := hold_max hm hb
  replace B := B.trans (hb.mono B.size)
  clear hb
  have CS4 := specReadKeyCode_any t w4 (by omega)
  have CK := Lib.hid (fun d os => Calls.regrown_of (w := w4) (d := d) (os := os) ((specKeyCode_any k _ hkm).mono fun _ _ ⟨he, hw⟩ => ⟨he, hw ▸ Below.refl _ _⟩))
  have hkb := keyCode_bd k
  have HK : Hid (∀ w5 : World, Below w4.heap.size w4 w5 → k.size ≤ 12 → Calls Tryd.prog 15 #[.string (keyCode k ++ t)] w5 fun e w' => e = .returned (.tuple #[.string k, .int .i64 ((keyCode k).size : Int), .bool true]) ∧ Below w5.heap.size w5 w') := Lib.hid (fun w5 _ h12 => by
    have C := implReadKeyCode_any (keyCode k ++ t) w5 (by rw [ByteArray.size_append]; omega)
    rw [keyCode_code h12, keyRes_some (read_code h12)] at C
    rw [keyCode_code h12]
    exact C)
  have H12 : Hid (12 < k.size → keyCode k = ⟨#[]⟩) := Lib.hid (fun h => keyCode_empty (by omega))
  have HN : Hid (k.size ≤ 12 → (keyCode k).toList.isEmpty = false) := Lib.hid (fun h => by rw [keyCode_code h]; exact codeB_empty k)
  have hsz : ¬ 9223372036854775807 < (keyCode k).size + t.size := by omega
  generalize keyCode k = c at *
  cases hr : rkAt t 0 [] with
  | none =>
    rw [keyRes_none hr] at CS4 ⊢
    clear hr
    go_wp2_with fail
    refine CS4.mono ?_
    clear CS4
    rintro e w5 ⟨rfl, rfl⟩
    go_wp2_with fail
    refine wp_region_wq (by kernel_rfl) (by kernel_rfl) ?_
    repeat (refine WQ.step (fun K hK => ?_); go_simp; first | (refine hK _ ?_; clear hK K) | (apply Exists.intro; refine ⟨fun _ => ?_, hK _ ?_⟩; (first | with_reducible exact CK.out _ _); clear hK K))
    refine WQ.nil ?_
    intro _ hw'
    obtain ⟨⟨dq, osq⟩, hw''⟩ := hw'
    subst hw''
    have b5 := below_regrown w4 dq osq
    replace B := B.trans (b5.mono B.size)
    generalize Go.Sort.grow (redrawn w4 dq) osq = w5 at *
    by_cases h12 : k.size ≤ 12
    · have CR := HK.out w5 b5 h12
      have hne := HN.out h12
      clear HK HN H12
      go_wp2_with fail
      refine CR.mono ?_
      clear CR
      rintro e w6 ⟨rfl, hb⟩
      replace B := B.trans (hb.mono B.size)
      go_wp2_with fail
      go_ret
      exact ⟨rfl, B⟩
    · have e0 := H12.out (by omega)
      clear HK HN H12
      subst e0
      have d0 : decide ((12 : Int) < (k.size : Int)) = true := by simp; omega
      go_wp2_with fail
      go_ret
      exact ⟨rfl, B⟩
  | some xj =>
    obtain ⟨x, j⟩ := xj
    obtain ⟨hx12, hex, hj⟩ := read_said hr
    rw [keyRes_some hr] at CS4 ⊢
    clear hr
    have CX := Lib.hid (fun d os => Calls.regrown_of (w := w4) (d := d) (os := os) (implKeyCode_any ⟨x.toArray⟩ m _ (by unfold maxLen; omega) (cell_regrown hm d os)))
    rw [keyCode_code hx12, ← hex] at CX
    clear hex hx12
    generalize (⟨x.toArray⟩ : ByteArray) = y at *
    have j1 : (j : Int) ≤ (t.size : Int) := by omega
    have j2 : (0 : Int) ≤ (j : Int) := by omega
    go_wp2_with fail
    refine CS4.mono ?_
    clear CS4
    rintro e w5 ⟨rfl, rfl⟩
    go_wp2_with fail
    refine wp_region_wq (by kernel_rfl) (by kernel_rfl) ?_
    repeat (refine WQ.step (fun K hK => ?_); go_simp; first | (refine hK _ ?_; clear hK K) | (apply Exists.intro; refine ⟨fun _ => ?_, hK _ ?_⟩; (first | with_reducible exact CK.out _ _ | with_reducible exact CX.out _ _); clear hK K))
    refine WQ.nil ?_
    intro _ hw'
    obtain ⟨⟨dq, osq⟩, hw''⟩ := hw'
    subst hw''
    have b5 := below_regrown w4 dq osq
    replace B := B.trans (b5.mono B.size)
    generalize Go.Sort.grow (redrawn w4 dq) osq = w5 at *
    by_cases h12 : k.size ≤ 12
    · have CR := HK.out w5 b5 h12
      have hne := HN.out h12
      clear HK HN H12
      go_wp2_with fail
      refine CR.mono ?_
      clear CR
      rintro e w6 ⟨rfl, hb⟩
      replace B := B.trans (hb.mono B.size)
      go_wp2_with fail
      go_ret
      exact ⟨rfl, B⟩
    · have e0 := H12.out (by omega)
      clear HK HN H12
      subst e0
      have d0 : decide ((12 : Int) < (k.size : Int)) = true := by simp; omega
      go_wp2_with fail
      go_ret
      exact ⟨rfl, B⟩
end Go.Proofs.YtgeepfoknhhcjaaDoor
