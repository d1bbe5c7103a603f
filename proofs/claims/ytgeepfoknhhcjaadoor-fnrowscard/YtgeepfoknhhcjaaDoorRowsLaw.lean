/-
  laws.FnRows returns true for every code. Condition: the variable internal/bytealg.MaxLen holds some int.
-/
import Derived.Test.YtgeepfoknhhcjaaDoorRowsMath
import Derived.Test.YtgeepfoknhhcjaaDoorDrawReadRow
import Derived.Test.YtgeepfoknhhcjaaDoorDrawRB
import Derived.Test.YtgeepfoknhhcjaaDoorWQ
namespace Go.Proofs.YtgeepfoknhhcjaaDoor
open Go.RowKit

set_option maxRecDepth 100000 in
theorem row_neq (x : RowV) (w : World) : (binOp .neq 29 (.agg #[.string x.key, .int .i64 x.tag, .string x.val]) (.agg #[.string x.key, .int .i64 x.tag, .string x.val])).run Tryd.prog w = .ok (.bool false) w := by
  rw [run_neq_struct]
  have h := row_eql x x w
  rw [run_eql_struct] at h
  generalize (Op.equalIn 10000 29 (.agg #[.string x.key, .int .i64 x.tag, .string x.val]) (.agg #[.string x.key, .int .i64 x.tag, .string x.val])).run Tryd.prog w = r at *
  rw [(RowV.same_iff x x).2 rfl] at h
  cases r with
  | ok b w' =>
    simp only [Result.andThen] at h ⊢
    injection h with h1 h2
    injection h1 with h3
    subst h3 h2
    rfl
  | _ => simp [Result.andThen] at h
set_option maxRecDepth 100000 in
set_option maxHeartbeats 8000000 in
theorem walk_Rows (a : Option Addr) (len cap : Nat) (xs : List Value) (w : World) (hI : IsCode w a len cap xs) (m : Int) (hm : w.cell? ⟨0, 0, none⟩ = some (.int .i64 m)) :
    Calls Tryd.prog 5 #[.slice a len cap] w fun e w' => e = .returned (.bool true) ∧ Below w.heap.size w w' := by
  have hI0 := hI.by_
  obtain ⟨hlc, hcm, _, _⟩ := hI
  go_enter Tryd.func5, Tryd.ntmps5
  go_wp2_with fail
  refine (big_any a len cap w (by omega)).mono ?_
  rintro e w0 ⟨rfl, rfl⟩
  by_cases hbig : 1048576 < len
  · have hd : decide (1048576 < len) = true := by simpa using hbig
    rw [hd]
    go_wp2_with fail
    go_ret
    exact ⟨rfl, Below.refl _ _⟩
  have hd : decide (1048576 < len) = false := by simpa using hbig
  rw [hd]
  clear hd
  go_wp2_with fail
  refine (drawRowBytes_any a len cap w (by omega) hI0).mono ?_
  rintro e w1 ⟨r, hr, rfl, hb⟩
  have B := hb
  replace hm := hold_max hm hb
  replace hI0 := hI0.far hb
  clear hb
  have X := Vb.new w1 r 29
  have hb := bl1 w1 (.cells #[.string r.key, .int .i64 r.tag, .string r.val] 29)
  replace hm := hold_max hm hb
  replace B := B.trans (hb.mono B.size)
  replace hI0 := hI0.far hb
  clear hb
  have ⟨x0, x1, x2⟩ := X.cells
  go_wp2_with fail
  generalize w1.alloc (.cells #[.string r.key, .int .i64 r.tag, .string r.val] 29) = w2 at *
  generalize w1.heap.size = A1 at *
  refine (implRowBytes_any r.key r.val r.tag m _ hr.1.1 hr.1.2.2 hm).mono ?_
  rintro e w3 ⟨rfl, hb⟩
  replace hm := hold_max hm hb
  replace B := B.trans (hb.mono B.size)
  replace hI0 := hI0.far hb
  replace X := X.keep hb
  clear hb
  clear x0 x1 x2
  go_wp2_with fail
  refine (drawRowOk_any a len cap w3 (by omega) hI0).mono ?_
  rintro e w4 ⟨x, hx, rfl, hb⟩
  replace hm := hold_max hm hb
  replace B := B.trans (hb.mono B.size)
  replace hI0 := hI0.far hb
  replace X := X.keep hb
  clear hb
  have Y := Vb.new w4 x 29
  have hb := bl1 w4 (.cells #[.string x.key, .int .i64 x.tag, .string x.val] 29)
  replace hm := hold_max hm hb
  replace B := B.trans (hb.mono B.size)
  replace hI0 := hI0.far hb
  replace X := X.keep hb
  clear hb
  go_wp2_with fail
  generalize w4.alloc (.cells #[.string x.key, .int .i64 x.tag, .string x.val] 29) = w5 at *
  generalize w4.heap.size = A2 at *
  refine (drawReadRow_any a len cap w5 (by omega) hI0 m hm).mono ?_
  rintro e w6 ⟨t, ht, rfl, hb⟩
  replace hm := hold_max hm hb
  replace B := B.trans (hb.mono B.size)
  replace X := X.keep hb
  replace Y := Y.keep hb
  clear hb
  clear hI0
  have CR6 := implReadRow_any t w6 (by omega)
  obtain ⟨y, j, b, hE, hy, hyb⟩ : ∃ (y : RowV) (j : Nat) (b : Bool), rowRes t = .tuple #[.agg #[.string y.key, .int .i64 y.tag, .string y.val], .int .i64 (j : Int), .bool b] ∧ (y.key.size ≤ maxLen ∧ y.val.size ≤ maxLen) ∧ (b = true → okB y.key y.tag y.val = true ∧ t.extract 0 j = rowB y.key y.tag y.val ∧ j ≤ t.size) := by
    cases hr : rrAt t 0 with
    | none => exact ⟨⟨⟨#[]⟩, 0, ⟨#[]⟩⟩, 0, false, rowRes_none hr, ⟨Nat.zero_le _, Nat.zero_le _⟩, fun h => by cases h⟩
    | some rj =>
      obtain ⟨y, j⟩ := rj
      obtain ⟨q1, q2, q3⟩ := row_said hr
      obtain ⟨z1, z2, _, _⟩ := okB_parts q1
      exact ⟨y, j, true, rowRes_some hr, ⟨by unfold maxLen; omega, by unfold maxLen; omega⟩, fun _ => ⟨q1, q2, q3⟩⟩
  have CS := fun w => specReadRow_any t w (by omega)
  rw [hE] at CR6
  simp only [hE] at CS
  go_wp2_with fail
  refine CR6.mono ?_
  rintro e w7 ⟨rfl, hb⟩
  clear CR6
  replace hm := hold_max hm hb
  replace B := B.trans (hb.mono B.size)
  replace X := X.keep hb
  replace Y := Y.keep hb
  clear hb
  have U := Vb.new w7 y 29
  have hb := bl1 w7 (.cells #[.string y.key, .int .i64 y.tag, .string y.val] 29)
  replace hm := hold_max hm hb
  replace B := B.trans (hb.mono B.size)
  replace X := X.keep hb
  replace Y := Y.keep hb
  clear hb
  go_wp2_with fail
  generalize w7.alloc (.cells #[.string y.key, .int .i64 y.tag, .string y.val] 29) = w8 at *
  generalize w7.heap.size = A3 at *
  refine (CS w8).mono ?_
  rintro e w9 ⟨rfl, hb⟩
  clear CS
  replace hm := hold_max hm hb
  replace B := B.trans (hb.mono B.size)
  replace X := X.keep hb
  replace Y := Y.keep hb
  replace U := U.keep hb
  clear hb
  have V := Vb.new w9 y 29
  have hb := bl1 w9 (.cells #[.string y.key, .int .i64 y.tag, .string y.val] 29)
  replace hm := hold_max hm hb
  replace B := B.trans (hb.mono B.size)
  replace X := X.keep hb
  replace Y := Y.keep hb
  replace U := U.keep hb
  clear hb
  go_wp2_with fail
  generalize w9.alloc (.cells #[.string y.key, .int .i64 y.tag, .string y.val] 29) = w10 at *
  generalize w9.heap.size = A4 at *
  have ⟨x0, x1, x2⟩ := X.cells
  replace x0 := fun d os => cell_regrown x0 d os
  replace x1 := fun d os => cell_regrown x1 d os
  replace x2 := fun d os => cell_regrown x2 d os
  have ⟨y0, y1, y2⟩ := Y.cells
  replace y0 := fun d os => cell_regrown y0 d os
  replace y1 := fun d os => cell_regrown y1 d os
  replace y2 := fun d os => cell_regrown y2 d os
  have ⟨u0, u1, u2⟩ := U.cells
  replace u0 := fun d os => cell_regrown u0 d os
  replace u1 := fun d os => cell_regrown u1 d os
  replace u2 := fun d os => cell_regrown u2 d os
  have ⟨v0, v1, v2⟩ := V.cells
  replace v0 := fun d os => cell_regrown v0 d os
  replace v1 := fun d os => cell_regrown v1 d os
  replace v2 := fun d os => cell_regrown v2 d os
  have HX := Lib.hid X
  have HB := Lib.hid B
  clear X Y U V B
  have C1 := Lib.hid (fun d os => Calls.regrown_of (w := w10) (d := d) (os := os) (specRowBytes_any r.key r.val r.tag m _ hr.1.1 hr.1.2.2 (cell_regrown hm d os)))
  have C2 := Lib.hid (fun d os => Calls.regrown_of (w := w10) (d := d) (os := os) (implRowOk_any x.key x.val x.tag _ hx.1.1 hx.1.2.2))
  have C3 := Lib.hid (fun d os => Calls.regrown_of (w := w10) (d := d) (os := os) (specRowOk_any x.key x.val x.tag _ hx.1.1 hx.1.2.2))
  have C4 := Lib.hid (fun d os => Calls.regrown_of (w := w10) (d := d) (os := os) (implRowBytes_any y.key y.val y.tag m _ hy.1 hy.2 (cell_regrown hm d os)))
  have C5 := Lib.hid (fun d os => Calls.regrown_of (w := w10) (d := d) (os := os) (implRowOk_any r.key r.val r.tag _ hr.1.1 hr.1.2.2))
  have hbd := rowBytes_bd r.key r.tag r.val
  have hq := Lib.hid (row_neq y)
  have HR : Hid (okB r.key r.tag r.val = true → ∀ w : World, Calls Tryd.prog 23 #[.string (rowBytes r.key r.tag r.val ++ t)] w fun e w' => e = .returned (.tuple #[.agg #[.string r.key, .int .i64 r.tag, .string r.val], .int .i64 ((rowBytes r.key r.tag r.val).size : Int), .bool true]) ∧ Below w.heap.size w w') := Lib.hid (fun h w => by
    have C := implReadRow_any (rowBytes r.key r.tag r.val ++ t) w (by rw [ByteArray.size_append]; omega)
    have e : rowBytes r.key r.tag r.val = rowB r.key r.tag r.val := if_pos h
    rw [e] at C ⊢
    rw [rowRes_some (row_code h)] at C
    exact C)
  have HN : Hid ((rowBytes r.key r.tag r.val).toList.isEmpty = !okB r.key r.tag r.val) := Lib.hid (by
    cases h : okB r.key r.tag r.val
    · rw [show rowBytes r.key r.tag r.val = ⟨#[]⟩ from if_neg (by rw [h]; exact Bool.false_ne_true), ByteArray.toList_eq]; rfl
    · rw [show rowBytes r.key r.tag r.val = rowB r.key r.tag r.val from if_pos h, rowB_ne]; rfl)
  clear hE
  have HQ := hq.out
  have HE : ∀ w : World, (binOp .eql 29 (.agg #[.string r.key, .int .i64 r.tag, .string r.val]) (.agg #[.string r.key, .int .i64 r.tag, .string r.val])).run Tryd.prog w = .ok (.bool true) w := fun w => by rw [row_eql, (RowV.same_iff r r).2 rfl]
  have hsz : ¬ 9223372036854775807 < (rowBytes r.key r.tag r.val).size + t.size := by omega
  clear hq
  generalize okB x.key x.tag x.val = p at *
  generalize rowBytes r.key r.tag r.val = c at *
  generalize okB r.key r.tag r.val = o at *
  clear hr hx
  have j0 : b = true → (j : Int) ≤ (t.size : Int) := fun h => by have := (hyb h).2.2; omega
  have j2 : (0 : Int) ≤ (j : Int) := by omega
  have hE4 : b = true → rowBytes y.key y.tag y.val = t.extract 0 j := fun h => (if_pos (hyb h).1).trans (hyb h).2.1.symm
  clear hyb hy hm
  cases b
  · clear j0 hE4
    cases o
    · have hne := HN.out
      clear HN HR
      simp only [Bool.not_false] at hne
      refine wp_region_wq (by kernel_rfl) (by kernel_rfl) ?_
      repeat (refine WQ.step (fun K hK => ?_); go_simp; first | (refine hK _ ?_; clear hK K) | (apply Exists.intro; refine ⟨fun _ => ?_, hK _ ?_⟩; (first | with_reducible exact C1.out _ _ | with_reducible exact C2.out _ _ | with_reducible exact C3.out _ _ | with_reducible exact C4.out _ _ | with_reducible exact C5.out _ _); clear hK K))
      refine WQ.nil ?_
      intro _ hw'
      obtain ⟨⟨dq, osq⟩, hw''⟩ := hw'
      subst hw''
      have b5 := below_regrown w10 dq osq
      have B := HB.out.trans (b5.mono HB.out.size)
      have X := HX.out.keep b5
      clear HX HB x0 x1 x2 y0 y1 y2 u0 u1 u2 v0 v1 v2 C1 C2 C3 C4 C5 HQ
      generalize Go.Sort.grow (redrawn w10 dq) osq = w11 at *
      go_wp2_with fail
      go_ret
      exact ⟨rfl, B⟩
    · have hne := HN.out
      clear HN
      simp only [Bool.not_true] at hne
      refine wp_region_wq (by kernel_rfl) (by kernel_rfl) ?_
      repeat (refine WQ.step (fun K hK => ?_); go_simp; first | (refine hK _ ?_; clear hK K) | (apply Exists.intro; refine ⟨fun _ => ?_, hK _ ?_⟩; (first | with_reducible exact C1.out _ _ | with_reducible exact C2.out _ _ | with_reducible exact C3.out _ _ | with_reducible exact C4.out _ _ | with_reducible exact C5.out _ _); clear hK K))
      refine WQ.nil ?_
      intro _ hw'
      obtain ⟨⟨dq, osq⟩, hw''⟩ := hw'
      subst hw''
      have b5 := below_regrown w10 dq osq
      have B := HB.out.trans (b5.mono HB.out.size)
      have X := HX.out.keep b5
      clear HX HB x0 x1 x2 y0 y1 y2 u0 u1 u2 v0 v1 v2 C1 C2 C3 C4 C5 HQ
      generalize Go.Sort.grow (redrawn w10 dq) osq = w11 at *
      have CR := HR.out rfl w11
      clear HR
      go_wp2_with fail
      refine CR.mono ?_
      clear CR
      rintro e w12 ⟨rfl, hb⟩
      replace B := B.trans (hb.mono B.size)
      replace X := X.keep hb
      clear hb
      have Z := Vb.new w12 r 29
      have hb := bl1 w12 (.cells #[.string r.key, .int .i64 r.tag, .string r.val] 29)
      replace X := X.keep hb
      replace B := B.trans (hb.mono B.size)
      have ⟨x0, x1, x2⟩ := X.cells
      have ⟨z0, z1, z2⟩ := Z.cells
      clear hb
      go_wp2_with fail
      go_ret
      exact ⟨rfl, B⟩
  · have j1 := j0 rfl
    rw [hE4 rfl] at C4
    clear j0 hE4
    cases o
    · have hne := HN.out
      clear HN HR
      simp only [Bool.not_false] at hne
      refine wp_region_wq (by kernel_rfl) (by kernel_rfl) ?_
      repeat (refine WQ.step (fun K hK => ?_); go_simp; first | (refine hK _ ?_; clear hK K) | (apply Exists.intro; refine ⟨fun _ => ?_, hK _ ?_⟩; (first | with_reducible exact C1.out _ _ | with_reducible exact C2.out _ _ | with_reducible exact C3.out _ _ | with_reducible exact C4.out _ _ | with_reducible exact C5.out _ _); clear hK K))
      refine WQ.nil ?_
      intro _ hw'
      obtain ⟨⟨dq, osq⟩, hw''⟩ := hw'
      subst hw''
      have b5 := below_regrown w10 dq osq
      have B := HB.out.trans (b5.mono HB.out.size)
      have X := HX.out.keep b5
      clear HX HB x0 x1 x2 y0 y1 y2 u0 u1 u2 v0 v1 v2 C1 C2 C3 C4 C5 HQ
      generalize Go.Sort.grow (redrawn w10 dq) osq = w11 at *
      go_wp2_with fail
      go_ret
      exact ⟨rfl, B⟩
    · have hne := HN.out
      clear HN
      simp only [Bool.not_true] at hne
      refine wp_region_wq (by kernel_rfl) (by kernel_rfl) ?_
      repeat (refine WQ.step (fun K hK => ?_); go_simp; first | (refine hK _ ?_; clear hK K) | (apply Exists.intro; refine ⟨fun _ => ?_, hK _ ?_⟩; (first | with_reducible exact C1.out _ _ | with_reducible exact C2.out _ _ | with_reducible exact C3.out _ _ | with_reducible exact C4.out _ _ | with_reducible exact C5.out _ _); clear hK K))
      refine WQ.nil ?_
      intro _ hw'
      obtain ⟨⟨dq, osq⟩, hw''⟩ := hw'
      subst hw''
      have b5 := below_regrown w10 dq osq
      have B := HB.out.trans (b5.mono HB.out.size)
      have X := HX.out.keep b5
      clear HX HB x0 x1 x2 y0 y1 y2 u0 u1 u2 v0 v1 v2 C1 C2 C3 C4 C5 HQ
      generalize Go.Sort.grow (redrawn w10 dq) osq = w11 at *
      have CR := HR.out rfl w11
      clear HR
      go_wp2_with fail
      refine CR.mono ?_
      clear CR
      rintro e w12 ⟨rfl, hb⟩
      replace B := B.trans (hb.mono B.size)
      replace X := X.keep hb
      clear hb
      have Z := Vb.new w12 r 29
      have hb := bl1 w12 (.cells #[.string r.key, .int .i64 r.tag, .string r.val] 29)
      replace X := X.keep hb
      replace B := B.trans (hb.mono B.size)
      have ⟨x0, x1, x2⟩ := X.cells
      have ⟨z0, z1, z2⟩ := Z.cells
      clear hb
      go_wp2_with fail
      go_ret
      exact ⟨rfl, B⟩
end Go.Proofs.YtgeepfoknhhcjaaDoor
