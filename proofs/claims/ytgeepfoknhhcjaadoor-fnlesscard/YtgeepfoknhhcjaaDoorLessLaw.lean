/-
  laws.FnLess returns true for every code. Condition: the variable internal/bytealg.MaxLen holds some int.
-/
import Derived.Test.YtgeepfoknhhcjaaDoorLessMath
import Derived.Test.YtgeepfoknhhcjaaDoorWQ
namespace Go.Proofs.YtgeepfoknhhcjaaDoor
open Go.RowKit

set_option maxRecDepth 100000 in
set_option maxHeartbeats 4000000 in
theorem walk_Less (a : Option Addr) (len cap : Nat) (xs : List Value) (w : World) (hI : IsCode w a len cap xs) (m : Int) (hm : w.cell? ⟨0, 0, none⟩ = some (.int .i64 m)) :
    Calls Tryd.prog 6 #[.slice a len cap] w fun e w' => e = .returned (.bool true) ∧ Below w.heap.size w w' := by
  have hI0 := hI.by_
  obtain ⟨hlc, hcm, _, _⟩ := hI
  go_enter Tryd.func6, Tryd.ntmps6
  go_wp2_with fail
  refine (big_any a len cap w (by omega)).mono ?_
  rintro e w0 ⟨rfl, rfl⟩
  by_cases hbig : 1048576 < len
  · have hd : decide (1048576 < len) = true := by simpa using hbig
    rw [hd]
    go_wp2_with fail
    go_ret
    exact ⟨rfl, Below.refl _ _⟩
  have hd : decide (1048576 < len) = false := by simpa using hbig
  rw [hd]
  go_wp2_with fail
  refine (drawLess_any a len cap w (by omega) hI0).mono ?_
  rintro e w1 ⟨r, s, hr, hs, rfl, B⟩
  replace hm := hold_max hm B
  have hb1 := bl2 w1 (.cells #[.string r.key, .int .i64 r.tag, .string r.val] 29) (.cells #[.string s.key, .int .i64 s.tag, .string s.val] 29)
  have X := (Vb.new w1 r 29).keep (bl1 _ (.cells #[.string s.key, .int .i64 s.tag, .string s.val] 29))
  have Y := Vb.new (w1.alloc (.cells #[.string r.key, .int .i64 r.tag, .string r.val] 29)) s 29
  have hz : (w1.alloc (.cells #[.string r.key, .int .i64 r.tag, .string r.val] 29)).heap.size = w1.heap.size + 1 := by simp
  rw [hz] at Y
  replace hm := hold_max hm hb1
  replace B := B.trans (hb1.mono B.size)
  obtain ⟨⟨hrk, _, hrv⟩, _, _⟩ := hr
  obtain ⟨⟨hsk, _, hsv⟩, _, _⟩ := hs
  have H3 := Lib.hid (less_three r s)
  have HE := Lib.hid (row_eql r s)
  obtain ⟨rk, rt, rv⟩ := r
  obtain ⟨sk, st, sv⟩ := s
  simp only at hrk hsk hrv hsv X Y
  have ⟨x0, x1, x2⟩ := X.cells
  have ⟨y0, y1, y2⟩ := Y.cells
  simp only at x0 x1 x2 y0 y1 y2
  clear hI0 hd hb1 hz
  go_wp2_with fail
  generalize (w1.alloc (.cells #[.string rk, .int .i64 rt, .string rv] 29)).alloc (.cells #[.string sk, .int .i64 st, .string sv] 29) = w2 at *
  generalize w1.heap.size = A at *
  refine (implLess_any rk rv rt sk sv st _ hrk hrv hsk hsv).mono ?_
  rintro e w3 ⟨rfl, hb⟩
  replace hm := hold_max hm hb
  replace B := B.trans (hb.mono B.size)
  replace X := X.keep hb
  replace Y := Y.keep hb
  clear hb x0 x1 x2 y0 y1 y2
  have ⟨x0, x1, x2⟩ := X.cells
  have ⟨y0, y1, y2⟩ := Y.cells
  simp only at x0 x1 x2 y0 y1 y2
  go_wp2_with fail
  refine (specLess_any rk rv rt sk sv st _ hrk hrv hsk hsv).mono ?_
  rintro e w4 ⟨rfl, hb⟩
  replace hm := hold_max hm hb
  replace B := B.trans (hb.mono B.size)
  replace X := X.keep hb
  replace Y := Y.keep hb
  clear hb x0 x1 x2 y0 y1 y2
  have ⟨x0, x1, x2⟩ := X.cells
  have ⟨y0, y1, y2⟩ := Y.cells
  simp only at x0 x1 x2 y0 y1 y2
  cases ho : okB rk rt rv
  · have E := Lib.hid (show lessR rk rt rv sk st sv = false by unfold lessR; rw [ho]; rfl)
    rw [E.out]
    go_wp2_with fail
    refine (specRowOk_b rk rv rt false _ hrk hrv ho).mono ?_
    rintro e w5 ⟨rfl, hb⟩
    replace B := B.trans (hb.mono B.size)
    replace X := X.keep hb
    replace Y := Y.keep hb
    clear hb x0 x1 x2 y0 y1 y2
    have ⟨x0, x1, x2⟩ := X.cells
    have ⟨y0, y1, y2⟩ := Y.cells
    simp only at x0 x1 x2 y0 y1 y2
    go_wp2_with fail
    refine (specLess_any rk rv rt sk sv st _ hrk hrv hsk hsv).mono ?_
    rw [E.out]
    rintro e w6 ⟨rfl, hb⟩
    replace B := B.trans (hb.mono B.size)
    go_wp2_with fail
    go_ret
    exact ⟨rfl, B⟩
  generalize hl : lessR rk rt rv sk st sv = l at *
  go_wp2_with fail
  refine (specRowOk_b rk rv rt true _ hrk hrv ho).mono ?_
  rintro e w5 ⟨rfl, hb⟩
  replace hm := hold_max hm hb
  replace B := B.trans (hb.mono B.size)
  replace X := X.keep hb
  replace Y := Y.keep hb
  clear hb x0 x1 x2 y0 y1 y2
  have ⟨x0, x1, x2⟩ := X.cells
  have ⟨y0, y1, y2⟩ := Y.cells
  simp only at x0 x1 x2 y0 y1 y2
  cases ho2 : okB sk st sv
  · have E := Lib.hid (show lessR rk rt rv sk st sv = false by unfold lessR; rw [ho2, Bool.and_false]; rfl)
    obtain rfl : l = false := by rw [← hl, E.out]
    go_wp2_with fail
    refine (specRowOk_b sk sv st false _ hsk hsv ho2).mono ?_
    rintro e w6 ⟨rfl, hb⟩
    replace B := B.trans (hb.mono B.size)
    replace X := X.keep hb
    replace Y := Y.keep hb
    clear hb x0 x1 x2 y0 y1 y2
    have ⟨x0, x1, x2⟩ := X.cells
    have ⟨y0, y1, y2⟩ := Y.cells
    simp only at x0 x1 x2 y0 y1 y2
    go_wp2_with fail
    refine (specLess_any rk rv rt sk sv st _ hrk hrv hsk hsv).mono ?_
    rw [E.out]
    rintro e w7 ⟨rfl, hb⟩
    replace B := B.trans (hb.mono B.size)
    go_wp2_with fail
    go_ret
    exact ⟨rfl, B⟩
  go_wp2_with fail
  refine (specRowOk_b sk sv st true _ hsk hsv ho2).mono ?_
  rintro e w6 ⟨rfl, hb⟩
  replace hm := hold_max hm hb
  replace B := B.trans (hb.mono B.size)
  replace X := X.keep hb
  replace Y := Y.keep hb
  clear hb x0 x1 x2 y0 y1 y2
  have ⟨x0, x1, x2⟩ := X.cells
  have ⟨y0, y1, y2⟩ := Y.cells
  simp only at x0 x1 x2 y0 y1 y2
  have g0 := fun d os => cell_regrown x0 d os
  have g1 := fun d os => cell_regrown x1 d os
  have g2 := fun d os => cell_regrown x2 d os
  have f0 := fun d os => cell_regrown y0 d os
  have f1 := fun d os => cell_regrown y1 d os
  have f2 := fun d os => cell_regrown y2 d os
  have hl1 : lessB rk rt rv sk st sv = l := by rw [← hl]; unfold lessR; rw [ho, ho2]; rfl
  have CA := Lib.hid (fun d os => Calls.regrown_of (w := w6) (d := d) (os := os) (implRowBytes_any rk rv rt m _ hrk hrv (cell_regrown hm d os)))
  have CB := Lib.hid (fun d os => Calls.regrown_of (w := w6) (d := d) (os := os) (implRowBytes_any sk sv st m _ hsk hsv (cell_regrown hm d os)))
  have CL := Lib.hid (fun d os => Calls.regrown_of (w := w6) (d := d) (os := os) (implLess_any sk sv st rk rv rt _ hsk hsv hrk hrv))
  have e1 : rowBytes rk rt rv = rowB rk rt rv := if_pos ho
  have e2 : rowBytes sk st sv = rowB sk st sv := if_pos ho2
  have e3 : lessR sk st sv rk rt rv = lessB sk st sv rk rt rv := by unfold lessR; rw [ho, ho2]; rfl
  rw [e1] at CA
  rw [e2] at CB
  rw [e3] at CL
  have e4 := rowB_less ho ho2
  rw [hl1] at e4
  have h3 : (l = true ∧ lessB sk st sv rk rt rv = false ∧ (RowV.mk rk rt rv).same ⟨sk, st, sv⟩ = false) ∨ (l = false ∧ lessB sk st sv rk rt rv = true ∧ (RowV.mk rk rt rv).same ⟨sk, st, sv⟩ = false) ∨ (l = false ∧ lessB sk st sv rk rt rv = false ∧ (RowV.mk rk rt rv).same ⟨sk, st, sv⟩ = true) := by
    rw [← hl1]; exact H3.out
  have HE2 := HE.out
  clear H3 HE e1 e2 e3 hl hl1 ho ho2 hrk hrv hsk hsv x0 x1 x2 y0 y1 y2 X Y hm
  generalize rowB rk rt rv = p at *
  generalize rowB sk st sv = q at *
  generalize lessB sk st sv rk rt rv = y at *
  generalize (RowV.mk rk rt rv).same ⟨sk, st, sv⟩ = z at *
  rcases h3 with ⟨rfl, rfl, rfl⟩ | ⟨rfl, rfl, rfl⟩ | ⟨rfl, rfl, rfl⟩
  all_goals
    go_wp2_with fail
    refine wp_region_wq (by kernel_rfl) (by kernel_rfl) ?_
    repeat (refine WQ.step (fun K hK => ?_); go_simp; first | (refine hK _ ?_; clear hK K) | (apply Exists.intro; refine ⟨fun _ => ?_, hK _ ?_⟩; (first | with_reducible exact CA.out _ _ | with_reducible exact CB.out _ _ | with_reducible exact CL.out _ _); clear hK K))
    refine WQ.nil ?_
    intro _ hw'
    obtain ⟨⟨dq, osq⟩, hw''⟩ := hw'
    subst hw''
    go_wp2_with fail
    go_ret
    exact ⟨rfl, B.trans ((below_regrown w6 dq osq).mono B.size)⟩
end Go.Proofs.YtgeepfoknhhcjaaDoor
