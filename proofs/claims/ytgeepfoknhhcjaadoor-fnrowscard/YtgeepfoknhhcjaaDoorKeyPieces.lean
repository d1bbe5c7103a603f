/-
  laws.FnKeyPieces returns true for every code. Condition: the variable internal/bytealg.MaxLen holds some int.
-/
import Derived.Test.YtgeepfoknhhcjaaDoorCodeMath
import Derived.Test.YtgeepfoknhhcjaaDoorDrawLess
import Derived.Test.YtgeepfoknhhcjaaDoorSame
import Derived.Test.YtgeepfoknhhcjaaDoorOpenBytes
import Derived.Lib.QuietBelow
namespace Go.Proofs.YtgeepfoknhhcjaaDoor
open Go.RowKit

theorem keyCode_bd (s : ByteArray) : (keyCode s).size ≤ 26 := by
  unfold keyCode
  split
  · have := codeB_size s; omega
  · decide
theorem hold_max {w w' : World} {m : Int} (hm : w.cell? ⟨0, 0, none⟩ = some (.int .i64 m)) (hb : Below w.heap.size w w') : w'.cell? ⟨0, 0, none⟩ = some (.int .i64 m) := (hb.cell (World.block_lt_of_cell? w _ hm)).trans hm
set_option maxRecDepth 100000 in
set_option maxHeartbeats 4000000 in
theorem walk_KeyPieces (a : Option Addr) (len cap : Nat) (xs : List Value) (w : World) (hI : IsCode w a len cap xs) (m : Int) (hm : w.cell? ⟨0, 0, none⟩ = some (.int .i64 m)) :
    Calls Tryd.prog 8 #[.slice a len cap] w fun e w' => e = .returned (.bool true) ∧ Below w.heap.size w w' := by
  have hI0 := hI.by_
  obtain ⟨hlc, hcm, _, _⟩ := hI
  go_enter Tryd.func8, Tryd.ntmps8
  go_wp2_with fail
  refine (big_any a len cap w (by omega)).mono ?_
  rintro e w0 ⟨rfl, rfl⟩
  by_cases hbig : 1048576 < len
  · have hd : decide (1048576 < len) = true := by simpa using hbig
    rw [hd]
    go_wp2_with fail
    go_ret
    exact ⟨rfl, Below.refl _ _⟩
  have hd : decide (1048576 < len) = false := by simpa using hbig
  rw [hd]
  go_wp2_with fail
  refine (drawLess_any a len cap w (by omega) hI0).mono ?_
  rintro e w1 ⟨r, s, hr, hs, rfl, B⟩
  replace hm := hold_max hm B
  have hb1 := bl2 w1 (.cells #[.string r.key, .int .i64 r.tag, .string r.val] 29) (.cells #[.string s.key, .int .i64 s.tag, .string s.val] 29)
  have X := (Vb.new w1 r 29).keep (bl1 _ (.cells #[.string s.key, .int .i64 s.tag, .string s.val] 29))
  have Y := Vb.new (w1.alloc (.cells #[.string r.key, .int .i64 r.tag, .string r.val] 29)) s 29
  have hz : (w1.alloc (.cells #[.string r.key, .int .i64 r.tag, .string r.val] 29)).heap.size = w1.heap.size + 1 := by simp
  rw [hz] at Y
  replace hm := hold_max hm hb1
  replace B := B.trans (hb1.mono B.size)
  obtain ⟨⟨hrk, _, _⟩, hr5, _⟩ := hr
  obtain ⟨⟨hsk, _, _⟩, hs5, _⟩ := hs
  obtain ⟨rk, rt, rv⟩ := r
  obtain ⟨sk, st, sv⟩ := s
  simp only at hrk hsk hr5 hs5 X Y
  have ⟨x0, _, _⟩ := X.cells
  simp only at x0
  clear hI0 hd hb1 hz
  go_wp2_with fail
  generalize (w1.alloc (.cells #[.string rk, .int .i64 rt, .string rv] 29)).alloc (.cells #[.string sk, .int .i64 st, .string sv] 29) = w2 at *
  generalize w1.heap.size = A at *
  refine (implKeyCode_any rk m _ hrk hm).mono ?_
  rintro e w3 ⟨rfl, hb⟩
  replace hm := hold_max hm hb
  replace B := B.trans (hb.mono B.size)
  replace X := X.keep hb
  replace Y := Y.keep hb
  clear hb x0
  have ⟨y0, _, _⟩ := Y.cells
  simp only at y0
  go_wp2_with fail
  refine (implKeyCode_any sk m _ hsk hm).mono ?_
  rintro e w4 ⟨rfl, hb⟩
  replace hm := hold_max hm hb
  replace B := B.trans (hb.mono B.size)
  replace X := X.keep hb
  replace Y := Y.keep hb
  clear hb y0
  have ⟨x0, _, _⟩ := X.cells
  have ⟨y0, _, _⟩ := Y.cells
  simp only at x0 y0
  have CR := Lib.hid (fun w => specKeyCode_any rk w hrk)
  have CS := Lib.hid (fun w => specKeyCode_any sk w hsk)
  have k1 := keyCode_bd rk
  have k2 := keyCode_bd sk
  unfold maxLen at hrk hsk
  have hlong : rk.size + sk.size ≤ 12 := by omega
  have hp := Lib.hid (keyCode_code (s := rk) (by omega))
  have hq := Lib.hid (keyCode_code (s := sk) (by omega))
  have hpq := Lib.hid (show keyCode (rk ++ sk) = codeB (rk ++ sk) from keyCode_code (by rw [ByteArray.size_append]; omega))
  have hE := Lib.hid (codeB_pieces rk sk)
  have l1 := codeB_pos rk
  rw [hp.out] at CR k1 ⊢
  rw [hq.out] at CS k2 ⊢
  have CI := Lib.hid (fun w hm => implKeyCode_any (rk ++ sk) m w (by rw [ByteArray.size_append]; unfold maxLen; omega) hm)
  rw [hpq.out] at CI
  obtain ⟨z, hz⟩ : ∃ z, (codeB rk).size - 2 = z := ⟨_, rfl⟩
  rw [hE.out, hz] at CI
  clear hp hq hpq hE
  generalize codeB rk = p at *
  generalize codeB sk = q at *
  go_wp2_with fail
  refine (CR.out _).mono ?_
  rintro e w9 ⟨rfl, rfl⟩
  go_wp2_with fail
  refine (CS.out _).mono ?_
  rintro e w9 ⟨rfl, rfl⟩
  go_wp2_with fail
  have g0 := fun d os => cell_regrown x0 d os
  have g1 := fun d os => cell_regrown y0 d os
  have cI := fun d os => Calls.regrown_of (w := w4) (d := d) (os := os) (CI.out _ (cell_regrown hm d os))
  have e1 : IntKind.i64.wrap ((p.size : Int) - 2) = (z : Int) := by rw [IntWalk.i64_in _ (by omega)]; omega
  have e2 : (z : Int) ≤ (p.size : Int) := by omega
  have e3 : (0 : Int) ≤ (z : Int) := by omega
  have n1 : ¬ 9223372036854775807 < rk.size + sk.size := by omega
  have n2 : ¬ 9223372036854775807 < min z p.size + q.size := by omega
  clear CI CR CS x0 y0
  refine wp_region_quiet_below (by kernel_rfl) (by kernel_rfl) ?_
  repeat (quiet_step (first | exact cI _ _))
  refine wpQuiet_nil ?_
  intro _ hw'
  obtain ⟨⟨dq, osq⟩, hw''⟩ := hw'
  subst hw''
  go_wp2_with fail
  go_ret
  exact ⟨rfl, B.trans ((below_regrown w4 dq osq).mono B.size)⟩
end Go.Proofs.YtgeepfoknhhcjaaDoor
