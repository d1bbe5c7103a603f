/-
  laws.FnKeyOrder returns true for every code. Condition: the variable internal/bytealg.MaxLen holds some int.
-/
import Derived.Test.YtgeepfoknhhcjaaDoorKeyPieces
namespace Go.Proofs.YtgeepfoknhhcjaaDoor
open Go.RowKit

theorem codeB_ne (s : ByteArray) : (codeB s).toList.isEmpty = false := by
  rw [ByteArray.toList_eq, codeB_list]
  simp
set_option maxRecDepth 100000 in
set_option maxHeartbeats 4000000 in
theorem walk_KeyOrder (a : Option Addr) (len cap : Nat) (xs : List Value) (w : World) (hI : IsCode w a len cap xs) (m : Int) (hm : w.cell? ⟨0, 0, none⟩ = some (.int .i64 m)) :
    Calls Tryd.prog 4 #[.slice a len cap] w fun e w' => e = .returned (.bool true) ∧ Below w.heap.size w w' := by
  have hI0 := hI.by_
  obtain ⟨hlc, hcm, _, _⟩ := hI
  go_enter Tryd.func4, Tryd.ntmps4
  go_wp2_with fail
  refine (big_any a len cap w (by omega)).mono ?_
  rintro e w0 ⟨rfl, rfl⟩
  by_cases hbig : 1048576 < len
  · have hd : decide (1048576 < len) = true := by simpa using hbig
    rw [hd]
    go_wp2_with fail
    go_ret
    exact ⟨rfl, Below.refl _ _⟩
  have hd : decide (1048576 < len) = false := by simpa using hbig
  rw [hd]
  go_wp2_with fail
  refine (drawLess_any a len cap w (by omega) hI0).mono ?_
  rintro e w1 ⟨r, s, hr, hs, rfl, B⟩
  replace hm := hold_max hm B
  have hb1 := bl2 w1 (.cells #[.string r.key, .int .i64 r.tag, .string r.val] 29) (.cells #[.string s.key, .int .i64 s.tag, .string s.val] 29)
  have X := (Vb.new w1 r 29).keep (bl1 _ (.cells #[.string s.key, .int .i64 s.tag, .string s.val] 29))
  have Y := Vb.new (w1.alloc (.cells #[.string r.key, .int .i64 r.tag, .string r.val] 29)) s 29
  have hz : (w1.alloc (.cells #[.string r.key, .int .i64 r.tag, .string r.val] 29)).heap.size = w1.heap.size + 1 := by simp
  rw [hz] at Y
  replace hm := hold_max hm hb1
  replace B := B.trans (hb1.mono B.size)
  obtain ⟨⟨hrk, _, _⟩, hr5, _⟩ := hr
  obtain ⟨⟨hsk, _, _⟩, hs5, _⟩ := hs
  obtain ⟨rk, rt, rv⟩ := r
  obtain ⟨sk, st, sv⟩ := s
  simp only at hrk hsk hr5 hs5 X Y
  have ⟨x0, _, _⟩ := X.cells
  simp only at x0
  clear hI0 hd hb1 hz
  go_wp2_with fail
  generalize (w1.alloc (.cells #[.string rk, .int .i64 rt, .string rv] 29)).alloc (.cells #[.string sk, .int .i64 st, .string sv] 29) = w2 at *
  generalize w1.heap.size = A at *
  refine (implKeyCode_any rk m _ hrk hm).mono ?_
  rintro e w3 ⟨rfl, hb⟩
  replace hm := hold_max hm hb
  replace B := B.trans (hb.mono B.size)
  replace X := X.keep hb
  replace Y := Y.keep hb
  clear hb x0
  have ⟨y0, _, _⟩ := Y.cells
  simp only at y0
  go_wp2_with fail
  refine (implKeyCode_any sk m _ hsk hm).mono ?_
  rintro e w4 ⟨rfl, hb⟩
  replace hm := hold_max hm hb
  replace B := B.trans (hb.mono B.size)
  replace X := X.keep hb
  replace Y := Y.keep hb
  clear hb y0
  have ⟨x0, _, _⟩ := X.cells
  have ⟨y0, _, _⟩ := Y.cells
  simp only at x0 y0
  have CR := Lib.hid (fun w => specKeyCode_any rk w hrk)
  have CS := Lib.hid (fun w => specKeyCode_any sk w hsk)
  have k1 := keyCode_bd rk
  have k2 := keyCode_bd sk
  unfold maxLen at hrk hsk
  have hp := Lib.hid (keyCode_code (s := rk) (by omega))
  have hq := Lib.hid (keyCode_code (s := sk) (by omega))
  have hL := codeB_less rk sk
  have hE := codeB_eq rk sk
  have hF := fun h => codeB_free (a := rk) (b := sk) h
  have z1 := codeB_ne rk
  have z2 := codeB_ne sk
  rw [hp.out] at CR k1 ⊢
  rw [hq.out] at CS k2 ⊢
  clear hp hq
  generalize codeB rk = p at *
  generalize codeB sk = q at *
  have HF := Lib.hid hF
  clear hF
  generalize hb1 : Op.bytesLess rk.toList sk.toList = b at *
  generalize hb2 : (rk.toList == sk.toList) = c at *
  go_wp2_with fail
  refine (CR.out _).mono ?_
  rintro e w9 ⟨rfl, rfl⟩
  go_wp2_with fail
  refine (CS.out _).mono ?_
  rintro e w9 ⟨rfl, rfl⟩
  by_cases hlen : p.size < q.size
  · have hG := HF.out hlen
    have e1 : (p.size : Int) ≤ (q.size : Int) := by omega
    cases c
    · go_wp2_with fail
      go_ret
      exact ⟨rfl, B⟩
    · go_wp2_with fail
      go_ret
      exact ⟨rfl, B⟩
  · go_wp2_with fail
    go_ret
    exact ⟨rfl, B⟩
end Go.Proofs.YtgeepfoknhhcjaaDoor
