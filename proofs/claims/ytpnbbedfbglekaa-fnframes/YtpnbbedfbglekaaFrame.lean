/-
  impl.FrameOf and spec.FrameOf by their contracts: both return the frame of a text. Condition: the text has at most maxLen bytes.
-/
import Derived.Test.YtpnbbedfbglekaaCrc
import Derived.Test.YtpnbbedfbglekaaRowOk
import Derived.Deep.RegionHeld
namespace Go.Proofs.Ytpnbbedfbglekaa
open Go.RowKit

/-- The length of a text, in four bytes. -/
def lenT (n : Int) : ByteArray := ⟨#[byI (n / 16777216 % 256), byI (n / 65536 % 256), byI (n / 256 % 256), byI (n % 256)]⟩
/-- The frame of a text. -/
def frameB (s : ByteArray) : ByteArray := lenT s.size ++ crcT s ++ s
def frameS (s : ByteArray) : ByteArray := if s.size ≤ 100000 then frameB s else ⟨#[]⟩
theorem wrap8_bd (n : Int) : 0 ≤ IntKind.u8.wrap n ∧ IntKind.u8.wrap n < 256 := by rw [IntKind.wrap_u8]; omega
theorem head8 (s : ByteArray) : (⟨#[byI ((s.size : Int) / 16777216 % 256), byI ((s.size : Int) / 65536 % 256), byI ((s.size : Int) / 256 % 256), byI ((s.size : Int) % 256), byI (crcS s % 256), byI (crcS s / 256 % 256), byI (crcS s / 65536 % 256), byI (crcS s / 16777216 % 256)]⟩ : ByteArray) = lenT s.size ++ crcT s := rfl
theorem head_size (s : ByteArray) : (lenT s.size ++ crcT s).size = 8 := rfl
set_option maxRecDepth 100000 in
set_option maxHeartbeats 400000 in
theorem implFrameOf_any (s : ByteArray) (w : World) (hs : s.size ≤ maxLen) :
    Calls Try.prog 21 #[.string s] w fun e w' => e = .returned (.string (frameS s)) ∧ Below w.heap.size w w' := by
  by_cases hl : s.size ≤ 100000
  case neg =>
    have E := Lib.hid (show frameS s = ⟨#[]⟩ from if_neg hl)
    unfold maxLen at hs
    have d0 : decide ((100000 : Int) < (s.size : Int)) = true := by simp; omega
    go_enter Try.func21, Try.ntmps21
    go_wp2
    go_ret
    exact ⟨by rw [E.out]; rfl, Below.refl _ _⟩
  have E := Lib.hid (show frameS s = frameB s from if_pos hl)
  have C := crcOf_any s w hs
  have hb := crcS_bd s
  have H8 := Lib.hid (head8 s)
  have d0 : decide ((100000 : Int) < (s.size : Int)) = false := by simp; omega
  go_enter Try.func21, Try.ntmps21
  go_wp2_with fail
  refine C.mono ?_
  rintro e w1 ⟨rfl, rfl⟩
  obtain ⟨hb0, hb1⟩ := hb
  generalize crcS s = q at *
  have g1 : (s.size : Int) / 16777216 % 256 = (s.size : Int) / 16777216 := by omega
  have g2 : (s.size : Int) / 65536 % 256 = (s.size : Int) / 65536 := by omega
  have g3 : q / 16777216 % 256 = q / 16777216 := by omega
  rw [g1, g2, g3] at H8
  go_wp2_with (rw [conv8 _ _ ((s.size : Int) / 16777216) ((s.size : Int) / 65536) ((s.size : Int) / 256 % 256) ((s.size : Int) % 256) (q % 256) (q / 256 % 256) (q / 65536 % 256) (q / 16777216) (by omega) (by omega) (by omega) (by omega) (by omega) (by omega) (by omega) (by omega) (by simp [go_sem]) (by simp [go_sem]) (by simp [go_sem]) (by simp [go_sem]) (by simp [go_sem]) (by simp [go_sem]) (by simp [go_sem]) (by simp [go_sem])])
  go_ret
  exact ⟨by rw [E.out]; unfold frameB; rw [← H8.out]; rfl, bl1 _ _⟩
set_option maxRecDepth 100000 in
set_option maxHeartbeats 400000 in
theorem specFrameOf_any (s : ByteArray) (w : World) (hs : s.size ≤ maxLen) :
    Calls Try.prog 20 #[.string s] w fun e w' => e = .returned (.string (frameS s)) ∧ Below w.heap.size w w' := by
  by_cases hl : s.size ≤ 100000
  case neg =>
    have E := Lib.hid (show frameS s = ⟨#[]⟩ from if_neg hl)
    unfold maxLen at hs
    have d0 : decide ((100000 : Int) < (s.size : Int)) = true := by simp; omega
    go_enter Try.func20, Try.ntmps20
    go_wp2
    go_ret
    exact ⟨by rw [E.out]; rfl, Below.refl _ _⟩
  have E := Lib.hid (show frameS s = frameB s from if_pos hl)
  have d0 : decide ((100000 : Int) < (s.size : Int)) = false := by simp; omega
  have hsz : (crcT s).size = 4 := rfl
  have L4 : Hid ((⟨#[byI ((s.size : Int) / 16777216), byI ((s.size : Int) / 65536), byI ((s.size : Int) / 256 % 256), byI ((s.size : Int) % 256)]⟩ : ByteArray) = lenT s.size) := Lib.hid (by
    unfold lenT
    rw [show (s.size : Int) / 16777216 % 256 = (s.size : Int) / 16777216 by omega, show (s.size : Int) / 65536 % 256 = (s.size : Int) / 65536 by omega])
  go_enter Try.func20, Try.ntmps20
  go_wp2_with fail
  go_region_held (fun w' => Below w.heap.size w w') (repeat (first | assumption | exact Below.refl _ _ | refine Below.drew ?_ | refine Below.alloc ?_ (by simp) _))
    (first
      | (go_at_call 66; refine (l11Sum_any _ _ hs).mono ?_; rintro e w' ⟨rfl, rfl⟩)
      | (rw [conv4 _ _ (IntKind.u8.wrap ((s.size : Int) / 16777216)) (IntKind.u8.wrap ((s.size : Int) / 65536)) (IntKind.u8.wrap ((s.size : Int) / 256)) (IntKind.u8.wrap (s.size : Int)) (wrap8_bd _) (wrap8_bd _) (wrap8_bd _) (wrap8_bd _) (by simp [go_sem]) (by simp [go_sem]) (by simp [go_sem]) (by simp [go_sem])]))
  all_goals (go_wp2; go_ret; exact ⟨by rw [E.out]; unfold frameB; rw [← L4.out]; rfl, by assumption⟩)
end Go.Proofs.Ytpnbbedfbglekaa
