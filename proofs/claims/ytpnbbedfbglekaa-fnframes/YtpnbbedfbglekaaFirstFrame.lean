/-
  strings.HasPrefix and impl.firstFrame by their contracts. Conditions: texts of at most maxLen bytes.
-/
import Derived.Test.YtpnbbedfbglekaaFrameMath
namespace Go.Proofs.Ytpnbbedfbglekaa
open Go.RowKit
set_option maxRecDepth 100000 in
set_option maxHeartbeats 400000 in
theorem litePrefix_any (s p : ByteArray) (w : World) :
    Calls Try.prog 145 #[.string s, .string p] w fun e w' => e = .returned (.bool (prefB s p)) ∧ w = w' := by
  by_cases hl : p.size ≤ s.size
  · have E := Lib.hid (show prefB s p = ((s.extract 0 p.size).toList == p.toList) by unfold prefB; rw [decide_eq_true hl, Bool.true_and])
    have d0 : decide ((p.size : Int) ≤ (s.size : Int)) = true := by simp; omega
    have d1 : (p.size : Int) ≤ (s.size : Int) := by omega
    go_enter Try.func145, Try.ntmps145
    go_wp2
    go_ret
    exact ⟨ret_bool E.out.symm, rfl⟩
  · have E := Lib.hid (show prefB s p = false by unfold prefB; rw [decide_eq_false hl, Bool.false_and])
    have d0 : decide ((p.size : Int) ≤ (s.size : Int)) = false := by simp; omega
    go_enter Try.func145, Try.ntmps145
    go_wp2
    go_ret
    exact ⟨ret_bool E.out.symm, rfl⟩
set_option maxRecDepth 100000 in
theorem hasPrefix_any (s p : ByteArray) (w : World) :
    Calls Try.prog 119 #[.string s, .string p] w fun e w' => e = .returned (.bool (prefB s p)) ∧ w = w' := by
  have C := litePrefix_any s p w
  generalize prefB s p = q at *
  go_enter Try.func119, Try.ntmps119
  go_wp2_with fail
  refine C.mono ?_
  rintro e w1 ⟨rfl, rfl⟩
  go_wp2_with fail
  go_ret
  exact ⟨rfl, rfl⟩
theorem or4 {a b c d : Int} (ha : 0 ≤ a ∧ a < 256) (hb : 0 ≤ b ∧ b < 256) (hc : 0 ≤ c ∧ c < 256) (hd : 0 ≤ d ∧ d < 256) :
    bits .or .i64 (bits .or .i64 (bits .or .i64 (a * 16777216) (b * 65536)) (c * 256)) d = a * 16777216 + b * 65536 + c * 256 + d := by
  have hw : ∀ n : Int, 0 ≤ n → n < 2 ^ 40 → IntKind.i64.wrap n = n := fun n h0 h1 => by rw [IntKind.wrap_i64]; omega
  rw [bits_join .i64 40 (by decide) hw 24 (a * 16777216) (b * 65536) (by omega) (by omega) (by omega) (by omega) (by omega) (by omega),
    bits_join .i64 40 (by decide) hw 16 (a * 16777216 + b * 65536) (c * 256) (by omega) (by omega) (by omega) (by omega) (by omega) (by omega),
    bits_join .i64 40 (by decide) hw 8 (a * 16777216 + b * 65536 + c * 256) d (by omega) (by omega) (by omega) (by omega) (by omega) (by omega)]
/-- What firstFrame returns. -/
def FirstOut (s : ByteArray) (w : World) (e : Ending) (w' : World) : Prop :=
  e = .returned (.tuple #[.string ((firstF s).getD ⟨#[]⟩), .bool (firstF s).isSome]) ∧ Below w.heap.size w w'
set_option maxRecDepth 100000 in
set_option maxHeartbeats 1000000 in
theorem firstFrame_any (s : ByteArray) (w : World) (hs : s.size ≤ maxLen) :
    Calls Try.prog 68 #[.string s] w (FirstOut s w) := by
  unfold FirstOut
  by_cases h8 : s.size < 8
  · have E := Lib.hid (firstF_no (.inl h8))
    unfold maxLen at hs
    have d0 : decide ((s.size : Int) < 8) = true := by simp; omega
    go_enter Try.func68, Try.ntmps68
    go_wp2
    go_ret2
    exact ⟨by rw [E.out]; rfl, Below.refl _ _⟩
  have d0 : decide ((s.size : Int) < 8) = false := by simp; omega
  have hn := be4_lt s
  have l0 := byAt_eq (s := s) (i := 0) (by omega)
  have l1 := byAt_eq (s := s) (i := 1) (by omega)
  have l2 := byAt_eq (s := s) (i := 2) (by omega)
  have l3 := byAt_eq (s := s) (i := 3) (by omega)
  have E4 := Lib.hid (show bits .or .i64 (bits .or .i64 (bits .or .i64 ((s[0].toNat : Int) * 16777216) ((s[1].toNat : Int) * 65536)) ((s[2].toNat : Int) * 256)) (s[3].toNat : Int) = (be4 s : Int) by
    have b0 := byAt_lt s 0
    have b1 := byAt_lt s 1
    have b2 := byAt_lt s 2
    have b3 := byAt_lt s 3
    rw [or4 (by omega) (by omega) (by omega) (by omega)]
    unfold be4
    omega)
  clear l0 l1 l2 l3
  have i0 : 0 < s.size := by omega
  have i1 : 1 < s.size := by omega
  have i2 : 2 < s.size := by omega
  have i3 : 3 < s.size := by omega
  have k0 : (0 : Int) < (s.size : Int) := by omega
  have k1 : (1 : Int) < (s.size : Int) := by omega
  have k2 : (2 : Int) < (s.size : Int) := by omega
  have k3 : (3 : Int) < (s.size : Int) := by omega
  go_enter Try.func68, Try.ntmps68
  go_wp2_with fail
  go_quiet (fail)
  have z0 : wrap64 (s[0].toNat : Int) = (s[0].toNat : Int) := by have := s[0].toNat_lt; unfold wrap64; omega
  have z1 : wrap64 (s[1].toNat : Int) = (s[1].toNat : Int) := by have := s[1].toNat_lt; unfold wrap64; omega
  have z2 : wrap64 (s[2].toNat : Int) = (s[2].toNat : Int) := by have := s[2].toNat_lt; unfold wrap64; omega
  have z3 : wrap64 (s[3].toNat : Int) = (s[3].toNat : Int) := by have := s[3].toNat_lt; unfold wrap64; omega
  have y0 : wrap64 ((s[0].toNat : Int) * 16777216) = (s[0].toNat : Int) * 16777216 := by have := s[0].toNat_lt; unfold wrap64; omega
  have y1 : wrap64 ((s[1].toNat : Int) * 65536) = (s[1].toNat : Int) * 65536 := by have := s[1].toNat_lt; unfold wrap64; omega
  have y2 : wrap64 ((s[2].toNat : Int) * 256) = (s[2].toNat : Int) * 256 := by have := s[2].toNat_lt; unfold wrap64; omega
  rw [z0, z1, z2, z3, y0, y1, y2, E4.out]
  have hb0 : Below w.heap.size w (w.drewN nq) := below_drewN (Below.refl _ _) nq
  clear z0 z1 z2 z3 y0 y1 y2 E4
  generalize s[0].toNat = x0
  generalize s[1].toNat = x1
  generalize s[2].toNat = x2
  generalize s[3].toNat = x3
  clear k0 k1 k2 k3 i0 i1 i2 i3
  generalize bits BinOp.or IntKind.i64 (bits BinOp.or IntKind.i64 ((x0 : Int) * 16777216) ((x1 : Int) * 65536)) ((x2 : Int) * 256) = X2
  generalize bits BinOp.or IntKind.i64 ((x0 : Int) * 16777216) ((x1 : Int) * 65536) = X1
  generalize w.drewN nq = w0 at *
  obtain ⟨q, hq⟩ : ∃ q, s.size = q + 8 := ⟨s.size - 8, by omega⟩
  have hs2 := hs
  unfold maxLen at hs2
  have hw : IntKind.i64.wrap ((s.size : Int) - 8) = (q : Int) := by have := IntWalk.i64_in ((s.size : Int) - 8) (by omega); omega
  by_cases h1 : 100000 < be4 s
  · have E := Lib.hid (firstF_no (.inr (.inl h1)))
    have d1 : decide ((100000 : Int) < (be4 s : Int)) = true := decide_eq_true (by omega)
    generalize be4 s = n at *
    go_wp2_with fail
    go_ret2
    exact ⟨by rw [E.out]; rfl, hb0⟩
  have d1 : decide ((100000 : Int) < (be4 s : Int)) = false := decide_eq_false (by omega)
  by_cases h2 : s.size < 8 + be4 s
  · have E := Lib.hid (firstF_no (.inr (.inr h2)))
    have d2 : decide ((q : Int) < (be4 s : Int)) = true := decide_eq_true (by omega)
    generalize be4 s = n at *
    go_wp2_with fail
    go_ret2
    exact ⟨by rw [E.out]; rfl, hb0⟩
  have d2 : decide ((q : Int) < (be4 s : Int)) = false := decide_eq_false (by omega)
  have HF := Lib.hid (firstF_sum (s := s) (by omega) (by omega) (by omega))
  have hpf := pref_frame (s := s) (by omega) (by omega) (by omega)
  have CF := fun w => implFrameOf_any (s.extract 8 (8 + be4 s)) w (by unfold maxLen; rw [ByteArray.size_extract]; omega)
  have CP := fun p w => hasPrefix_any s p w
  have CP2 : ∀ w, Calls Try.prog 119 #[.string s, .string (frameS (s.extract 8 (8 + be4 s)))] w fun e w' => e = .returned (.bool ((crcT (s.extract 8 (8 + be4 s))).toList == (s.extract 4 8).toList)) ∧ w = w' := fun w => by
    have := CP (frameS (s.extract 8 (8 + be4 s))) w
    rw [hpf] at this
    exact this
  clear CP hpf
  generalize frameS (s.extract 8 (8 + be4 s)) = p at *
  have b1 : (8 : Int) + (be4 s : Int) ≤ (s.size : Int) := by omega
  have b2 : IntKind.i64.wrap ((8 : Int) + (be4 s : Int)) = ((8 + be4 s : Nat) : Int) := by have := IntWalk.i64_in ((8 : Int) + (be4 s : Int)) (by omega); omega
  cases hc : ((crcT (s.extract 8 (8 + be4 s))).toList == (s.extract 4 8).toList)
  · rw [hc] at CP2 HF
    have E := HF
    clear HF hc
    generalize be4 s = n at *
    go_wp2_with fail
    refine (CF _).mono ?_
    rintro e w1 ⟨rfl, hb1⟩
    have hb := hb0.trans (hb1.mono hb0.size)
    clear hb0 hb1 CF
    go_wp2_with fail
    refine (CP2 _).mono ?_
    rintro e w2 ⟨rfl, rfl⟩
    go_wp2_with fail
    go_ret2
    exact ⟨by rw [E.out]; rfl, hb⟩
  · rw [hc] at CP2 HF
    have E := HF
    clear HF hc
    generalize be4 s = n at *
    go_wp2_with fail
    refine (CF _).mono ?_
    rintro e w1 ⟨rfl, hb1⟩
    have hb := hb0.trans (hb1.mono hb0.size)
    clear hb0 hb1 CF
    go_wp2_with fail
    refine (CP2 _).mono ?_
    rintro e w2 ⟨rfl, rfl⟩
    go_wp2_with fail
    go_ret2
    exact ⟨by rw [E.out]; rfl, hb⟩
end Go.Proofs.Ytpnbbedfbglekaa
