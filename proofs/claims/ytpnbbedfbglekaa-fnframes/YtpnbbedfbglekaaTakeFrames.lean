/-
  impl.TakeFrames and spec.TakeFrames by their contracts: the frames with which a text begins, and the offset behind them. Condition: the text has at most 1073741824 bytes.
-/
import Derived.Test.YtpnbbedfbglekaaFirstFrame
import Derived.Test.YtpnbbedfbglekaaRdIn
import Derived.Test.YtpnbbedfbglekaaStrMem
import Derived.Test.YtpnbbedfbglekaaWQ
import Derived.Maps.AppendAt
namespace Go.Proofs.Ytpnbbedfbglekaa
open Go.RowKit
theorem strC_snocF (l : List ByteArray) (s : ByteArray) : strC (l ++ [s]) = strC l ++ [.string s] := by simp [strC]
/-- What TakeFrames returns. -/
def FramesOut (s : ByteArray) (w : World) (e : Ending) (w' : World) : Prop := ∃ a c, e = .returned (.tuple #[.slice a (framesOf s).length c, .int .i64 (totF (framesOf s))]) ∧ Below w.heap.size w w' ∧ w'.ownsRow w.heap.size 9 1 (.slice a (framesOf s).length c) (framesOf s).length (strC (framesOf s))
set_option maxRecDepth 100000 in
set_option maxHeartbeats 2000000 in
theorem implTakeFrames_any (s : ByteArray) (w : World) (hs : s.size ≤ 1073741824) :
    Calls Try.prog 23 #[.string s] w (FramesOut s w) := by
  obtain ⟨i0, hi, hz0, hz1, hz2⟩ := info_parts infoStr
  unfold FramesOut
  generalize hF : framesOf s = F
  have HF := Lib.hid hF
  clear hF
  go_enter Try.func23, Try.ntmps23
  go_wp2_with fail
  go_loopw [4, 5] (fun v i wr => ∃ (k q f : Nat) (L : List ByteArray) (g : Option Addr) (c : Nat), i = .int .i64 k ∧ v = .slice g q c ∧ k ≤ s.size ∧ q * 8 ≤ k ∧ Hid (L.length = q) ∧ Hid (F = L ++ framesN f s k) ∧ Hid (totF L = k) ∧ s.size < k + f ∧ wr.ownsRow w.heap.size 9 1 (.slice g q c) q (strC L) ∧ Below w.heap.size w wr) (fun _ i _ => s.size + 1 - (intOf i).toNat)
  case atStart => exact ⟨0, 0, s.size + 1, [], _, _, rfl, rfl, Nat.zero_le _, Nat.le_refl _, Lib.hid rfl, Lib.hid HF.out.symm, Lib.hid rfl, by omega, World.ownsRow_nil _ _ _ _, Below.refl _ _⟩
  case round =>
    obtain ⟨k, q, f, L, g, c, rfl, rfl, hk, hqk, HQ, HL, HT, hkf, hO, hb⟩ := hrel
    have hkI : (k : Int) ≤ (s.size : Int) := by omega
    have hts : (s.extract k s.size).size = s.size - k := by rw [ByteArray.size_extract]; omega
    have CF := fun w => firstFrame_any (s.extract k s.size) w (by unfold maxLen; omega)
    unfold FirstOut at CF
    cases hF : firstF (s.extract k s.size) with
    | none =>
      rw [hF] at CF
      have E := Lib.hid (show F = L by rw [HL.out, framesN_none hF, List.append_nil])
      clear hF HL hts
      go_wp2_with fail
      refine (CF _).mono ?_
      rintro e w1 ⟨rfl, hb1⟩
      have hb2 := hb.trans (hb1.mono hb.size)
      have hO2 := own_below hO hb1
      clear hb hb1 hO CF
      go_wp2_with fail
      go_ret2
      refine ⟨g, c, ?_, hb2, ?_⟩
      · rw [E.out, HQ.out, HT.out]; rfl
      · rw [E.out, HQ.out]; exact hO2
    | some d =>
      rw [hF] at CF
      have hd1 := (firstF_size hF).1
      have hd2 := (firstF_size hF).2.1
      obtain ⟨f, rfl⟩ : ∃ z, f = z + 1 := ⟨f - 1, by omega⟩
      have HL2 := Lib.hid (show F = (L ++ [d]) ++ framesN f s (k + (8 + d.size)) by rw [HL.out, framesN_some hF, List.append_assoc]; rfl)
      have HT2 := Lib.hid (show totF (L ++ [d]) = k + (8 + d.size) by rw [totF_snoc, HT.out])
      have HQ2 := Lib.hid (show (L ++ [d]).length = q + 1 by rw [List.length_append, HQ.out]; rfl)
      rw [hts] at hd2
      clear hF HL HT HQ hts
      go_wp2_with fail
      refine (CF _).mono ?_
      rintro e w1 ⟨rfl, hb1⟩
      have hb2 := hb.trans (hb1.mono hb.size)
      have hO2 := own_below hO hb1
      have hg8 : w.heap.size ≤ w1.heap.size := hb2.size
      clear hb hb1 hO CF
      go_wp2_with (at_builtin; refine wpList_append_own_at _ rfl _ _ 35 rfl w.heap.size 9 i0 (.string ⟨#[]⟩) 1 16 Try.underlying35 hi hz0 hz1 hz2 rfl (by decide) _ _ _ rfl (hO2.alloc _) ⟨w1.heap.size, 0, none⟩ 1 1 [.string d] rfl rfl (cell_one_new _ _ _) ?c2 ?c3 ?c4 ?c5 ?_)
      case c2 => first | rfl | (intro u hu; simp at hu; subst hu; rfl)
      case c3 => unfold maxLen; omega
      case c4 => omega
      case c5 => first | omega | (simp; omega)
      intro v' w4 hO4 hg4 _ hat
      obtain ⟨a', cap', rfl⟩ := own_slice' hO4
      have hb4 := below_grown1 hb2 hO2 hg4
      have hO5 : w4.ownsRow w.heap.size 9 1 (.slice a' (q + 1) cap') (q + 1) (strC (L ++ [d])) := by
        rw [strC_snocF]; exact hO4
      clear hg4 hat hO2 hO4 hb2
      go_wp2_with fail
      go_roundw
      case rel => exact ⟨k + (8 + d.size), q + 1, f, L ++ [d], a', cap', by go_num, rfl, by omega, by omega, HQ2, HL2, HT2, by omega, hO5, hb4⟩
      case measure => simp [intOf]; omega
/-- The number of the first j bytes. -/
def beN (t : ByteArray) : Nat → Nat
  | 0 => 0
  | j + 1 => 256 * beN t j + byAt t j
theorem beN_lt (t : ByteArray) {j : Nat} (h : j ≤ 3) : beN t j < 16777216 := by
  have h0 := byAt_lt t 0
  have h1 := byAt_lt t 1
  have h2 := byAt_lt t 2
  rcases (show j = 0 ∨ j = 1 ∨ j = 2 ∨ j = 3 by omega) with rfl | rfl | rfl | rfl <;> simp only [beN] <;> omega
theorem beN_four (t : ByteArray) : beN t 4 = be4 t := by
  simp only [beN]
  unfold be4
  omega
theorem byAt_from {s : ByteArray} {k j : Nat} (h : k + j < s.size) : byAt (s.extract k s.size) j = s[k + j].toNat := by
  rw [byAt_eq (by rw [ByteArray.size_extract]; omega), ByteArray.getElem_extract]
theorem ext_from {s : ByteArray} {k a b : Nat} (h : k + b ≤ s.size) : (s.extract k s.size).extract a b = s.extract (k + a) (k + b) := by
  rw [ByteArray.extract_extract, Nat.min_eq_left h]
set_option maxRecDepth 100000 in
set_option maxHeartbeats 4000000 in
theorem specTakeFrames_any (s : ByteArray) (w : World) (hs : s.size ≤ 1073741824) :
    Calls Try.prog 22 #[.string s] w (FramesOut s w) := by
  obtain ⟨i0, hi, hz0, hz1, hz2⟩ := info_parts infoStr
  unfold FramesOut
  generalize hF : framesOf s = F
  have HF := Lib.hid hF
  clear hF
  have hbn : Below w.heap.size w (w.alloc (.cells #[] 9)) := bl1 _ _
  have hOn := World.ownsRow_lit (base := w.heap.size) (e := 9) (size := 1) w #[] 0 (Nat.le_refl _) (Nat.zero_le _) rfl
  go_enter Try.func22, Try.ntmps22
  go_wp2_with fail
  go_loopw [4, 5] (fun v i wr => ∃ (k q f : Nat) (L : List ByteArray) (g : Option Addr) (c : Nat), i = .int .i64 k ∧ v = .slice g q c ∧ k ≤ s.size ∧ q * 8 ≤ k ∧ Hid (L.length = q) ∧ Hid (F = L ++ framesN f s k) ∧ Hid (totF L = k) ∧ s.size < k + f ∧ wr.ownsRow w.heap.size 9 1 (.slice g q c) q (strC L) ∧ Below w.heap.size w wr) (fun _ i _ => s.size + 1 - (intOf i).toNat)
  case atStart => exact ⟨0, 0, s.size + 1, [], _, _, rfl, rfl, Nat.zero_le _, Nat.le_refl _, Lib.hid rfl, Lib.hid HF.out.symm, Lib.hid rfl, by omega, hOn, hbn⟩
  case round =>
    obtain ⟨k, q, f, L, g, c, rfl, rfl, hk, hqk, HQ, HL, HT, hkf, hO, hb⟩ := hrel
    clear hOn hbn
    have hts : (s.extract k s.size).size = s.size - k := by rw [ByteArray.size_extract]; omega
    by_cases h8 : k + 8 ≤ s.size
    case neg =>
      have hF := firstF_no (s := s.extract k s.size) (.inl (by omega))
      have E := Lib.hid (show F = L by rw [HL.out, framesN_none hF, List.append_nil])
      clear hF HL hts
      go_wp2_with fail
      go_ret2
      refine ⟨g, c, ?_, hb, ?_⟩
      · rw [E.out, HQ.out, HT.out]; rfl
      · rw [E.out, HQ.out]; exact hO
    have d0 : decide ((k : Int) + 8 ≤ (s.size : Int)) = true := decide_eq_true (by omega)
    have HB := Lib.hid (show ∀ j (h : j < 4), beN (s.extract k s.size) (j + 1) = 256 * beN (s.extract k s.size) j + (s[k + j]'(by omega)).toNat from fun j h => by rw [beN, byAt_from (by omega)])
    have HB3 := Lib.hid (show ∀ j, j ≤ 3 → beN (s.extract k s.size) j < 16777216 from fun j h => beN_lt _ h)
    have HB4 := Lib.hid (beN_four (s.extract k s.size))
    go_wp2_with fail
    go_loopw [6, 7] (fun v i wx => ∃ (j n : Nat), j ≤ 4 ∧ i = .int .i64 j ∧ v = .int .i64 n ∧ Hid (beN (s.extract k s.size) j = n) ∧ wx.ownsRow w.heap.size 9 1 (.slice g q c) q (strC L) ∧ Below w.heap.size w wx) (fun _ i _ => 4 - (intOf i).toNat)
    case atStart => exact ⟨0, 0, by omega, rfl, rfl, Lib.hid rfl, hO, hb⟩
    case round =>
      clear hO hb
      obtain ⟨j, n, hj, rfl, rfl, HN, hO, hb⟩ := hrel
      by_cases hj4 : j < 4
      · have hn3 : n < 16777216 := by rw [← HN.out]; exact HB3.out j (by omega)
        have hkj : k + j < s.size := by omega
        have HN2 := Lib.hid (show beN (s.extract k s.size) (j + 1) = 256 * n + (s[k + j]'hkj).toNat by rw [HB.out j hj4, HN.out])
        have hby := (s[k + j]'hkj).toNat_lt
        clear HB HB3 HB4 HN HL
        go_wp2_with fail
        go_roundw
        case rel => exact ⟨j + 1, 256 * n + (s[k + j]'hkj).toNat, by omega, by go_num, by go_num, HN2, hO, hb⟩
        case measure => simp [intOf]; omega
      · obtain rfl : j = 4 := by omega
        have hn4 : be4 (s.extract k s.size) = n := by rw [← HB4.out, HN.out]
        have hnl := be4_lt (s.extract k s.size)
        clear HB HB3 HB4 HN
        by_cases h1 : 100000 < n
        · have hF := firstF_no (s := s.extract k s.size) (.inr (.inl (by omega)))
          have E := Lib.hid (show F = L by rw [HL.out, framesN_none hF, List.append_nil])
          have d1 : decide ((100000 : Int) < (n : Int)) = true := decide_eq_true (by omega)
          clear hF HL hn4 hnl hts
          go_wp2_with fail
          go_quiet (fail)
          have hb2 := hb.trans ((show Below wr.heap.size wr (wr.drewN nq) from below_drewN (Below.refl _ _) nq).mono hb.size)
          have hO2 := own_below hO (show Below wr.heap.size wr (wr.drewN nq) from below_drewN (Below.refl _ _) nq)
          generalize wr.drewN nq = w1 at *
          clear hb hO
          go_wp2_with fail
          go_ret2
          refine ⟨g, c, ?_, hb2, ?_⟩
          · rw [E.out, HQ.out, HT.out]; rfl
          · rw [E.out, HQ.out]; exact hO2
        have d1 : decide ((100000 : Int) < (n : Int)) = false := decide_eq_false (by omega)
        obtain ⟨a8, ha8⟩ : ∃ z, z = k + 8 := ⟨_, rfl⟩
        obtain ⟨a4, ha4⟩ : ∃ z, z = k + 4 := ⟨_, rfl⟩
        obtain ⟨an, han⟩ : ∃ z, z = a8 + n := ⟨_, rfl⟩
        have W8 := Lib.hid (show wrap64 ((k : Int) + 8) = (a8 : Int) ∧ IntKind.i64.wrap ((k : Int) + 8) = (a8 : Int) from ⟨(IntWalk.wrap64_in _ (by omega)).trans (by omega), (IntWalk.i64_in _ (by omega)).trans (by omega)⟩)
        have W4 := Lib.hid (show wrap64 ((k : Int) + 4) = (a4 : Int) ∧ IntKind.i64.wrap ((k : Int) + 4) = (a4 : Int) from ⟨(IntWalk.wrap64_in _ (by omega)).trans (by omega), (IntWalk.i64_in _ (by omega)).trans (by omega)⟩)
        have Wn := Lib.hid (show wrap64 ((a8 : Int) + (n : Int)) = (an : Int) ∧ IntKind.i64.wrap ((a8 : Int) + (n : Int)) = (an : Int) from ⟨(IntWalk.wrap64_in _ (by omega)).trans (by omega), (IntWalk.i64_in _ (by omega)).trans (by omega)⟩)
        by_cases h2 : s.size < an
        · have hF := firstF_no (s := s.extract k s.size) (.inr (.inr (by omega)))
          have E := Lib.hid (show F = L by rw [HL.out, framesN_none hF, List.append_nil])
          have d2 : decide ((s.size : Int) < (an : Int)) = true := decide_eq_true (by omega)
          clear hF HL hn4 hnl hts
          go_wp2_with fail
          obtain ⟨e8', e8⟩ := W8.out
          obtain ⟨en', en⟩ := Wn.out
          clear ha8 ha4 han
          go_quiet (fail)
          have hb2 := hb.trans ((show Below wr.heap.size wr (wr.drewN nq) from below_drewN (Below.refl _ _) nq).mono hb.size)
          have hO2 := own_below hO (show Below wr.heap.size wr (wr.drewN nq) from below_drewN (Below.refl _ _) nq)
          generalize wr.drewN nq = w1 at *
          clear hb hO
          go_wp2_with fail
          go_ret2
          refine ⟨g, c, ?_, hb2, ?_⟩
          · rw [E.out, HQ.out, HT.out]; rfl
          · rw [E.out, HQ.out]; exact hO2
        have d2 : decide ((s.size : Int) < (an : Int)) = false := decide_eq_false (by omega)
        have hx1 : (s.extract k s.size).extract 8 (8 + be4 (s.extract k s.size)) = s.extract a8 an := by rw [hn4, ext_from (by omega), ha8, han, ha8, Nat.add_assoc]
        have hx2 : (s.extract k s.size).extract 4 8 = s.extract a4 a8 := by rw [ext_from (by omega), ha4, ha8]
        have hF := firstF_sum (s := s.extract k s.size) (by omega) (by omega) (by omega)
        rw [hx1, hx2] at hF
        have hdz : (s.extract a8 an).size = n := by rw [ByteArray.size_extract]; omega
        have CL : ∀ w : World, Calls Try.prog 66 #[.string (s.extract a8 an)] w (fun e w' => e = .returned (.string (crcT (s.extract a8 an))) ∧ Below w.heap.size w w') := fun w => (l11Sum_any _ w (by unfold maxLen; omega)).mono fun e w' ⟨h1, h2⟩ => ⟨h1, by rw [h2]; exact bl1 _ _⟩
        have b1 : (a8 : Int) ≤ (an : Int) := by omega
        have b2 : (an : Int) ≤ (s.size : Int) := by omega
        have b3 : (a4 : Int) ≤ (a8 : Int) := by omega
        have b4 : (a8 : Int) ≤ (s.size : Int) := by omega
        cases hc : ((crcT (s.extract a8 an)).toList == (s.extract a4 a8).toList)
        · have hF2 : firstF (s.extract k s.size) = none := by rw [hF, hc]; rfl
          have E := Lib.hid (show F = L by rw [HL.out, framesN_none hF2, List.append_nil])
          have hc2 : ((crcT (s.extract a8 an)).toList != (s.extract a4 a8).toList) = true := by rw [bne, hc]; rfl
          clear hF hF2 HL hn4 hnl hts hx1 hx2 hdz
          go_wp2_with fail
          obtain ⟨e8', e8⟩ := W8.out
          obtain ⟨e4', e4⟩ := W4.out
          obtain ⟨en', en⟩ := Wn.out
          clear ha8 ha4 han
          have cL := Lib.hid (fun d os => Calls.regrown_of (w := wr) (d := d) (os := os) (CL _))
          clear CL
          refine wp_region_wq (by kernel_rfl) (by kernel_rfl) ?_
          repeat (refine WQ.step (fun K hK => ?_); go_simp; first | (refine hK _ ?_; clear hK K) | (apply Exists.intro; refine ⟨fun _ => ?_, hK _ ?_⟩; ((with_reducible exact cL.out _ _)); clear hK K))
          refine WQ.nil ?_
          intro _ hw'
          obtain ⟨⟨dq, osq⟩, hw''⟩ := hw'
          subst hw''
          have hbw := below_regrown wr dq osq
          have hb2 := hb.trans (hbw.mono hb.size)
          have hO2 := own_below hO hbw
          generalize Go.Sort.grow (redrawn wr dq) osq = w1 at *
          clear hb hO hbw e8 e8' e4 e4' en en'
          go_wp2_with fail
          go_ret2
          refine ⟨g, c, ?_, hb2, ?_⟩
          · rw [E.out, HQ.out, HT.out]; rfl
          · rw [E.out, HQ.out]; exact hO2
        · have hF2 : firstF (s.extract k s.size) = some (s.extract a8 an) := by rw [hF, hc]; rfl
          have hc2 : ((crcT (s.extract a8 an)).toList != (s.extract a4 a8).toList) = false := by rw [bne, hc]; rfl
          obtain ⟨f, rfl⟩ : ∃ z, f = z + 1 := ⟨f - 1, by omega⟩
          have HL2 := Lib.hid (show F = (L ++ [s.extract a8 an]) ++ framesN f s an by rw [HL.out, framesN_some hF2, hdz, show k + (8 + n) = an by omega, List.append_assoc]; rfl)
          have HT2 := Lib.hid (show totF (L ++ [s.extract a8 an]) = an by rw [totF_snoc, HT.out, hdz]; omega)
          have HQ2 := Lib.hid (show (L ++ [s.extract a8 an]).length = q + 1 by rw [List.length_append, HQ.out]; rfl)
          have hm1 : q + 1 ≤ maxLen := by unfold maxLen; omega
          have hm2 : (q + 1) * 16 ≤ 140737488355328 := by omega
          have hr1 : an ≤ s.size := by omega
          have hr2 : (q + 1) * 8 ≤ an := by omega
          have hr3 : s.size < an + f := by omega
          have hr4 : s.size + 1 - an < s.size + 1 - k := by omega
          clear hF hF2 HL hn4 hnl hts hx1 hx2 hdz HT HQ
          go_wp2_with fail
          obtain ⟨e8', e8⟩ := W8.out
          obtain ⟨e4', e4⟩ := W4.out
          obtain ⟨en', en⟩ := Wn.out
          clear ha8 ha4 han
          have cL := Lib.hid (fun d os => Calls.regrown_of (w := wr) (d := d) (os := os) (CL _))
          clear CL
          refine wp_region_wq (by kernel_rfl) (by kernel_rfl) ?_
          repeat (refine WQ.step (fun K hK => ?_); go_simp; first | (refine hK _ ?_; clear hK K) | (apply Exists.intro; refine ⟨fun _ => ?_, hK _ ?_⟩; ((with_reducible exact cL.out _ _)); clear hK K))
          refine WQ.nil ?_
          intro _ hw'
          obtain ⟨⟨dq, osq⟩, hw''⟩ := hw'
          subst hw''
          have hbw := below_regrown wr dq osq
          have hb2 := hb.trans (hbw.mono hb.size)
          have hO2 := own_below hO hbw
          generalize Go.Sort.grow (redrawn wr dq) osq = w1 at *
          have hg8 : w.heap.size ≤ w1.heap.size := hb2.size
          clear hb hO hbw
          go_wp2_with (at_builtin; refine wpList_append_own_at _ rfl _ _ 35 rfl w.heap.size 9 i0 (.string ⟨#[]⟩) 1 16 Try.underlying35 hi hz0 hz1 hz2 rfl (by decide) _ _ _ rfl (hO2.alloc _) ⟨w1.heap.size, 0, none⟩ 1 1 [.string (s.extract a8 an)] rfl rfl (cell_one_new _ _ _) ?c2 ?c3 ?c4 ?c5 ?_)
          case c2 => first | rfl | (intro u hu; simp at hu; subst hu; rfl)
          case c3 => exact hm1
          case c4 => exact hm2
          case c5 => exact Nat.le_trans hg8 (bl1 _ _).size
          intro v' w4 hO4 hg4 _ hat
          obtain ⟨a', cap', rfl⟩ := own_slice' hO4
          have hb4 := below_grown1 hb2 hO2 hg4
          have hO5 : w4.ownsRow w.heap.size 9 1 (.slice a' (q + 1) cap') (q + 1) (strC (L ++ [s.extract a8 an])) := by
            rw [strC_snocF]; exact hO4
          clear hg4 hat hO2 hO4 hb2 hm1 hm2
          go_wp2_with fail
          clear e8 e8' e4 e4' en en'
          go_roundw
          case rel => exact ⟨an, q + 1, f, L ++ [s.extract a8 an], a', cap', rfl, rfl, hr1, hr2, HQ2, HL2, HT2, hr3, hO5, hb4⟩
          case measure => simp [intOf]; exact hr4
end Go.Proofs.Ytpnbbedfbglekaa
