/-
  laws.FnFrames returns true for every code. No conditions.
-/
import Derived.Test.YtpnbbedfbglekaaOpenBytes
import Derived.Test.YtpnbbedfbglekaaDrawFrames
import Derived.Test.YtpnbbedfbglekaaFramesMath
import Derived.Test.YtpnbbedfbglekaaExactTakeFrames
import Derived.Test.YtpnbbedfbglekaaWQ
import Derived.Test.YtpnbbedfbglekaaSame
namespace Go.Proofs.Ytpnbbedfbglekaa
open Go.RowKit
set_option maxRecDepth 100000 in
set_option maxHeartbeats 1000000 in
theorem sameTextsF_same (a b : Option Addr) (n ca cb : Nat) (ss : List ByteArray) (w : World) (hm : n ≤ 1048576) (hA : Rd w w.heap.size 1 a n (strC ss)) (hB : Rd w w.heap.size 1 b n (strC ss)) :
    Calls Try.prog 31 #[.slice a n ca, .slice b n cb] w fun e w' => e = .returned (.bool true) ∧ Below w.heap.size w w' := by
  go_enter Try.func31, Try.ntmps31
  go_wp2
  go_loopw [5] (fun i wr => ∃ k : Nat, k ≤ n ∧ i = .int .i64 k ∧ Below w.heap.size w wr) (fun i _ => n - (intOf i).toNat)
  case atStart => exact ⟨0, Nat.zero_le _, rfl, Below.refl _ _⟩
  case round =>
    obtain ⟨k, hk, rfl, hb⟩ := hrel
    by_cases hlt : k < n
    · obtain ⟨b1, o1, r, rfl, hB1, hr, c0⟩ := (hA.below hb (Nat.le_refl _)).str hlt
      obtain ⟨b2, o2, r', rfl, hB2, hr', d0⟩ := (hB.below hb (Nat.le_refl _)).str hlt
      obtain rfl : r = r' := by rw [hr] at hr'; injection hr'
      clear hr hr'
      go_wp2_with fail
      go_quiet (fail)
      have hb1 := below_drewN hb nq
      generalize wr.drewN nq = w1 at *
      clear c0 d0
      go_wp2_with fail
      go_roundw
      case rel => exact ⟨k + 1, by omega, by go_num, hb1⟩
      case measure => simp [intOf]; omega
    · go_wp2_with fail
      go_ret
      exact ⟨rfl, hb⟩
theorem Rd.headS {w : World} {B n k : Nat} {a : Option Addr} {ss : List ByteArray} (h : Rd w B 1 a n (strC ss)) (hk : k ≤ n) : Rd w B 1 a k (strC (ss.take k)) := by
  have hl : ss.length = n := h.strs_length
  refine ⟨by simp [strC]; omega, fun hp => ?_⟩
  obtain ⟨b, off, e, hb, hc⟩ := h.2 (by omega)
  refine ⟨b, off, e, hb, fun j u hu => hc j u ?_⟩
  have hj : j < k := by
    have := (List.getElem?_eq_some_iff.1 hu).1
    simp [strC] at this
    omega
  unfold strC at hu ⊢
  rw [List.map_take, List.getElem?_take_of_lt hj] at hu
  exact hu
theorem cap_leF {w : World} {base e s n c : Nat} {a : Option Addr} {xs : List Value} (h : w.ownsRow base e s (.slice a n c) n xs) : n ≤ c := by
  cases a with
  | none =>
    rcases h.2 with ⟨h0, h1⟩ | ⟨g', c', cur, hv, _⟩
    · first | omega | (injection h0; omega)
    · injection hv with e1; cases e1
  | some x =>
    rcases h.2 with ⟨h0, _⟩ | ⟨g', c', cur, hv, _, _, hnc, _⟩
    · cases h0
    · injection hv with _ _ e3; rw [e3]; exact hnc
theorem IsBy.farF {w w' : World} {a : Option Addr} {n : Nat} (h : IsBy w w.heap.size a n) (hb : Below w.heap.size w w') : IsBy w' w'.heap.size a n := by
  obtain ⟨xs, h1, h2⟩ := h
  exact ⟨xs, (h1.below hb (Nat.le_refl _)).more hb.size, h2⟩
theorem frameS_of {d : ByteArray} (h : d.size ≤ 100000) : frameS d = frameB d := if_pos h
set_option maxRecDepth 100000 in
set_option maxHeartbeats 4000000 in
theorem walk_Frames (a : Option Addr) (len cap : Nat) (xs : List Value) (w : World) (hI : IsCode w a len cap xs) :
    Calls Try.prog 7 #[.slice a len cap] w fun e w' => e = .returned (.bool true) ∧ Below w.heap.size w w' := by
  have hI0 := hI.by_
  obtain ⟨hlc, hcm, _, _⟩ := hI
  go_enter Try.func7, Try.ntmps7
  go_wp2_with fail
  refine (big_any a len cap w (by omega)).mono ?_
  rintro e w0 ⟨rfl, rfl⟩
  by_cases hbig : 1048576 < len
  · have hd : decide (1048576 < len) = true := by simpa using hbig
    rw [hd]
    go_wp2_with fail
    go_ret
    exact ⟨rfl, Below.refl _ _⟩
  have hd : decide (1048576 < len) = false := by simpa using hbig
  rw [hd]
  go_wp2_with fail
  refine (drawTakeFrames_any a len cap w (by omega) hI0).mono ?_
  rintro e w1 ⟨s, hs, rfl, hb⟩
  have B := hb
  clear hb
  have hF := fun d (h : d ∈ framesOf s) => framesS_short _ _ d (by rw [framesOf_S] at h; exact h)
  have hcat : concatF (framesOf s) = s.extract 0 (totF (framesOf s)) := by rw [framesOf_S]; exact concat_frames _ _
  have hle := framesOf_le s
  have hln := framesOf_len s
  have CI : ∀ w, Calls Try.prog 23 #[.string s] w (fun e w' => ∃ a c, e = .returned (.tuple #[.slice a (framesOf s).length c, .int .i64 (totF (framesOf s))]) ∧ Below w.heap.size w w' ∧ w'.ownsRow w.heap.size 9 1 (.slice a (framesOf s).length c) (framesOf s).length (strC (framesOf s))) := fun w => implTakeFrames_any s w (by omega)
  have CS : ∀ w, Calls Try.prog 22 #[.string s] w (fun e w' => ∃ a c, e = .returned (.tuple #[.slice a (framesOf s).length c, .int .i64 (totF (framesOf s))]) ∧ Below w.heap.size w w' ∧ w'.ownsRow w.heap.size 9 1 (.slice a (framesOf s).length c) (framesOf s).length (strC (framesOf s))) := fun w => specTakeFrames_any s w (by omega)
  generalize framesOf s = L at *
  have hcs := concatF_size L
  generalize totF L = z at *
  generalize hm : L.length = m at *
  have HM := Lib.hid hm
  have HF := Lib.hid hF
  have HC := Lib.hid hcat
  clear hm hF hcat
  have hzz : ((z : Int) != (z : Int)) = false := by simp
  have hzs : decide ((s.size : Int) < (z : Int)) = false := decide_eq_false (by omega)
  have hzs2 : decide (s.size < z) = false := decide_eq_false (by omega)
  go_wp2_with fail
  refine (CI _).mono ?_
  rintro e w2 ⟨la, lc, rfl, hb, hO⟩
  replace B := B.trans (hb.mono B.size)
  clear hb
  have X := Rd.of_own hO
  have hcap := cap_leF hO
  clear hO
  go_wp2_with fail
  refine (CS _).mono ?_
  rintro e w3 ⟨ta, tc, rfl, hb, hO⟩
  replace B := B.trans (hb.mono B.size)
  replace X := (X.below hb (Nat.le_refl _)).more hb.size
  clear hb
  have T := Rd.of_own hO
  clear hO CI CS
  go_wp2_with fail
  refine (sameTextsF_same la ta m lc tc L w3 (by omega) X T).mono ?_
  rintro e w4 ⟨rfl, hb⟩
  replace B := B.trans (hb.mono B.size)
  replace X := (X.below hb (Nat.le_refl _)).more hb.size
  replace T := (T.below hb (Nat.le_refl _)).more hb.size
  clear hb
  clear T
  go_wp2_with fail
  go_loopw [8, 9] (fun v i wr => ∃ (k : Nat) (x : ByteArray), k ≤ m ∧ i = .int .i64 k ∧ v = .string x ∧ x.size ≤ k * 100008 ∧ Hid (concatF (L.take k) = x) ∧ Below w4.heap.size w4 wr) (fun _ i _ => m - (intOf i).toNat)
  case atStart => exact ⟨0, ⟨#[]⟩, Nat.zero_le _, rfl, rfl, Nat.zero_le _, Lib.hid rfl, Below.refl _ _⟩
  case round =>
    obtain ⟨k, x, hk, rfl, rfl, hxs, HX, hb⟩ := hrel
    by_cases hlt : k < m
    · obtain ⟨b1, o1, d, rfl, hB1, hd, c0⟩ := (X.below hb (Nat.le_refl _)).str hlt
      have hds := HF.out d (List.mem_of_getElem? hd)
      have HX2 := Lib.hid (show concatF (L.take (k + 1)) = x ++ frameB d by rw [List.take_add_one, hd, Option.toList_some, concatF_snoc, HX.out])
      have CF : ∀ w : World, Calls Try.prog 21 #[.string d] w (fun e w' => e = .returned (.string (frameB d)) ∧ Below w.heap.size w w') := fun w => by
        have := implFrameOf_any d w (by unfold maxLen; omega)
        rw [frameS_of hds] at this
        exact this
      have hfz := frameB_size d
      have hno : ¬ 9223372036854775807 < x.size + (frameB d).size := by omega
      have hxs2 : (x ++ frameB d).size ≤ (k + 1) * 100008 := by rw [ByteArray.size_append]; omega
      generalize frameB d = q at *
      clear hd HX hds hfz
      go_wp2_with fail
      refine (CF _).mono ?_
      rintro e v1 ⟨rfl, hb1⟩
      have hb2 := hb.trans (hb1.mono hb.size)
      clear hb hb1 CF c0
      go_wp2_with fail
      go_roundw
      case rel => exact ⟨k + 1, x ++ q, by omega, by go_num, rfl, hxs2, HX2, hb2⟩
      case measure => simp [intOf]; omega
    · obtain rfl : k = m := by omega
      have hxL : concatF L = x := by rw [← HX.out, List.take_of_length_le (by rw [HM.out]; omega)]
      have B1 := B.trans (hb.mono B.size)
      have X1 := (X.below hb (Nat.le_refl _)).more hb.size
      clear B X hb HX hxs
      go_wp2_with fail
      refine (drawFrameOf_any a len cap wr (by omega) (hI0.farF B1)).mono ?_
      rintro e w9 ⟨t, ht, rfl, hb⟩
      replace B1 := B1.trans (hb.mono B1.size)
      replace X1 := (X1.below hb (Nat.le_refl _)).more hb.size
      clear hb
      have hxz : x.size = z := by rw [← hxL, hcs]
      have hxe : x = s.extract 0 z := by rw [← hxL, HC.out]
      have CF : ∀ w : World, Calls Try.prog 21 #[.string t] w (fun e w' => e = .returned (.string (frameB t)) ∧ Below w.heap.size w w') := fun w => by
        have := implFrameOf_any t w (by unfold maxLen; omega)
        rw [frameS_of (by omega)] at this
        exact this
      have hall : ∀ d ∈ L ++ [t], d.size ≤ 100000 := fun d hd => by
        rcases List.mem_append.1 hd with h | h
        · exact HF.out d h
        · rw [List.mem_singleton] at h; subst h; omega
      have hy : framesOf (x ++ frameB t) = L ++ [t] := by rw [← hxL, ← concatF_snoc, frames_concat hall]
      have hyz : (x ++ frameB t).size ≤ 1073741824 := by rw [ByteArray.size_append, frameB_size]; omega
      obtain ⟨N, hN⟩ : ∃ q, q = z + (8 + t.size) := ⟨_, rfl⟩
      have CY : ∀ w, Calls Try.prog 23 #[.string (x ++ frameB t)] w (fun e w' => ∃ a c, e = .returned (.tuple #[.slice a (k + 1) c, .int .i64 N]) ∧ Below w.heap.size w w' ∧ w'.ownsRow w.heap.size 9 1 (.slice a (k + 1) c) (k + 1) (strC (L ++ [t]))) := fun w => by
        have := implTakeFrames_any (x ++ frameB t) w hyz
        unfold FramesOut at this
        have e1 : (L ++ [t]).length = k + 1 := by rw [List.length_append, HM.out]; rfl
        have e2 : totF (L ++ [t]) = N := by rw [totF_snoc, ← concatF_size, hxL, hxz, hN]
        rw [hy, e1, e2] at this
        exact this
      have HNq := Lib.hid hN
      clear hN
      obtain ⟨kk, hkk⟩ : ∃ q, q = len % (z + 1) := ⟨_, rfl⟩
      have hkz : kk ≤ z := by
        have := Nat.mod_lt len (show 0 < z + 1 by omega)
        omega
      obtain ⟨j, hj, ecut⟩ := frames_cut (L := L) kk HF.out
      rw [hxL] at ecut
      rw [HM.out] at hj
      have CZ : ∀ w, Calls Try.prog 23 #[.string (x.extract 0 kk)] w (fun e w' => ∃ a c zz, e = .returned (.tuple #[.slice a j c, .int .i64 zz]) ∧ Below w.heap.size w w' ∧ w'.ownsRow w.heap.size 9 1 (.slice a j c) j (strC (L.take j))) := fun w => by
        refine (implTakeFrames_any (x.extract 0 kk) w (by rw [ByteArray.size_extract]; omega)).mono ?_
        rintro e w' ⟨a, c, rfl, h1, h2⟩
        have e1 : (L.take j).length = j := by rw [List.length_take, HM.out]; omega
        rw [ecut, e1] at h2 ⊢
        exact ⟨a, c, _, rfl, h1, h2⟩
      have HE := Lib.hid (show (x.toList == (s.extract 0 z).toList) = true by rw [← hxe]; simp)
      have hfz := frameB_size t
      have hno : ¬ 9223372036854775807 < x.size + (frameB t).size := by omega
      have hnz : ¬ (z : Int) + 1 = 0 := by omega
      have hmod : (len : Int) % ((z : Int) + 1) = (kk : Int) := by subst hkk; simp
      have hk1 : (kk : Int) ≤ (z : Int) := by omega
      have hk2 : (0 : Int) ≤ (kk : Int) := by omega
      have HLt := Lib.hid (show (L ++ [t])[k]? = some t by rw [List.getElem?_append_right (by rw [HM.out]; exact Nat.le_refl _), HM.out, Nat.sub_self]; rfl)
      clear hxL hall hy hyz ecut hcs hxe HC HF hkk
      generalize frameB t = ft at *
      go_wp2_with fail
      refine (CF _).mono ?_
      rintro e w10 ⟨rfl, hb⟩
      replace B1 := B1.trans (hb.mono B1.size)
      replace X1 := (X1.below hb (Nat.le_refl _)).more hb.size
      clear hb
      go_wp2_with fail
      refine (CY _).mono ?_
      rintro e w11 ⟨ya, yc, rfl, hb, hO⟩
      replace B1 := B1.trans (hb.mono B1.size)
      replace X1 := (X1.below hb (Nat.le_refl _)).more hb.size
      have Y1 := Rd.of_own hO
      clear hb hO CY
      go_wp2_with fail
      refine (CZ _).mono ?_
      rintro e w12 ⟨fa, fc, zz, rfl, hb, hO⟩
      replace B1 := B1.trans (hb.mono B1.size)
      replace X1 := (X1.below hb (Nat.le_refl _)).more hb.size
      replace Y1 := (Y1.below hb (Nat.le_refl _)).more hb.size
      have Z1 := Rd.of_own hO
      clear hb hO CZ
      obtain ⟨b9, o9, u, rfl, hB9, hu, c9⟩ := Y1.str (show k < k + 1 by omega)
      obtain rfl : t = u := by rw [HLt.out] at hu; injection hu
      have he := HE.out
      have hj1 : decide ((j : Int) ≤ (k : Int)) = true := decide_eq_true (by omega)
      have hj2 : decide (j ≤ k) = true := decide_eq_true hj
      have hj3 : (j : Int) ≤ (lc : Int) := by omega
      have hj4 : (0 : Int) ≤ (j : Int) := by omega
      have hz1 : (z : Int) ≤ (s.size : Int) := by omega
      have hz2 : (0 : Int) ≤ (z : Int) := by omega
      have hk9 : (k : Int) < ((k + 1 : Nat) : Int) := by omega
      have W1 := Lib.hid (show wrap64 ((k : Int) + 1) = (k : Int) + 1 ∧ IntKind.i64.wrap ((k : Int) + 1) = (k : Int) + 1 from ⟨IntWalk.wrap64_in _ (by omega), IntWalk.i64_in _ (by omega)⟩)
      have W2 := Lib.hid (show wrap64 ((z : Int) + (ft.size : Int)) = (N : Int) ∧ IntKind.i64.wrap ((z : Int) + (ft.size : Int)) = (N : Int) from by
        have hN := HNq.out
        exact ⟨(IntWalk.wrap64_in _ (by omega)).trans (by omega), (IntWalk.i64_in _ (by omega)).trans (by omega)⟩)
      clear Y1 HLt hu hB9 HE hfz hno hnz hmod hk1 hk2 hkz hxz
      obtain ⟨e1, e1'⟩ := W1.out
      obtain ⟨e2, e2'⟩ := W2.out
      have htt : (t.toList == t.toList) = true := by simp
      go_wp2_with fail
      refine (CF _).mono ?_
      rintro e w13 ⟨rfl, hb⟩
      replace B1 := B1.trans (hb.mono B1.size)
      replace X1 := (X1.below hb (Nat.le_refl _)).more hb.size
      replace Z1 := (Z1.below hb (Nat.le_refl _)).more hb.size
      clear hb CF c9
      go_wp2_with fail
      refine (sameTextsF_same fa la j fc lc (L.take j) w13 (by omega) Z1 (X1.headS hj)).mono ?_
      rintro e w14 ⟨rfl, hb⟩
      have B9 := B1.trans (hb.mono B1.size)
      clear hb B1 X1 Z1 e1 e1' e2 e2'
      go_wp2_with fail
      go_ret
      exact ⟨rfl, B9⟩
end Go.Proofs.Ytpnbbedfbglekaa
