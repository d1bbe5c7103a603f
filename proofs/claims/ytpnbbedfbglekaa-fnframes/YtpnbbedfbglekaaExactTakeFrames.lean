/-
  laws.FnExactTakeFrames returns true for every string: impl.TakeFrames and spec.TakeFrames return the same, and each result of impl.TakeFrames owns its memory. No conditions.
-/
import Derived.Test.YtpnbbedfbglekaaTakeFrames
import Derived.Test.YtpnbbedfbglekaaMarkStr
import Derived.Test.YtpnbbedfbglekaaExactKit
namespace Go.Proofs.Ytpnbbedfbglekaa
open Go.RowKit
theorem framesN_le : ∀ (f : Nat) (s : ByteArray) (k : Nat), k ≤ s.size → totF (framesN f s k) + k ≤ s.size
  | 0, s, k, h => by simpa [framesN, totF] using h
  | f + 1, s, k, h => by
    cases hF : firstF (s.extract k s.size) with
    | none => rw [framesN_none hF]; simpa [totF] using h
    | some d =>
      have hd := (firstF_size hF).2.1
      rw [ByteArray.size_extract] at hd
      have ih := framesN_le f s (k + (8 + d.size)) (by omega)
      rw [framesN_some hF]
      simp only [totF, List.map_cons, List.sum_cons] at ih ⊢
      omega
theorem framesOf_le (s : ByteArray) : totF (framesOf s) ≤ s.size := framesN_le _ s 0 (Nat.zero_le _)
theorem framesOf_len (s : ByteArray) : (framesOf s).length * 8 ≤ s.size := Nat.le_trans (totF_len _) (framesOf_le s)
theorem markS_one (a : Option Addr) (n cap base : Nat) (xs : List Value) (w : World) (hm : n ≤ 1048576) (hO : w.ownsRow base 9 1 (.slice a n cap) n xs) :
    Calls Try.prog 25 #[.slice a n cap, .int .i64 1] w fun e w' => e = .returned (.int .i64 (1 + n)) ∧ w'.ownsRow base 9 1 (.slice a n cap) n (strC (marks 1 n)) ∧ w.grownBy w' (Value.slice a n cap).ownBlock := markStringS_any a n cap 1 base xs w hm (by omega) (by omega) hO
theorem heldS_one (a : Option Addr) (n cap : Nat) (w : World) (hm : n ≤ 1048576) (hR : Rd w w.heap.size 1 a n (strC (marks 1 n))) :
    Calls Try.prog 26 #[.slice a n cap, .int .i64 1] w fun e w' => e = .returned (.int .i64 (1 + n)) ∧ Below w.heap.size w w' := heldStringS_any a n cap 1 w hm (by omega) (by omega) hR
set_option maxRecDepth 100000 in
set_option maxHeartbeats 4000000 in
theorem walk_ExactTakeFrames (s : ByteArray) (w : World) (hs : s.size ≤ maxLen) :
    Calls Try.prog 5 #[.string s] w fun e w' => e = .returned (.bool true) ∧ Below w.heap.size w w' := by
  by_cases hbig : 1048576 < s.size
  · unfold maxLen at hs
    go_enter Try.func5, Try.ntmps5
    go_wp2
    go_ret
    exact ⟨rfl, Below.refl _ _⟩
  have CS := fun w => specTakeFrames_any s w (by omega)
  have CI := fun w => implTakeFrames_any s w (by omega)
  unfold FramesOut at CS CI
  have hl := framesOf_len s
  generalize totF (framesOf s) = z at *
  generalize framesOf s = ss at *
  generalize hln : ss.length = m at CS CI hl
  have hm : m ≤ 1048576 := by omega
  have hzz : ((z : Int) != (z : Int)) = false := by simp
  clear hln
  go_enter Try.func5, Try.ntmps5
  go_wp2_with fail
  refine (CS _).mono ?_
  rintro e w3 ⟨a0, c0, rfl, hb, hO3⟩
  have B := hb
  have V := Rd.of_own hO3
  clear hb hO3 CS
  go_wp2_with fail
  refine (CI _).mono ?_
  rintro e w4 ⟨a1, c1, rfl, hb, G⟩
  have B4 := B.trans (hb.mono B.size)
  have V4 := V.below hb (Nat.le_refl _)
  have s34 : w3.heap.size ≤ w4.heap.size := hb.size
  clear hb V
  go_wp2_with fail
  refine (eqStringS_same a1 a0 m c1 c0 ss _ hm (Rd.of_own G) (V4.more s34)).mono ?_
  rintro e w5 ⟨rfl, hb⟩
  have V5 := V4.below hb s34
  have G5 := own_below G hb
  have B5 := B4.trans (hb.mono B4.size)
  have s35 : w3.heap.size ≤ w5.heap.size := Nat.le_trans s34 hb.size
  clear hb V4 G B4 s34
  go_wp2_with fail
  refine (markS_one a1 m c1 w3.heap.size _ _ hm G5).mono ?_
  rintro e w6 ⟨rfl, G6, g6⟩
  have V6 := V5.gb_own g6 G5 (Nat.le_refl _) s35
  have B6 := B5.trans (gb_below g6 B5.size (fun g e => by have := (own_ge G5 g e).1; have := B.size; omega))
  have s36 : w3.heap.size ≤ w6.heap.size := Nat.le_trans s35 g6.size
  have Z6 := Rd.of_own G6
  clear V5 G5 B5 g6 s35 G6
  go_wp2_with fail
  refine (heldS_one a1 m c1 _ hm Z6).mono ?_
  rintro e w7 ⟨rfl, hb⟩
  have V7 := V6.below hb s36
  have Z7 := (Z6.below hb (Nat.le_refl _)).more hb.size
  have B7 := B6.trans (hb.mono B6.size)
  have s37 : w3.heap.size ≤ w7.heap.size := Nat.le_trans s36 hb.size
  clear hb V6 Z6 B6 s36
  go_wp2_with fail
  refine (CI _).mono ?_
  rintro e w8 ⟨a2, c2, rfl, hb, hO8⟩
  have V8 := V7.below hb s37
  have Z8 := (Z7.below hb (Nat.le_refl _)).more hb.size
  have B8 := B7.trans (hb.mono B7.size)
  have s38 : w3.heap.size ≤ w8.heap.size := Nat.le_trans s37 hb.size
  have H8 := Rd.of_own hO8
  clear hb V7 Z7 B7 s37 hO8 CI
  go_wp2_with fail
  refine (eqStringS_same a2 a0 m c2 c0 ss _ hm H8 (V8.more s38)).mono ?_
  rintro e w9 ⟨rfl, hb⟩
  have Z9 := (Z8.below hb (Nat.le_refl _)).more hb.size
  have B9 := B8.trans (hb.mono B8.size)
  clear hb V8 Z8 B8 s38 H8
  go_wp2_with fail
  refine (heldS_one a1 m c1 _ hm Z9).mono ?_
  rintro e w10 ⟨rfl, hb⟩
  have B10 := B9.trans (hb.mono B9.size)
  clear hb Z9 B9
  go_wp2_with fail
  go_ret
  exact ⟨rfl, B10⟩
end Go.Proofs.Ytpnbbedfbglekaa
