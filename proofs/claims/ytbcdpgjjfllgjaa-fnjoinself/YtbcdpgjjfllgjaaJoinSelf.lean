/-
  laws.FnJoinSelf returns true for every code. No conditions.
-/
import Derived.Test.YtbcdpgjjfllgjaaOpenBytes
import Derived.Test.YtbcdpgjjfllgjaaDrawJoin
import Derived.Test.YtbcdpgjjfllgjaaJoinLaws
namespace Go.Proofs.Ytbcdpgjjfllgjaa
open Go.RowKit
set_option maxRecDepth 100000 in
set_option maxHeartbeats 4000000 in
theorem walk_JoinSelf (a : Option Addr) (len cap : Nat) (xs : List Value) (w : World) (hI : IsCode w a len cap xs) :
    Calls Try.prog 8 #[.slice a len cap] w fun e w' => e = .returned (.bool true) ∧ Below w.heap.size w w' := by
  have hI0 := hI.by_
  obtain ⟨hlc, hcm, _, _⟩ := hI
  go_enter Try.func8, Try.ntmps8
  go_wp2_with fail
  refine (big_any a len cap w (by omega)).mono ?_
  rintro e w0 ⟨rfl, rfl⟩
  by_cases hbig : 1048576 < len
  · have hd : decide (1048576 < len) = true := by simpa using hbig
    rw [hd]
    go_wp2_with fail
    go_ret
    exact ⟨rfl, Below.refl _ _⟩
  have hd : decide (1048576 < len) = false := by simpa using hbig
  rw [hd]
  go_wp2_with fail
  refine (drawJoinOf_any a len cap w (by omega) hI0).mono ?_
  rintro e w1 ⟨l, lb, lc, m, mb, mc, z, hll, hok, hml, hmok, rfl, hO, hP, hb⟩
  have B := hb
  clear hb
  have L := Rd.of_own hO
  clear hO hP hml hmok
  cases hq : rowsOk l
  · have hB : ∀ n, joinOfB l l n = false := fun n => by unfold joinOfB; rw [hq]; rfl
    have hS : ∀ n, joinOfS l l n = [] := fun n => joinOf_no (hB n)
    have CI : ∀ w : World, Rd w w.heap.size 3 (some ⟨lb, 0, none⟩) l.length (flat l) → Calls Try.prog 18 #[.slice (some ⟨lb, 0, none⟩) l.length lc, .slice (some ⟨lb, 0, none⟩) l.length lc, .int .i64 5] w (fun e w' => ∃ a c, e = .returned (.tuple #[.slice a 0 c, .bool false]) ∧ Below w.heap.size w w' ∧ w'.ownsRow w.heap.size 41 5 (.slice a 0 c) 0 (flatP [])) := fun w h => by
      have := implJoinOf_any (some ⟨lb, 0, none⟩) l.length lc l (some ⟨lb, 0, none⟩) l.length lc l 5 w (by omega) hok h (by omega) hok h
      unfold PairsB at this
      rw [hS, hB] at this
      exact this
    have CS : ∀ w : World, Rd w w.heap.size 3 (some ⟨lb, 0, none⟩) l.length (flat l) → Calls Try.prog 16 #[.slice (some ⟨lb, 0, none⟩) l.length lc, .slice (some ⟨lb, 0, none⟩) l.length lc, .int .i64 5] w (fun e w' => ∃ a c, e = .returned (.tuple #[.slice a 0 c, .bool false]) ∧ Below w.heap.size w w' ∧ w'.ownsRow w.heap.size 41 5 (.slice a 0 c) 0 (flatP [])) := fun w h => by
      have := specJoinOf_any (some ⟨lb, 0, none⟩) l.length lc l (some ⟨lb, 0, none⟩) l.length lc l 5 w (by omega) hok h (by omega) hok h
      unfold PairsB at this
      rw [hS, hB] at this
      exact this
    clear hB hS hq
    go_wp2_with fail
    refine (CI w1 L).mono ?_
    rintro e w2 ⟨pa, pc, rfl, hb, hO⟩
    replace B := B.trans (hb.mono B.size)
    replace L := (L.below hb (Nat.le_refl _)).more hb.size
    clear hb
    have P := Rd.of_own hO
    clear hO
    go_wp2_with fail
    refine (CS w2 L).mono ?_
    rintro e w3 ⟨qa, qc, rfl, hb, hO⟩
    replace B := B.trans (hb.mono B.size)
    replace L := (L.below hb (Nat.le_refl _)).more hb.size
    replace P := (P.below hb (Nat.le_refl _)).more hb.size
    clear hb
    have Q := Rd.of_own hO
    clear hO
    go_wp2_with fail
    refine (samePairs_same pa qa 0 pc qc [] w3 (by omega) P Q).mono ?_
    rintro e w4 ⟨rfl, hb⟩
    replace B := B.trans (hb.mono B.size)
    replace L := (L.below hb (Nat.le_refl _)).more hb.size
    replace P := (P.below hb (Nat.le_refl _)).more hb.size
    replace Q := (Q.below hb (Nat.le_refl _)).more hb.size
    clear hb
    go_wp2_with fail
    refine (samePairs_same pa qa 0 pc qc [] w4 (by omega) P Q).mono ?_
    rintro e w5 ⟨rfl, hb⟩
    replace B := B.trans (hb.mono B.size)
    replace L := (L.below hb (Nat.le_refl _)).more hb.size
    replace P := (P.below hb (Nat.le_refl _)).more hb.size
    replace Q := (Q.below hb (Nat.le_refl _)).more hb.size
    clear hb
    go_wp2_with fail
    go_ret
    exact ⟨rfl, B⟩
  · have hB : ∀ n, kindB n = true → joinOfB l l n = true := fun n h => by unfold joinOfB; rw [hq, h]; rfl
    have hE := lonelyL_length l l
    have e5 : joinOfS l l 5 = lonelyL l l := by rw [joinOf_yes (hB 5 rfl)]; exact self_semi l
    have e6 : joinOfS l l 6 = [] := by rw [joinOf_yes (hB 6 rfl)]; exact self_anti l
    have e4 : joinOfS l l 4 = l5J 1 l l := by rw [joinOf_yes (hB 4 rfl)]; exact self_full l
    have e1 : joinOfS l l 1 = l5J 1 l l := joinOf_yes (hB 1 rfl)
    obtain ⟨N, hN⟩ : ∃ N, (l5J 1 l l).length = N := ⟨_, rfl⟩
    have hN1 : l.length ≤ N := by rw [← hN]; exact self_many l
    have hN2 : N ≤ 4194304 := by rw [← hN]; exact l5J_le (by omega) (by omega)
    have CI5 : ∀ w : World, Rd w w.heap.size 3 (some ⟨lb, 0, none⟩) l.length (flat l) → Calls Try.prog 18 #[.slice (some ⟨lb, 0, none⟩) l.length lc, .slice (some ⟨lb, 0, none⟩) l.length lc, .int .i64 5] w (fun e w' => ∃ a c, e = .returned (.tuple #[.slice a l.length c, .bool true]) ∧ Below w.heap.size w w' ∧ w'.ownsRow w.heap.size 41 5 (.slice a l.length c) l.length (flatP (lonelyL l l))) := fun w h => by
      have := implJoinOf_any (some ⟨lb, 0, none⟩) l.length lc l (some ⟨lb, 0, none⟩) l.length lc l 5 w (by omega) hok h (by omega) hok h
      unfold PairsB at this
      rw [e5, hB 5 rfl, hE] at this
      exact this
    have CS : ∀ w : World, Rd w w.heap.size 3 (some ⟨lb, 0, none⟩) l.length (flat l) → Calls Try.prog 16 #[.slice (some ⟨lb, 0, none⟩) l.length lc, .slice (some ⟨lb, 0, none⟩) l.length lc, .int .i64 5] w (fun e w' => ∃ a c, e = .returned (.tuple #[.slice a l.length c, .bool true]) ∧ Below w.heap.size w w' ∧ w'.ownsRow w.heap.size 41 5 (.slice a l.length c) l.length (flatP (lonelyL l l))) := fun w h => by
      have := specJoinOf_any (some ⟨lb, 0, none⟩) l.length lc l (some ⟨lb, 0, none⟩) l.length lc l 5 w (by omega) hok h (by omega) hok h
      unfold PairsB at this
      rw [e5, hB 5 rfl, hE] at this
      exact this
    have CI6 : ∀ w : World, Rd w w.heap.size 3 (some ⟨lb, 0, none⟩) l.length (flat l) → Calls Try.prog 18 #[.slice (some ⟨lb, 0, none⟩) l.length lc, .slice (some ⟨lb, 0, none⟩) l.length lc, .int .i64 6] w (fun e w' => ∃ a c, e = .returned (.tuple #[.slice a 0 c, .bool true]) ∧ Below w.heap.size w w' ∧ w'.ownsRow w.heap.size 41 5 (.slice a 0 c) 0 (flatP [])) := fun w h => by
      have := implJoinOf_any (some ⟨lb, 0, none⟩) l.length lc l (some ⟨lb, 0, none⟩) l.length lc l 6 w (by omega) hok h (by omega) hok h
      unfold PairsB at this
      rw [e6, hB 6 rfl] at this
      exact this
    have CI4 : ∀ w : World, Rd w w.heap.size 3 (some ⟨lb, 0, none⟩) l.length (flat l) → Calls Try.prog 18 #[.slice (some ⟨lb, 0, none⟩) l.length lc, .slice (some ⟨lb, 0, none⟩) l.length lc, .int .i64 4] w (fun e w' => ∃ a c, e = .returned (.tuple #[.slice a N c, .bool true]) ∧ Below w.heap.size w w' ∧ w'.ownsRow w.heap.size 41 5 (.slice a N c) N (flatP (l5J 1 l l))) := fun w h => by
      have := implJoinOf_any (some ⟨lb, 0, none⟩) l.length lc l (some ⟨lb, 0, none⟩) l.length lc l 4 w (by omega) hok h (by omega) hok h
      unfold PairsB at this
      rw [e4, hB 4 rfl, hN] at this
      exact this
    have CI1 : ∀ w : World, Rd w w.heap.size 3 (some ⟨lb, 0, none⟩) l.length (flat l) → Calls Try.prog 18 #[.slice (some ⟨lb, 0, none⟩) l.length lc, .slice (some ⟨lb, 0, none⟩) l.length lc, .int .i64 1] w (fun e w' => ∃ a c, e = .returned (.tuple #[.slice a N c, .bool true]) ∧ Below w.heap.size w w' ∧ w'.ownsRow w.heap.size 41 5 (.slice a N c) N (flatP (l5J 1 l l))) := fun w h => by
      have := implJoinOf_any (some ⟨lb, 0, none⟩) l.length lc l (some ⟨lb, 0, none⟩) l.length lc l 1 w (by omega) hok h (by omega) hok h
      unfold PairsB at this
      rw [e1, hB 1 rfl, hN] at this
      exact this
    clear e1 e4 e5 e6 hB hq hE hN
    generalize lonelyL l l = E at *
    generalize l5J 1 l l = G at *
    go_wp2_with fail
    refine (CI5 w1 L).mono ?_
    rintro e w2 ⟨pa, pc, rfl, hb, hO⟩
    replace B := B.trans (hb.mono B.size)
    replace L := (L.below hb (Nat.le_refl _)).more hb.size
    clear hb
    have P := Rd.of_own hO
    clear hO
    go_wp2_with fail
    refine (CS w2 L).mono ?_
    rintro e w3 ⟨qa, qc, rfl, hb, hO⟩
    replace B := B.trans (hb.mono B.size)
    replace L := (L.below hb (Nat.le_refl _)).more hb.size
    replace P := (P.below hb (Nat.le_refl _)).more hb.size
    clear hb
    have Q := Rd.of_own hO
    clear hO
    go_wp2_with fail
    refine (samePairs_same pa qa l.length pc qc E w3 (by omega) P Q).mono ?_
    rintro e w4 ⟨rfl, hb⟩
    replace B := B.trans (hb.mono B.size)
    replace L := (L.below hb (Nat.le_refl _)).more hb.size
    replace P := (P.below hb (Nat.le_refl _)).more hb.size
    replace Q := (Q.below hb (Nat.le_refl _)).more hb.size
    clear hb
    clear P
    clear Q
    go_wp2_with fail
    refine (CI6 w4 L).mono ?_
    rintro e w5 ⟨na, nc, rfl, hb, hO⟩
    replace B := B.trans (hb.mono B.size)
    replace L := (L.below hb (Nat.le_refl _)).more hb.size
    clear hb
    clear hO
    go_wp2_with fail
    refine (CI1 w5 L).mono ?_
    rintro e w6 ⟨ia, ic, rfl, hb, hO⟩
    replace B := B.trans (hb.mono B.size)
    replace L := (L.below hb (Nat.le_refl _)).more hb.size
    clear hb
    have I := Rd.of_own hO
    clear hO
    go_wp2_with fail
    refine (CI4 w6 L).mono ?_
    rintro e w7 ⟨fa, fc, rfl, hb, hO⟩
    replace B := B.trans (hb.mono B.size)
    replace L := (L.below hb (Nat.le_refl _)).more hb.size
    replace I := (I.below hb (Nat.le_refl _)).more hb.size
    clear hb
    have F := Rd.of_own hO
    clear hO CI1 CI4 CI5 CI6 CS
    have hN3 : decide ((l.length : Int) ≤ (N : Int)) = true := by simpa using hN1
    have hN4 : decide (l.length ≤ N) = true := by simpa using hN1
    go_wp2_with fail
    refine (samePairs_same fa ia N fc ic G w7 hN2 F I).mono ?_
    rintro e w8 ⟨rfl, hb⟩
    replace B := B.trans (hb.mono B.size)
    replace L := (L.below hb (Nat.le_refl _)).more hb.size
    replace I := (I.below hb (Nat.le_refl _)).more hb.size
    replace F := (F.below hb (Nat.le_refl _)).more hb.size
    clear hb
    go_wp2_with fail
    go_ret
    exact ⟨rfl, B⟩
end Go.Proofs.Ytbcdpgjjfllgjaa
