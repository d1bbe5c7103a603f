/-
  laws.FnJoinNone returns true for every code. No conditions.
-/
import Derived.Test.YtbcdpgjjfllgjaaOpenBytes
import Derived.Test.YtbcdpgjjfllgjaaDrawJoin
import Derived.Test.YtbcdpgjjfllgjaaJoinLaws
namespace Go.Proofs.Ytbcdpgjjfllgjaa
open Go.RowKit
theorem rowsOk_nil5 : rowsOk [] = true := rfl
set_option maxRecDepth 100000 in
set_option maxHeartbeats 4000000 in
theorem walk_JoinNone (a : Option Addr) (len cap : Nat) (xs : List Value) (w : World) (hI : IsCode w a len cap xs) :
    Calls Try.prog 7 #[.slice a len cap] w fun e w' => e = .returned (.bool true) ∧ Below w.heap.size w w' := by
  have hI0 := hI.by_
  obtain ⟨hlc, hcm, _, _⟩ := hI
  go_enter Try.func7, Try.ntmps7
  go_wp2_with fail
  refine (big_any a len cap w (by omega)).mono ?_
  rintro e w0 ⟨rfl, rfl⟩
  by_cases hbig : 1048576 < len
  · have hd : decide (1048576 < len) = true := by simpa using hbig
    rw [hd]
    go_wp2_with fail
    go_ret
    exact ⟨rfl, Below.refl _ _⟩
  have hd : decide (1048576 < len) = false := by simpa using hbig
  rw [hd]
  go_wp2_with fail
  refine (drawJoinOf_any a len cap w (by omega) hI0).mono ?_
  rintro e w1 ⟨l, lb, lc, m, mb, mc, z, hll, hok, hml, hmok, rfl, hO, hP, hb⟩
  have B := hb
  clear hb
  have L := Rd.of_own hO
  clear hO hP hml hmok
  cases hq : rowsOk l
  · have hB : ∀ n, joinOfB l [] n = false := fun n => by unfold joinOfB; rw [hq]; rfl
    have hS : ∀ n, joinOfS l [] n = [] := fun n => joinOf_no (hB n)
    have CI : ∀ w : World, Rd w w.heap.size 3 (some ⟨lb, 0, none⟩) l.length (flat l) → Calls Try.prog 18 #[.slice (some ⟨lb, 0, none⟩) l.length lc, .slice none 0 0, .int .i64 2] w (fun e w' => ∃ a c, e = .returned (.tuple #[.slice a 0 c, .bool false]) ∧ Below w.heap.size w w' ∧ w'.ownsRow w.heap.size 41 5 (.slice a 0 c) 0 (flatP [])) := fun w h => by
      have := implJoinOf_any (some ⟨lb, 0, none⟩) l.length lc l none 0 0 [] 2 w (by omega) hok h (by omega) (by simp) (rd_nil3 _ _)
      unfold PairsB at this
      rw [hS, hB] at this
      exact this
    have CS : ∀ w : World, Rd w w.heap.size 3 (some ⟨lb, 0, none⟩) l.length (flat l) → Calls Try.prog 16 #[.slice (some ⟨lb, 0, none⟩) l.length lc, .slice none 0 0, .int .i64 2] w (fun e w' => ∃ a c, e = .returned (.tuple #[.slice a 0 c, .bool false]) ∧ Below w.heap.size w w' ∧ w'.ownsRow w.heap.size 41 5 (.slice a 0 c) 0 (flatP [])) := fun w h => by
      have := specJoinOf_any (some ⟨lb, 0, none⟩) l.length lc l none 0 0 [] 2 w (by omega) hok h (by omega) (by simp) (rd_nil3 _ _)
      unfold PairsB at this
      rw [hS, hB] at this
      exact this
    clear hB hS hq
    go_wp2_with fail
    refine (CI w1 L).mono ?_
    rintro e w2 ⟨pa, pc, rfl, hb, hO⟩
    replace B := B.trans (hb.mono B.size)
    replace L := (L.below hb (Nat.le_refl _)).more hb.size
    clear hb
    have P := Rd.of_own hO
    clear hO
    go_wp2_with fail
    refine (CS w2 L).mono ?_
    rintro e w3 ⟨qa, qc, rfl, hb, hO⟩
    replace B := B.trans (hb.mono B.size)
    replace L := (L.below hb (Nat.le_refl _)).more hb.size
    replace P := (P.below hb (Nat.le_refl _)).more hb.size
    clear hb
    have Q := Rd.of_own hO
    clear hO
    go_wp2_with fail
    refine (samePairs_same pa qa 0 pc qc [] w3 (by omega) P Q).mono ?_
    rintro e w4 ⟨rfl, hb⟩
    replace B := B.trans (hb.mono B.size)
    replace L := (L.below hb (Nat.le_refl _)).more hb.size
    replace P := (P.below hb (Nat.le_refl _)).more hb.size
    replace Q := (Q.below hb (Nat.le_refl _)).more hb.size
    clear hb
    go_wp2_with fail
    refine (samePairs_same pa qa 0 pc qc [] w4 (by omega) P Q).mono ?_
    rintro e w5 ⟨rfl, hb⟩
    replace B := B.trans (hb.mono B.size)
    replace L := (L.below hb (Nat.le_refl _)).more hb.size
    replace P := (P.below hb (Nat.le_refl _)).more hb.size
    replace Q := (Q.below hb (Nat.le_refl _)).more hb.size
    clear hb
    go_wp2_with fail
    go_ret
    exact ⟨rfl, B⟩
  · have hB : ∀ n, kindB n = true → joinOfB l [] n = true := fun n h => by unfold joinOfB; rw [hq, h]; rfl
    have hE := lonelyL_length l []
    have e2 : joinOfS l [] 2 = lonelyL l [] := by rw [joinOf_yes (hB 2 rfl)]; exact none_left (by omega) l
    have e4 : joinOfS l [] 4 = lonelyL l [] := by rw [joinOf_yes (hB 4 rfl)]; exact none_left (by omega) l
    have e6 : joinOfS l [] 6 = lonelyL l [] := by rw [joinOf_yes (hB 6 rfl)]; exact none_left (by omega) l
    have e1 : joinOfS l [] 1 = [] := by rw [joinOf_yes (hB 1 rfl)]; exact none_none (by omega) l
    have e3 : joinOfS l [] 3 = [] := by rw [joinOf_yes (hB 3 rfl)]; exact none_none (by omega) l
    have e5 : joinOfS l [] 5 = [] := by rw [joinOf_yes (hB 5 rfl)]; exact none_none (by omega) l
    have CI2 : ∀ w : World, Rd w w.heap.size 3 (some ⟨lb, 0, none⟩) l.length (flat l) → Calls Try.prog 18 #[.slice (some ⟨lb, 0, none⟩) l.length lc, .slice none 0 0, .int .i64 2] w (fun e w' => ∃ a c, e = .returned (.tuple #[.slice a l.length c, .bool true]) ∧ Below w.heap.size w w' ∧ w'.ownsRow w.heap.size 41 5 (.slice a l.length c) l.length (flatP (lonelyL l []))) := fun w h => by
      have := implJoinOf_any (some ⟨lb, 0, none⟩) l.length lc l none 0 0 [] 2 w (by omega) hok h (by omega) (by simp) (rd_nil3 _ _)
      unfold PairsB at this
      rw [e2, hB 2 rfl, hE] at this
      exact this
    have CI4 : ∀ w : World, Rd w w.heap.size 3 (some ⟨lb, 0, none⟩) l.length (flat l) → Calls Try.prog 18 #[.slice (some ⟨lb, 0, none⟩) l.length lc, .slice none 0 0, .int .i64 4] w (fun e w' => ∃ a c, e = .returned (.tuple #[.slice a l.length c, .bool true]) ∧ Below w.heap.size w w' ∧ w'.ownsRow w.heap.size 41 5 (.slice a l.length c) l.length (flatP (lonelyL l []))) := fun w h => by
      have := implJoinOf_any (some ⟨lb, 0, none⟩) l.length lc l none 0 0 [] 4 w (by omega) hok h (by omega) (by simp) (rd_nil3 _ _)
      unfold PairsB at this
      rw [e4, hB 4 rfl, hE] at this
      exact this
    have CI6 : ∀ w : World, Rd w w.heap.size 3 (some ⟨lb, 0, none⟩) l.length (flat l) → Calls Try.prog 18 #[.slice (some ⟨lb, 0, none⟩) l.length lc, .slice none 0 0, .int .i64 6] w (fun e w' => ∃ a c, e = .returned (.tuple #[.slice a l.length c, .bool true]) ∧ Below w.heap.size w w' ∧ w'.ownsRow w.heap.size 41 5 (.slice a l.length c) l.length (flatP (lonelyL l []))) := fun w h => by
      have := implJoinOf_any (some ⟨lb, 0, none⟩) l.length lc l none 0 0 [] 6 w (by omega) hok h (by omega) (by simp) (rd_nil3 _ _)
      unfold PairsB at this
      rw [e6, hB 6 rfl, hE] at this
      exact this
    have CS : ∀ w : World, Rd w w.heap.size 3 (some ⟨lb, 0, none⟩) l.length (flat l) → Calls Try.prog 16 #[.slice (some ⟨lb, 0, none⟩) l.length lc, .slice none 0 0, .int .i64 2] w (fun e w' => ∃ a c, e = .returned (.tuple #[.slice a l.length c, .bool true]) ∧ Below w.heap.size w w' ∧ w'.ownsRow w.heap.size 41 5 (.slice a l.length c) l.length (flatP (lonelyL l []))) := fun w h => by
      have := specJoinOf_any (some ⟨lb, 0, none⟩) l.length lc l none 0 0 [] 2 w (by omega) hok h (by omega) (by simp) (rd_nil3 _ _)
      unfold PairsB at this
      rw [e2, hB 2 rfl, hE] at this
      exact this
    have CI1 : ∀ w : World, Rd w w.heap.size 3 (some ⟨lb, 0, none⟩) l.length (flat l) → Calls Try.prog 18 #[.slice (some ⟨lb, 0, none⟩) l.length lc, .slice none 0 0, .int .i64 1] w (fun e w' => ∃ a c, e = .returned (.tuple #[.slice a 0 c, .bool true]) ∧ Below w.heap.size w w' ∧ w'.ownsRow w.heap.size 41 5 (.slice a 0 c) 0 (flatP [])) := fun w h => by
      have := implJoinOf_any (some ⟨lb, 0, none⟩) l.length lc l none 0 0 [] 1 w (by omega) hok h (by omega) (by simp) (rd_nil3 _ _)
      unfold PairsB at this
      rw [e1, hB 1 rfl] at this
      exact this
    have CI3 : ∀ w : World, Rd w w.heap.size 3 (some ⟨lb, 0, none⟩) l.length (flat l) → Calls Try.prog 18 #[.slice (some ⟨lb, 0, none⟩) l.length lc, .slice none 0 0, .int .i64 3] w (fun e w' => ∃ a c, e = .returned (.tuple #[.slice a 0 c, .bool true]) ∧ Below w.heap.size w w' ∧ w'.ownsRow w.heap.size 41 5 (.slice a 0 c) 0 (flatP [])) := fun w h => by
      have := implJoinOf_any (some ⟨lb, 0, none⟩) l.length lc l none 0 0 [] 3 w (by omega) hok h (by omega) (by simp) (rd_nil3 _ _)
      unfold PairsB at this
      rw [e3, hB 3 rfl] at this
      exact this
    have CI5 : ∀ w : World, Rd w w.heap.size 3 (some ⟨lb, 0, none⟩) l.length (flat l) → Calls Try.prog 18 #[.slice (some ⟨lb, 0, none⟩) l.length lc, .slice none 0 0, .int .i64 5] w (fun e w' => ∃ a c, e = .returned (.tuple #[.slice a 0 c, .bool true]) ∧ Below w.heap.size w w' ∧ w'.ownsRow w.heap.size 41 5 (.slice a 0 c) 0 (flatP [])) := fun w h => by
      have := implJoinOf_any (some ⟨lb, 0, none⟩) l.length lc l none 0 0 [] 5 w (by omega) hok h (by omega) (by simp) (rd_nil3 _ _)
      unfold PairsB at this
      rw [e5, hB 5 rfl] at this
      exact this
    clear e1 e2 e3 e4 e5 e6 hB hq hE
    generalize lonelyL l [] = E at *
    go_wp2_with fail
    refine (CI2 w1 L).mono ?_
    rintro e w2 ⟨pa, pc, rfl, hb, hO⟩
    replace B := B.trans (hb.mono B.size)
    replace L := (L.below hb (Nat.le_refl _)).more hb.size
    clear hb
    have P := Rd.of_own hO
    clear hO
    go_wp2_with fail
    refine (CS w2 L).mono ?_
    rintro e w3 ⟨qa, qc, rfl, hb, hO⟩
    replace B := B.trans (hb.mono B.size)
    replace L := (L.below hb (Nat.le_refl _)).more hb.size
    replace P := (P.below hb (Nat.le_refl _)).more hb.size
    clear hb
    have Q := Rd.of_own hO
    clear hO
    go_wp2_with fail
    refine (samePairs_same pa qa l.length pc qc E w3 (by omega) P Q).mono ?_
    rintro e w4 ⟨rfl, hb⟩
    replace B := B.trans (hb.mono B.size)
    replace L := (L.below hb (Nat.le_refl _)).more hb.size
    replace P := (P.below hb (Nat.le_refl _)).more hb.size
    replace Q := (Q.below hb (Nat.le_refl _)).more hb.size
    clear hb
    clear Q
    go_wp2_with fail
    refine (CI1 w4 L).mono ?_
    rintro e w5 ⟨ia, ic, rfl, hb, hO⟩
    replace B := B.trans (hb.mono B.size)
    replace L := (L.below hb (Nat.le_refl _)).more hb.size
    replace P := (P.below hb (Nat.le_refl _)).more hb.size
    clear hb
    clear hO
    go_wp2_with fail
    refine (CI3 w5 L).mono ?_
    rintro e w6 ⟨ra, rc, rfl, hb, hO⟩
    replace B := B.trans (hb.mono B.size)
    replace L := (L.below hb (Nat.le_refl _)).more hb.size
    replace P := (P.below hb (Nat.le_refl _)).more hb.size
    clear hb
    clear hO
    go_wp2_with fail
    refine (CI4 w6 L).mono ?_
    rintro e w7 ⟨fa, fc, rfl, hb, hO⟩
    replace B := B.trans (hb.mono B.size)
    replace L := (L.below hb (Nat.le_refl _)).more hb.size
    replace P := (P.below hb (Nat.le_refl _)).more hb.size
    clear hb
    have F := Rd.of_own hO
    clear hO
    go_wp2_with fail
    refine (CI5 w7 L).mono ?_
    rintro e w8 ⟨sa, sc, rfl, hb, hO⟩
    replace B := B.trans (hb.mono B.size)
    replace L := (L.below hb (Nat.le_refl _)).more hb.size
    replace P := (P.below hb (Nat.le_refl _)).more hb.size
    replace F := (F.below hb (Nat.le_refl _)).more hb.size
    clear hb
    clear hO
    go_wp2_with fail
    refine (CI6 w8 L).mono ?_
    rintro e w9 ⟨na, nc, rfl, hb, hO⟩
    replace B := B.trans (hb.mono B.size)
    replace L := (L.below hb (Nat.le_refl _)).more hb.size
    replace P := (P.below hb (Nat.le_refl _)).more hb.size
    replace F := (F.below hb (Nat.le_refl _)).more hb.size
    clear hb
    have N := Rd.of_own hO
    clear hO CI1 CI2 CI3 CI4 CI5 CI6 CS
    go_wp2_with fail
    refine (samePairs_same fa pa l.length fc pc E w9 (by omega) F P).mono ?_
    rintro e w10 ⟨rfl, hb⟩
    replace B := B.trans (hb.mono B.size)
    replace L := (L.below hb (Nat.le_refl _)).more hb.size
    replace P := (P.below hb (Nat.le_refl _)).more hb.size
    replace F := (F.below hb (Nat.le_refl _)).more hb.size
    replace N := (N.below hb (Nat.le_refl _)).more hb.size
    clear hb
    go_wp2_with fail
    refine (samePairs_same na pa l.length nc pc E w10 (by omega) N P).mono ?_
    rintro e w11 ⟨rfl, hb⟩
    replace B := B.trans (hb.mono B.size)
    replace L := (L.below hb (Nat.le_refl _)).more hb.size
    replace P := (P.below hb (Nat.le_refl _)).more hb.size
    replace F := (F.below hb (Nat.le_refl _)).more hb.size
    replace N := (N.below hb (Nat.le_refl _)).more hb.size
    clear hb
    go_wp2_with fail
    go_ret
    exact ⟨rfl, B⟩
end Go.Proofs.Ytbcdpgjjfllgjaa
