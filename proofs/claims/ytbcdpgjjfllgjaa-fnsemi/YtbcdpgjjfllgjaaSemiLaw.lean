/-
  laws.FnSemi returns true for every code. No conditions.
-/
import Derived.Test.YtbcdpgjjfllgjaaOpenBytes
import Derived.Test.YtbcdpgjjfllgjaaDrawJoin
import Derived.Test.YtbcdpgjjfllgjaaSemiMath
namespace Go.Proofs.Ytbcdpgjjfllgjaa
open Go.RowKit
set_option maxRecDepth 100000 in
set_option maxHeartbeats 4000000 in
theorem walk_Semi (a : Option Addr) (len cap : Nat) (xs : List Value) (w : World) (hI : IsCode w a len cap xs) :
    Calls Try.prog 6 #[.slice a len cap] w fun e w' => e = .returned (.bool true) ∧ Below w.heap.size w w' := by
  have hI0 := hI.by_
  obtain ⟨hlc, hcm, _, _⟩ := hI
  go_enter Try.func6, Try.ntmps6
  go_wp2_with fail
  refine (big_any a len cap w (by omega)).mono ?_
  rintro e w0 ⟨rfl, rfl⟩
  by_cases hbig : 1048576 < len
  · have hd : decide (1048576 < len) = true := by simpa using hbig
    rw [hd]
    go_wp2_with fail
    go_ret
    exact ⟨rfl, Below.refl _ _⟩
  have hd : decide (1048576 < len) = false := by simpa using hbig
  rw [hd]
  go_wp2_with fail
  refine (drawJoinOf_any a len cap w (by omega) hI0).mono ?_
  rintro e w1 ⟨l, lb, lc, m, mb, mc, z, hll, hok, hml, hmok, rfl, hO, hP, hb⟩
  have B := hb
  clear hb
  have L := Rd.of_own hO
  have M := Rd.of_own hP
  clear hO hP
  cases hq : (rowsOk l && rowsOk m)
  · have hB : ∀ n, joinOfB l m n = false := fun n => by unfold joinOfB; rw [hq]; rfl
    have hS : ∀ n, joinOfS l m n = [] := fun n => joinOf_no (hB n)
    have CI5 : ∀ w : World, Rd w w.heap.size 3 (some ⟨lb, 0, none⟩) l.length (flat l) → Rd w w.heap.size 3 (some ⟨mb, 0, none⟩) m.length (flat m) → Calls Try.prog 18 #[.slice (some ⟨lb, 0, none⟩) l.length lc, .slice (some ⟨mb, 0, none⟩) m.length mc, .int .i64 5] w (fun e w' => ∃ a c, e = .returned (.tuple #[.slice a 0 c, .bool false]) ∧ Below w.heap.size w w' ∧ w'.ownsRow w.heap.size 41 5 (.slice a 0 c) 0 (flatP [])) := fun w h h2 => by
      have := implJoinOf_any (some ⟨lb, 0, none⟩) l.length lc l (some ⟨mb, 0, none⟩) m.length mc m 5 w (by omega) hok h (by omega) hmok h2
      unfold PairsB at this
      rw [hS, hB] at this
      exact this
    have CS5 : ∀ w : World, Rd w w.heap.size 3 (some ⟨lb, 0, none⟩) l.length (flat l) → Rd w w.heap.size 3 (some ⟨mb, 0, none⟩) m.length (flat m) → Calls Try.prog 16 #[.slice (some ⟨lb, 0, none⟩) l.length lc, .slice (some ⟨mb, 0, none⟩) m.length mc, .int .i64 5] w (fun e w' => ∃ a c, e = .returned (.tuple #[.slice a 0 c, .bool false]) ∧ Below w.heap.size w w' ∧ w'.ownsRow w.heap.size 41 5 (.slice a 0 c) 0 (flatP [])) := fun w h h2 => by
      have := specJoinOf_any (some ⟨lb, 0, none⟩) l.length lc l (some ⟨mb, 0, none⟩) m.length mc m 5 w (by omega) hok h (by omega) hmok h2
      unfold PairsB at this
      rw [hS, hB] at this
      exact this
    have CI6 : ∀ w : World, Rd w w.heap.size 3 (some ⟨lb, 0, none⟩) l.length (flat l) → Rd w w.heap.size 3 (some ⟨mb, 0, none⟩) m.length (flat m) → Calls Try.prog 18 #[.slice (some ⟨lb, 0, none⟩) l.length lc, .slice (some ⟨mb, 0, none⟩) m.length mc, .int .i64 6] w (fun e w' => ∃ a c, e = .returned (.tuple #[.slice a 0 c, .bool false]) ∧ Below w.heap.size w w' ∧ w'.ownsRow w.heap.size 41 5 (.slice a 0 c) 0 (flatP [])) := fun w h h2 => by
      have := implJoinOf_any (some ⟨lb, 0, none⟩) l.length lc l (some ⟨mb, 0, none⟩) m.length mc m 6 w (by omega) hok h (by omega) hmok h2
      unfold PairsB at this
      rw [hS, hB] at this
      exact this
    have CS6 : ∀ w : World, Rd w w.heap.size 3 (some ⟨lb, 0, none⟩) l.length (flat l) → Rd w w.heap.size 3 (some ⟨mb, 0, none⟩) m.length (flat m) → Calls Try.prog 16 #[.slice (some ⟨lb, 0, none⟩) l.length lc, .slice (some ⟨mb, 0, none⟩) m.length mc, .int .i64 6] w (fun e w' => ∃ a c, e = .returned (.tuple #[.slice a 0 c, .bool false]) ∧ Below w.heap.size w w' ∧ w'.ownsRow w.heap.size 41 5 (.slice a 0 c) 0 (flatP [])) := fun w h h2 => by
      have := specJoinOf_any (some ⟨lb, 0, none⟩) l.length lc l (some ⟨mb, 0, none⟩) m.length mc m 6 w (by omega) hok h (by omega) hmok h2
      unfold PairsB at this
      rw [hS, hB] at this
      exact this
    clear hB hS hq
    go_wp2_with fail
    refine (CI5 w1 L M).mono ?_
    rintro e w2 ⟨pa, pc, rfl, hb, hO⟩
    replace B := B.trans (hb.mono B.size)
    replace L := (L.below hb (Nat.le_refl _)).more hb.size
    replace M := (M.below hb (Nat.le_refl _)).more hb.size
    clear hb
    have P := Rd.of_own hO
    clear hO
    go_wp2_with fail
    refine (CS5 w2 L M).mono ?_
    rintro e w3 ⟨qa, qc, rfl, hb, hO⟩
    replace B := B.trans (hb.mono B.size)
    replace L := (L.below hb (Nat.le_refl _)).more hb.size
    replace M := (M.below hb (Nat.le_refl _)).more hb.size
    replace P := (P.below hb (Nat.le_refl _)).more hb.size
    clear hb
    have Q := Rd.of_own hO
    clear hO
    go_wp2_with fail
    refine (CI6 w3 L M).mono ?_
    rintro e w4 ⟨ra, rc, rfl, hb, hO⟩
    replace B := B.trans (hb.mono B.size)
    replace L := (L.below hb (Nat.le_refl _)).more hb.size
    replace M := (M.below hb (Nat.le_refl _)).more hb.size
    replace P := (P.below hb (Nat.le_refl _)).more hb.size
    replace Q := (Q.below hb (Nat.le_refl _)).more hb.size
    clear hb
    have R := Rd.of_own hO
    clear hO
    go_wp2_with fail
    refine (CS6 w4 L M).mono ?_
    rintro e w5 ⟨sa, sc, rfl, hb, hO⟩
    replace B := B.trans (hb.mono B.size)
    replace L := (L.below hb (Nat.le_refl _)).more hb.size
    replace M := (M.below hb (Nat.le_refl _)).more hb.size
    replace P := (P.below hb (Nat.le_refl _)).more hb.size
    replace Q := (Q.below hb (Nat.le_refl _)).more hb.size
    replace R := (R.below hb (Nat.le_refl _)).more hb.size
    clear hb
    have S := Rd.of_own hO
    clear hO
    go_wp2_with fail
    refine (samePairs_same pa qa 0 pc qc [] w5 (by omega) P Q).mono ?_
    rintro e w6 ⟨rfl, hb⟩
    replace B := B.trans (hb.mono B.size)
    replace L := (L.below hb (Nat.le_refl _)).more hb.size
    replace M := (M.below hb (Nat.le_refl _)).more hb.size
    replace P := (P.below hb (Nat.le_refl _)).more hb.size
    replace Q := (Q.below hb (Nat.le_refl _)).more hb.size
    replace R := (R.below hb (Nat.le_refl _)).more hb.size
    replace S := (S.below hb (Nat.le_refl _)).more hb.size
    clear hb
    go_wp2_with fail
    refine (samePairs_same ra sa 0 rc sc [] w6 (by omega) R S).mono ?_
    rintro e w7 ⟨rfl, hb⟩
    replace B := B.trans (hb.mono B.size)
    replace L := (L.below hb (Nat.le_refl _)).more hb.size
    replace M := (M.below hb (Nat.le_refl _)).more hb.size
    replace P := (P.below hb (Nat.le_refl _)).more hb.size
    replace Q := (Q.below hb (Nat.le_refl _)).more hb.size
    replace R := (R.below hb (Nat.le_refl _)).more hb.size
    replace S := (S.below hb (Nat.le_refl _)).more hb.size
    clear hb
    go_wp2_with fail
    refine (samePairs_same pa qa 0 pc qc [] w7 (by omega) P Q).mono ?_
    rintro e w8 ⟨rfl, hb⟩
    replace B := B.trans (hb.mono B.size)
    replace L := (L.below hb (Nat.le_refl _)).more hb.size
    replace M := (M.below hb (Nat.le_refl _)).more hb.size
    replace P := (P.below hb (Nat.le_refl _)).more hb.size
    replace Q := (Q.below hb (Nat.le_refl _)).more hb.size
    replace R := (R.below hb (Nat.le_refl _)).more hb.size
    replace S := (S.below hb (Nat.le_refl _)).more hb.size
    clear hb
    go_wp2_with fail
    refine (samePairs_same ra sa 0 rc sc [] w8 (by omega) R S).mono ?_
    rintro e w9 ⟨rfl, hb⟩
    replace B := B.trans (hb.mono B.size)
    replace L := (L.below hb (Nat.le_refl _)).more hb.size
    replace M := (M.below hb (Nat.le_refl _)).more hb.size
    replace P := (P.below hb (Nat.le_refl _)).more hb.size
    replace Q := (Q.below hb (Nat.le_refl _)).more hb.size
    replace R := (R.below hb (Nat.le_refl _)).more hb.size
    replace S := (S.below hb (Nat.le_refl _)).more hb.size
    clear hb
    go_wp2_with fail
    go_ret
    exact ⟨rfl, B⟩
  · have hB : ∀ n, kindB n = true → joinOfB l m n = true := fun n h => by unfold joinOfB; rw [hq, h]; rfl
    obtain ⟨n5, hn5⟩ : ∃ k, (l5J 5 l m).length = k := ⟨_, rfl⟩
    have e5 : joinOfS l m 5 = l5J 5 l m := joinOf_yes (hB 5 rfl)
    have hl5 : n5 ≤ 4194304 := by rw [← hn5]; exact l5J_le (by omega) (by omega)
    obtain ⟨n6, hn6⟩ : ∃ k, (l5J 6 l m).length = k := ⟨_, rfl⟩
    have e6 : joinOfS l m 6 = l5J 6 l m := joinOf_yes (hB 6 rfl)
    have hl6 : n6 ≤ 4194304 := by rw [← hn6]; exact l5J_le (by omega) (by omega)
    obtain ⟨n2, hn2⟩ : ∃ k, (l5J 2 l m).length = k := ⟨_, rfl⟩
    have e2 : joinOfS l m 2 = l5J 2 l m := joinOf_yes (hB 2 rfl)
    have hl2 : n2 ≤ 4194304 := by rw [← hn2]; exact l5J_le (by omega) (by omega)
    have CI5 : ∀ w : World, Rd w w.heap.size 3 (some ⟨lb, 0, none⟩) l.length (flat l) → Rd w w.heap.size 3 (some ⟨mb, 0, none⟩) m.length (flat m) → Calls Try.prog 18 #[.slice (some ⟨lb, 0, none⟩) l.length lc, .slice (some ⟨mb, 0, none⟩) m.length mc, .int .i64 5] w (fun e w' => ∃ a c, e = .returned (.tuple #[.slice a n5 c, .bool true]) ∧ Below w.heap.size w w' ∧ w'.ownsRow w.heap.size 41 5 (.slice a n5 c) n5 (flatP (l5J 5 l m))) := fun w h h2 => by
      have := implJoinOf_any (some ⟨lb, 0, none⟩) l.length lc l (some ⟨mb, 0, none⟩) m.length mc m 5 w (by omega) hok h (by omega) hmok h2
      unfold PairsB at this
      rw [e5, hB 5 rfl, hn5] at this
      exact this
    have CI6 : ∀ w : World, Rd w w.heap.size 3 (some ⟨lb, 0, none⟩) l.length (flat l) → Rd w w.heap.size 3 (some ⟨mb, 0, none⟩) m.length (flat m) → Calls Try.prog 18 #[.slice (some ⟨lb, 0, none⟩) l.length lc, .slice (some ⟨mb, 0, none⟩) m.length mc, .int .i64 6] w (fun e w' => ∃ a c, e = .returned (.tuple #[.slice a n6 c, .bool true]) ∧ Below w.heap.size w w' ∧ w'.ownsRow w.heap.size 41 5 (.slice a n6 c) n6 (flatP (l5J 6 l m))) := fun w h h2 => by
      have := implJoinOf_any (some ⟨lb, 0, none⟩) l.length lc l (some ⟨mb, 0, none⟩) m.length mc m 6 w (by omega) hok h (by omega) hmok h2
      unfold PairsB at this
      rw [e6, hB 6 rfl, hn6] at this
      exact this
    have CI2 : ∀ w : World, Rd w w.heap.size 3 (some ⟨lb, 0, none⟩) l.length (flat l) → Rd w w.heap.size 3 (some ⟨mb, 0, none⟩) m.length (flat m) → Calls Try.prog 18 #[.slice (some ⟨lb, 0, none⟩) l.length lc, .slice (some ⟨mb, 0, none⟩) m.length mc, .int .i64 2] w (fun e w' => ∃ a c, e = .returned (.tuple #[.slice a n2 c, .bool true]) ∧ Below w.heap.size w w' ∧ w'.ownsRow w.heap.size 41 5 (.slice a n2 c) n2 (flatP (l5J 2 l m))) := fun w h h2 => by
      have := implJoinOf_any (some ⟨lb, 0, none⟩) l.length lc l (some ⟨mb, 0, none⟩) m.length mc m 2 w (by omega) hok h (by omega) hmok h2
      unfold PairsB at this
      rw [e2, hB 2 rfl, hn2] at this
      exact this
    have CS5 : ∀ w : World, Rd w w.heap.size 3 (some ⟨lb, 0, none⟩) l.length (flat l) → Rd w w.heap.size 3 (some ⟨mb, 0, none⟩) m.length (flat m) → Calls Try.prog 16 #[.slice (some ⟨lb, 0, none⟩) l.length lc, .slice (some ⟨mb, 0, none⟩) m.length mc, .int .i64 5] w (fun e w' => ∃ a c, e = .returned (.tuple #[.slice a n5 c, .bool true]) ∧ Below w.heap.size w w' ∧ w'.ownsRow w.heap.size 41 5 (.slice a n5 c) n5 (flatP (l5J 5 l m))) := fun w h h2 => by
      have := specJoinOf_any (some ⟨lb, 0, none⟩) l.length lc l (some ⟨mb, 0, none⟩) m.length mc m 5 w (by omega) hok h (by omega) hmok h2
      unfold PairsB at this
      rw [e5, hB 5 rfl, hn5] at this
      exact this
    have CS6 : ∀ w : World, Rd w w.heap.size 3 (some ⟨lb, 0, none⟩) l.length (flat l) → Rd w w.heap.size 3 (some ⟨mb, 0, none⟩) m.length (flat m) → Calls Try.prog 16 #[.slice (some ⟨lb, 0, none⟩) l.length lc, .slice (some ⟨mb, 0, none⟩) m.length mc, .int .i64 6] w (fun e w' => ∃ a c, e = .returned (.tuple #[.slice a n6 c, .bool true]) ∧ Below w.heap.size w w' ∧ w'.ownsRow w.heap.size 41 5 (.slice a n6 c) n6 (flatP (l5J 6 l m))) := fun w h h2 => by
      have := specJoinOf_any (some ⟨lb, 0, none⟩) l.length lc l (some ⟨mb, 0, none⟩) m.length mc m 6 w (by omega) hok h (by omega) hmok h2
      unfold PairsB at this
      rw [e6, hB 6 rfl, hn6] at this
      exact this
    have HK := Lib.hid (show ∀ p q, p ∈ l5J 5 l m → q ∈ l5J 6 l m → (p.key.toList == q.key.toList) = false from fun p q h1 h2 => semi_anti_keys h1 h2)
    have hsum : n5 + n6 = l.length := by rw [← hn5, ← hn6]; exact semi_anti_length l m
    have HA := Lib.hid (show ∀ i p, (l5J 2 l m)[i]? = some p → p.hr = false → (l5J 6 l m)[aloneN (l5J 2 l m) i]? = some p from fun i p h1 h2 => by rw [← left_anti]; exact alone_at h1 h2)
    have HN := Lib.hid (show aloneN (l5J 2 l m) n2 = n6 by rw [aloneN_all (by omega), left_anti, hn6])
    have HL6 := Lib.hid hn6
    have HL2 := Lib.hid hn2
    clear e5 e6 e2 hB hq hn5 hn6 hn2
    generalize l5J 5 l m = S5 at *
    generalize l5J 6 l m = S6 at *
    generalize l5J 2 l m = S2 at *
    go_wp2_with fail
    refine (CI5 w1 L M).mono ?_
    rintro e w2 ⟨pa, pc, rfl, hb, hO⟩
    replace B := B.trans (hb.mono B.size)
    replace L := (L.below hb (Nat.le_refl _)).more hb.size
    replace M := (M.below hb (Nat.le_refl _)).more hb.size
    clear hb
    have P := Rd.of_own hO
    clear hO
    go_wp2_with fail
    refine (CS5 w2 L M).mono ?_
    rintro e w3 ⟨qa, qc, rfl, hb, hO⟩
    replace B := B.trans (hb.mono B.size)
    replace L := (L.below hb (Nat.le_refl _)).more hb.size
    replace M := (M.below hb (Nat.le_refl _)).more hb.size
    replace P := (P.below hb (Nat.le_refl _)).more hb.size
    clear hb
    have Q := Rd.of_own hO
    clear hO
    go_wp2_with fail
    refine (CI6 w3 L M).mono ?_
    rintro e w4 ⟨ra, rc, rfl, hb, hO⟩
    replace B := B.trans (hb.mono B.size)
    replace L := (L.below hb (Nat.le_refl _)).more hb.size
    replace M := (M.below hb (Nat.le_refl _)).more hb.size
    replace P := (P.below hb (Nat.le_refl _)).more hb.size
    replace Q := (Q.below hb (Nat.le_refl _)).more hb.size
    clear hb
    have R := Rd.of_own hO
    clear hO
    go_wp2_with fail
    refine (CS6 w4 L M).mono ?_
    rintro e w5 ⟨sa, sc, rfl, hb, hO⟩
    replace B := B.trans (hb.mono B.size)
    replace L := (L.below hb (Nat.le_refl _)).more hb.size
    replace M := (M.below hb (Nat.le_refl _)).more hb.size
    replace P := (P.below hb (Nat.le_refl _)).more hb.size
    replace Q := (Q.below hb (Nat.le_refl _)).more hb.size
    replace R := (R.below hb (Nat.le_refl _)).more hb.size
    clear hb
    have S := Rd.of_own hO
    clear hO CI5 CI6 CS5 CS6
    go_wp2_with fail
    refine (samePairs_same pa qa n5 pc qc S5 w5 hl5 P Q).mono ?_
    rintro e w6 ⟨rfl, hb⟩
    replace B := B.trans (hb.mono B.size)
    replace L := (L.below hb (Nat.le_refl _)).more hb.size
    replace M := (M.below hb (Nat.le_refl _)).more hb.size
    replace P := (P.below hb (Nat.le_refl _)).more hb.size
    replace Q := (Q.below hb (Nat.le_refl _)).more hb.size
    replace R := (R.below hb (Nat.le_refl _)).more hb.size
    replace S := (S.below hb (Nat.le_refl _)).more hb.size
    clear hb
    clear Q
    go_wp2_with fail
    refine (samePairs_same ra sa n6 rc sc S6 w6 hl6 R S).mono ?_
    rintro e w7 ⟨rfl, hb⟩
    replace B := B.trans (hb.mono B.size)
    replace L := (L.below hb (Nat.le_refl _)).more hb.size
    replace M := (M.below hb (Nat.le_refl _)).more hb.size
    replace P := (P.below hb (Nat.le_refl _)).more hb.size
    replace R := (R.below hb (Nat.le_refl _)).more hb.size
    replace S := (S.below hb (Nat.le_refl _)).more hb.size
    clear hb
    clear S
    go_wp2_with fail
    go_loopw [14] (fun i wr => ∃ k : Nat, k ≤ n5 ∧ i = .int .i64 k ∧ Below w7.heap.size w7 wr) (fun i _ => n5 - (intOf i).toNat)
    case atStart => exact ⟨0, Nat.zero_le _, rfl, Below.refl _ _⟩
    case round =>
      obtain ⟨k, hk, rfl, hb⟩ := hrel
      by_cases hlt : k < n5
      · go_wp2_with fail
        go_loopw [15] (fun i w' => ∃ j : Nat, j ≤ n6 ∧ i = .int .i64 j ∧ Below w7.heap.size w7 w') (fun i _ => n6 - (intOf i).toNat)
        case atStart => exact ⟨0, Nat.zero_le _, rfl, hb⟩
        case round =>
          clear hb
          obtain ⟨j, hj, rfl, hb⟩ := hrel
          by_cases hlj : j < n6
          · obtain ⟨b1, o1, x, rfl, hB1, hx, c0, _, _, _, _⟩ := (P.below hb (Nat.le_refl _)).pair hlt
            obtain ⟨b2, o2, y, rfl, hB2, hy, d0, _, _, _, _⟩ := (R.below hb (Nat.le_refl _)).pair hlj
            have hne := HK.out x y (List.mem_of_getElem? hx) (List.mem_of_getElem? hy)
            clear hx hy
            obtain ⟨xk, xl, xr, xh, xi⟩ := x
            obtain ⟨yk, yl, yr, yh, yi⟩ := y
            go_wp2_with fail
            go_quiet (fail)
            have hb1 := hb.trans ((show Below wr.heap.size wr (wr.drewN nq) from below_drewN (Below.refl _ _) nq).mono hb.size)
            generalize wr.drewN nq = w1 at *
            clear c0 d0 hne hb
            go_wp2_with fail
            go_roundw
            case rel => exact ⟨j + 1, by omega, by go_num, hb1⟩
            case measure => simp [intOf]; omega
          · go_wp2_with fail
            go_roundw
            case rel => exact ⟨k + 1, by omega, by go_num, hb⟩
            case measure => simp [intOf]; omega
      · have B2 := B.trans (hb.mono B.size)
        have L2 := (L.below hb (Nat.le_refl _)).more hb.size
        have M2 := (M.below hb (Nat.le_refl _)).more hb.size
        have R2 := (R.below hb (Nat.le_refl _)).more hb.size
        clear B L M R P hb
        go_wp2_with fail
        refine (CI2 wr L2 M2).mono ?_
        rintro e v1 ⟨ta, tc, rfl, hb, hO⟩
        have T := Rd.of_own hO
        have B3 := B2.trans (hb.mono B2.size)
        have R3 := (R2.below hb (Nat.le_refl _)).more hb.size
        clear hO hb B2 L2 M2 R2 CI2
        go_wp2_with fail
        go_loopw [18, 19] (fun q i w' => ∃ j c : Nat, j ≤ n2 ∧ i = .int .i64 j ∧ q = .int .i64 c ∧ c ≤ j ∧ Hid (aloneN S2 j = c) ∧ Below v1.heap.size v1 w') (fun _ i _ => n2 - (intOf i).toNat)
        case atStart => exact ⟨0, 0, Nat.zero_le _, rfl, rfl, Nat.le_refl _, Lib.hid rfl, Below.refl _ _⟩
        case round =>
          obtain ⟨j, c, hj, rfl, rfl, hcj, HC, hb⟩ := hrel
          by_cases hlj : j < n2
          · obtain ⟨b1, o1, x, rfl, hB1, hx, c0, c1, c2, c3, c4⟩ := (T.below hb (Nat.le_refl _)).pair hlj
            cases hr : x.hr
            · have hat := HA.out j x hx hr
              rw [HC.out] at hat
              have hcn : c < n6 := by rw [← HL6.out]; exact (List.getElem?_eq_some_iff.1 hat).1
              obtain ⟨b2, o2, y, rfl, hB2, hy, d0, d1, d2, d3, d4⟩ := (R3.below hb (Nat.le_refl _)).pair hcn
              obtain rfl : x = y := by rw [hat] at hy; injection hy
              have HC2 := Lib.hid (show aloneN S2 (j + 1) = c + 1 by rw [aloneN_yes hx hr, HC.out])
              have hcn1 : ((c : Int) == (n6 : Int)) = false := by simp; omega
              have hcn2 : (c == n6) = false := by simp; omega
              rw [hr] at c4 d4
              obtain ⟨xk, xl, xr, xh, xi⟩ := x
              clear hx hy hat hr HC
              go_wp2_with fail
              go_quiet (fail)
              have hb1 := hb.trans ((show Below wr.heap.size wr (wr.drewN nq) from below_drewN (Below.refl _ _) nq).mono hb.size)
              generalize wr.drewN nq = w1 at *
              clear c0 c1 c2 c3 c4 d0 d1 d2 d3 d4 hb
              go_wp2_with fail
              go_roundw
              case rel => exact ⟨j + 1, c + 1, by omega, by go_num, by go_num, by omega, HC2, hb1⟩
              case measure => simp [intOf]; omega
            · have HC2 := Lib.hid (show aloneN S2 (j + 1) = c by rw [aloneN_no hx hr, HC.out])
              rw [hr] at c4
              obtain ⟨xk, xl, xr, xh, xi⟩ := x
              clear hx hr HC c0 c1 c2 c3
              go_wp2_with fail
              go_roundw
              case rel => exact ⟨j + 1, c, by omega, by go_num, rfl, by omega, HC2, hb⟩
              case measure => simp [intOf]; omega
          · obtain rfl : j = n2 := by omega
            have hc6 : c = n6 := by rw [← HC.out, HN.out]
            have hW : IntKind.i64.wrap ((n5 : Int) + (n6 : Int)) = (l.length : Int) := by rw [IntWalk.i64_in _ (by omega)]; omega
            have B4 := B3.trans (hb.mono B3.size)
            have HS := Lib.hid hsum
            clear HC HN hsum
            subst hc6
            go_wp2_with fail
            go_ret
            exact ⟨rfl, B4⟩
end Go.Proofs.Ytbcdpgjjfllgjaa
