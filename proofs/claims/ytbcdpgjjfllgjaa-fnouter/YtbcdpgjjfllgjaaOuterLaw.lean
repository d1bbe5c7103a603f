/-
  laws.FnOuter returns true for every code. No conditions.
-/
import Derived.Test.YtbcdpgjjfllgjaaOpenBytes
import Derived.Test.YtbcdpgjjfllgjaaDrawJoin
import Derived.Test.YtbcdpgjjfllgjaaSemiMath
namespace Go.Proofs.Ytbcdpgjjfllgjaa
open Go.RowKit
theorem filter_map_all {α β : Type} {q : β → Bool} {f : α → β} (h : ∀ x, q (f x) = true) (l : List α) : (l.map f).filter q = l.map f := by
  rw [List.filter_eq_self]
  intro x hx
  obtain ⟨y, _, rfl⟩ := List.mem_map.1 hx
  exact h y
theorem one_full {key : ByteArray} (a b : List ByteArray) : (oneK 4 key a b).filter (fun p => p.hl && p.hr) = oneK 1 key a b ∧ (oneK 4 key a b).filter (fun p => p.hl) = oneK 2 key a b ∧ (oneK 4 key a b).filter (fun p => p.hr) = oneK 3 key a b := by
  cases a with
  | nil =>
    have e4 : oneK 4 key [] b = b.map (rightP key) := by simp only [oneK]; simp; exact fun _ _ => rfl
    have e3 : oneK 3 key [] b = b.map (rightP key) := by simp only [oneK]; simp; exact fun _ _ => rfl
    have e2 : oneK 2 key [] b = [] := by simp only [oneK]; simp
    have e1 : oneK 1 key [] b = [] := by simp only [oneK]; simp
    rw [e1, e2, e3, e4]
    exact ⟨filter_map_none (fun _ => rfl) _, filter_map_none (fun _ => rfl) _, filter_map_all (fun _ => rfl) _⟩
  | cons x a =>
    cases b with
    | nil =>
      have e4 : oneK 4 key (x :: a) [] = (x :: a).map (leftP key) := by simp only [oneK]; simp [flatMap_one, leftP]
      have e3 : oneK 3 key (x :: a) [] = [] := by simp only [oneK]; simp [flatMap_none]
      have e2 : oneK 2 key (x :: a) [] = (x :: a).map (leftP key) := by simp only [oneK]; simp [flatMap_one, leftP]
      have e1 : oneK 1 key (x :: a) [] = [] := by simp only [oneK]; simp [flatMap_none]
      rw [e1, e2, e3, e4]
      exact ⟨filter_map_none (fun _ => rfl) _, filter_map_all (fun _ => rfl) _, filter_map_none (fun _ => rfl) _⟩
    | cons y b =>
      have h : ∀ n : Int, n = 1 ∨ n = 2 ∨ n = 3 ∨ n = 4 → oneK n key (x :: a) (y :: b) = (x :: a).flatMap fun x => (y :: b).map (bothP key x) := by
        intro n hn
        rcases hn with rfl | rfl | rfl | rfl <;> (simp only [oneK]; simp; exact ⟨rfl, rfl⟩)
      rw [h 1 (by omega), h 2 (by omega), h 3 (by omega), h 4 (by omega)]
      refine ⟨?_, ?_, ?_⟩ <;> (rw [List.filter_flatMap]; exact flatMap_congr' fun z _ => filter_map_all (fun _ => rfl) _)
theorem full_parts (a b : List RowV) : (l5J 4 a b).filter (fun p => p.hl && p.hr) = l5J 1 a b ∧ (l5J 4 a b).filter (fun p => p.hl) = l5J 2 a b ∧ (l5J 4 a b).filter (fun p => p.hr) = l5J 3 a b := by
  unfold l5J
  rw [List.filter_flatMap, List.filter_flatMap, List.filter_flatMap]
  exact ⟨flatMap_congr' fun key _ => (one_full _ _).1, flatMap_congr' fun key _ => (one_full _ _).2.1, flatMap_congr' fun key _ => (one_full _ _).2.2⟩
/-- Two slices that own no block together. -/
def Off (u v : Value) : Prop := ∀ g, u.ownBlock = some g → v.ownBlock ≠ some g
theorem Off.symm {u v : Value} (h : Off u v) : Off v u := fun g e1 e2 => h g e2 e1
theorem own_off {w w' : World} {base e s n : Nat} {v u : Value} {xs : List Value} (h : w.ownsRow base e s v n xs) (hg : w.grownBy w' u.ownBlock) (ho : Off v u) : w'.ownsRow base e s v n xs := by
  have hb := own_ge h
  refine ⟨h.1, ?_⟩
  rcases h.2 with h0 | ⟨g, c, cur, rfl, hg1, hh, h1, h2, h3, h4⟩
  · exact .inl h0
  · have e : (Value.slice (some ⟨g, 0, none⟩) n c).ownBlock = some g := by simp [Value.ownBlock]
    exact .inr ⟨g, c, cur, rfl, hg1, (hg.block g (hb g e).2 (fun e' => ho g e e'.symm)).trans hh, h1, h2, h3, h4⟩
theorem Off.next {w : World} {base e s n : Nat} {v u u' : Value} {xs : List Value} (h : Off v u) (hv : w.ownsRow base e s v n xs) (hat : u'.ownBlock = u.ownBlock ∨ u'.ownBlock = some (w.heap.size + 1)) : Off v u' := fun g e1 e2 => by
  rcases hat with h1 | h1
  · exact h g e1 (h1 ▸ e2)
  · rw [h1] at e2
    injection e2 with e2
    have := (own_ge hv g e1).2
    omega
theorem app_below {W e s n : Nat} {w w4 : World} {o : Obj} {v : Value} {xs : List Value} (hO : w.ownsRow W e s v n xs) (hW : W ≤ w.heap.size) (hg : (w.alloc o).grownBy w4 v.ownBlock) : Below W w w4 :=
  ((Below.refl W w).alloc hW o).grown hg (by simp; omega) (fun q e => (own_ge hO q e).1)
theorem pick_yes {q : PairV → Bool} {l : List PairV} {i : Nat} {p : PairV} (h : l[i]? = some p) (hq : q p = true) : (l.take (i + 1)).filter q = (l.take i).filter q ++ [p] := by
  rw [List.take_add_one, h, Option.toList_some, List.filter_append]
  simp [hq]
theorem pick_no {q : PairV → Bool} {l : List PairV} {i : Nat} {p : PairV} (h : l[i]? = some p) (hq : q p = false) : (l.take (i + 1)).filter q = (l.take i).filter q := by
  rw [List.take_add_one, h, Option.toList_some, List.filter_append]
  simp [hq]
theorem pick_le (q : PairV → Bool) (l : List PairV) (i : Nat) : ((l.take i).filter q).length ≤ i := by
  have := List.length_filter_le q (l.take i)
  rw [List.length_take] at this
  omega
set_option maxRecDepth 100000 in
set_option maxHeartbeats 4000000 in
theorem walk_Outer (a : Option Addr) (len cap : Nat) (xs : List Value) (w : World) (hI : IsCode w a len cap xs) :
    Calls Try.prog 10 #[.slice a len cap] w fun e w' => e = .returned (.bool true) ∧ Below w.heap.size w w' := by
  have hI0 := hI.by_
  obtain ⟨hlc, hcm, _, _⟩ := hI
  go_enter Try.func10, Try.ntmps10
  go_wp2_with fail
  refine (big_any a len cap w (by omega)).mono ?_
  rintro e w0 ⟨rfl, rfl⟩
  by_cases hbig : 1048576 < len
  · have hd : decide (1048576 < len) = true := by simpa using hbig
    rw [hd]
    go_wp2_with fail
    go_ret
    exact ⟨rfl, Below.refl _ _⟩
  have hd : decide (1048576 < len) = false := by simpa using hbig
  rw [hd]
  go_wp2_with fail
  refine (drawJoinOf_any a len cap w (by omega) hI0).mono ?_
  rintro e w1 ⟨l, lb, lc, m, mb, mc, z, hll, hok, hml, hmok, rfl, hO, hP, hb⟩
  have B := hb
  clear hb
  have L := Rd.of_own hO
  have M := Rd.of_own hP
  clear hO hP
  cases hq : (rowsOk l && rowsOk m)
  · have hB : ∀ n, joinOfB l m n = false := fun n => by unfold joinOfB; rw [hq]; rfl
    have hS : ∀ n, joinOfS l m n = [] := fun n => joinOf_no (hB n)
    have CI : ∀ w : World, Rd w w.heap.size 3 (some ⟨lb, 0, none⟩) l.length (flat l) → Rd w w.heap.size 3 (some ⟨mb, 0, none⟩) m.length (flat m) → Calls Try.prog 18 #[.slice (some ⟨lb, 0, none⟩) l.length lc, .slice (some ⟨mb, 0, none⟩) m.length mc, .int .i64 4] w (fun e w' => ∃ a c, e = .returned (.tuple #[.slice a 0 c, .bool false]) ∧ Below w.heap.size w w' ∧ w'.ownsRow w.heap.size 41 5 (.slice a 0 c) 0 (flatP [])) := fun w h h2 => by
      have := implJoinOf_any (some ⟨lb, 0, none⟩) l.length lc l (some ⟨mb, 0, none⟩) m.length mc m 4 w (by omega) hok h (by omega) hmok h2
      unfold PairsB at this
      rw [hS, hB] at this
      exact this
    have CS : ∀ w : World, Rd w w.heap.size 3 (some ⟨lb, 0, none⟩) l.length (flat l) → Rd w w.heap.size 3 (some ⟨mb, 0, none⟩) m.length (flat m) → Calls Try.prog 16 #[.slice (some ⟨lb, 0, none⟩) l.length lc, .slice (some ⟨mb, 0, none⟩) m.length mc, .int .i64 4] w (fun e w' => ∃ a c, e = .returned (.tuple #[.slice a 0 c, .bool false]) ∧ Below w.heap.size w w' ∧ w'.ownsRow w.heap.size 41 5 (.slice a 0 c) 0 (flatP [])) := fun w h h2 => by
      have := specJoinOf_any (some ⟨lb, 0, none⟩) l.length lc l (some ⟨mb, 0, none⟩) m.length mc m 4 w (by omega) hok h (by omega) hmok h2
      unfold PairsB at this
      rw [hS, hB] at this
      exact this
    clear hB hS hq
    go_wp2_with fail
    refine (CI w1 L M).mono ?_
    rintro e w2 ⟨pa, pc, rfl, hb, hO⟩
    replace B := B.trans (hb.mono B.size)
    replace L := (L.below hb (Nat.le_refl _)).more hb.size
    replace M := (M.below hb (Nat.le_refl _)).more hb.size
    clear hb
    have P := Rd.of_own hO
    clear hO
    go_wp2_with fail
    refine (CS w2 L M).mono ?_
    rintro e w3 ⟨qa, qc, rfl, hb, hO⟩
    replace B := B.trans (hb.mono B.size)
    replace L := (L.below hb (Nat.le_refl _)).more hb.size
    replace M := (M.below hb (Nat.le_refl _)).more hb.size
    replace P := (P.below hb (Nat.le_refl _)).more hb.size
    clear hb
    have Q := Rd.of_own hO
    clear hO
    go_wp2_with fail
    refine (samePairs_same pa qa 0 pc qc [] w3 (by omega) P Q).mono ?_
    rintro e w4 ⟨rfl, hb⟩
    replace B := B.trans (hb.mono B.size)
    replace L := (L.below hb (Nat.le_refl _)).more hb.size
    replace M := (M.below hb (Nat.le_refl _)).more hb.size
    replace P := (P.below hb (Nat.le_refl _)).more hb.size
    replace Q := (Q.below hb (Nat.le_refl _)).more hb.size
    clear hb
    go_wp2_with fail
    refine (samePairs_same pa qa 0 pc qc [] w4 (by omega) P Q).mono ?_
    rintro e w5 ⟨rfl, hb⟩
    replace B := B.trans (hb.mono B.size)
    replace L := (L.below hb (Nat.le_refl _)).more hb.size
    replace M := (M.below hb (Nat.le_refl _)).more hb.size
    replace P := (P.below hb (Nat.le_refl _)).more hb.size
    replace Q := (Q.below hb (Nat.le_refl _)).more hb.size
    clear hb
    go_wp2_with fail
    go_ret
    exact ⟨rfl, B⟩
  · obtain ⟨i0, hi, hz0, hz1, hz2⟩ := info_parts infoPair
    have hB : ∀ n, kindB n = true → joinOfB l m n = true := fun n h => by unfold joinOfB; rw [hq, h]; rfl
    obtain ⟨n4, hn4⟩ : ∃ k, (l5J 4 l m).length = k := ⟨_, rfl⟩
    have e4 : joinOfS l m 4 = l5J 4 l m := joinOf_yes (hB 4 rfl)
    have hl4 : n4 ≤ 4194304 := by rw [← hn4]; exact l5J_le (by omega) (by omega)
    obtain ⟨n1, hn1⟩ : ∃ k, (l5J 1 l m).length = k := ⟨_, rfl⟩
    have e1 : joinOfS l m 1 = l5J 1 l m := joinOf_yes (hB 1 rfl)
    have hl1 : n1 ≤ 4194304 := by rw [← hn1]; exact l5J_le (by omega) (by omega)
    obtain ⟨n2, hn2⟩ : ∃ k, (l5J 2 l m).length = k := ⟨_, rfl⟩
    have e2 : joinOfS l m 2 = l5J 2 l m := joinOf_yes (hB 2 rfl)
    have hl2 : n2 ≤ 4194304 := by rw [← hn2]; exact l5J_le (by omega) (by omega)
    obtain ⟨n3, hn3⟩ : ∃ k, (l5J 3 l m).length = k := ⟨_, rfl⟩
    have e3 : joinOfS l m 3 = l5J 3 l m := joinOf_yes (hB 3 rfl)
    have hl3 : n3 ≤ 4194304 := by rw [← hn3]; exact l5J_le (by omega) (by omega)
    have CI4 : ∀ w : World, Rd w w.heap.size 3 (some ⟨lb, 0, none⟩) l.length (flat l) → Rd w w.heap.size 3 (some ⟨mb, 0, none⟩) m.length (flat m) → Calls Try.prog 18 #[.slice (some ⟨lb, 0, none⟩) l.length lc, .slice (some ⟨mb, 0, none⟩) m.length mc, .int .i64 4] w (fun e w' => ∃ a c, e = .returned (.tuple #[.slice a n4 c, .bool true]) ∧ Below w.heap.size w w' ∧ w'.ownsRow w.heap.size 41 5 (.slice a n4 c) n4 (flatP (l5J 4 l m))) := fun w h h2 => by
      have := implJoinOf_any (some ⟨lb, 0, none⟩) l.length lc l (some ⟨mb, 0, none⟩) m.length mc m 4 w (by omega) hok h (by omega) hmok h2
      unfold PairsB at this
      rw [e4, hB 4 rfl, hn4] at this
      exact this
    have CI1 : ∀ w : World, Rd w w.heap.size 3 (some ⟨lb, 0, none⟩) l.length (flat l) → Rd w w.heap.size 3 (some ⟨mb, 0, none⟩) m.length (flat m) → Calls Try.prog 18 #[.slice (some ⟨lb, 0, none⟩) l.length lc, .slice (some ⟨mb, 0, none⟩) m.length mc, .int .i64 1] w (fun e w' => ∃ a c, e = .returned (.tuple #[.slice a n1 c, .bool true]) ∧ Below w.heap.size w w' ∧ w'.ownsRow w.heap.size 41 5 (.slice a n1 c) n1 (flatP (l5J 1 l m))) := fun w h h2 => by
      have := implJoinOf_any (some ⟨lb, 0, none⟩) l.length lc l (some ⟨mb, 0, none⟩) m.length mc m 1 w (by omega) hok h (by omega) hmok h2
      unfold PairsB at this
      rw [e1, hB 1 rfl, hn1] at this
      exact this
    have CI2 : ∀ w : World, Rd w w.heap.size 3 (some ⟨lb, 0, none⟩) l.length (flat l) → Rd w w.heap.size 3 (some ⟨mb, 0, none⟩) m.length (flat m) → Calls Try.prog 18 #[.slice (some ⟨lb, 0, none⟩) l.length lc, .slice (some ⟨mb, 0, none⟩) m.length mc, .int .i64 2] w (fun e w' => ∃ a c, e = .returned (.tuple #[.slice a n2 c, .bool true]) ∧ Below w.heap.size w w' ∧ w'.ownsRow w.heap.size 41 5 (.slice a n2 c) n2 (flatP (l5J 2 l m))) := fun w h h2 => by
      have := implJoinOf_any (some ⟨lb, 0, none⟩) l.length lc l (some ⟨mb, 0, none⟩) m.length mc m 2 w (by omega) hok h (by omega) hmok h2
      unfold PairsB at this
      rw [e2, hB 2 rfl, hn2] at this
      exact this
    have CI3 : ∀ w : World, Rd w w.heap.size 3 (some ⟨lb, 0, none⟩) l.length (flat l) → Rd w w.heap.size 3 (some ⟨mb, 0, none⟩) m.length (flat m) → Calls Try.prog 18 #[.slice (some ⟨lb, 0, none⟩) l.length lc, .slice (some ⟨mb, 0, none⟩) m.length mc, .int .i64 3] w (fun e w' => ∃ a c, e = .returned (.tuple #[.slice a n3 c, .bool true]) ∧ Below w.heap.size w w' ∧ w'.ownsRow w.heap.size 41 5 (.slice a n3 c) n3 (flatP (l5J 3 l m))) := fun w h h2 => by
      have := implJoinOf_any (some ⟨lb, 0, none⟩) l.length lc l (some ⟨mb, 0, none⟩) m.length mc m 3 w (by omega) hok h (by omega) hmok h2
      unfold PairsB at this
      rw [e3, hB 3 rfl, hn3] at this
      exact this
    have CS4 : ∀ w : World, Rd w w.heap.size 3 (some ⟨lb, 0, none⟩) l.length (flat l) → Rd w w.heap.size 3 (some ⟨mb, 0, none⟩) m.length (flat m) → Calls Try.prog 16 #[.slice (some ⟨lb, 0, none⟩) l.length lc, .slice (some ⟨mb, 0, none⟩) m.length mc, .int .i64 4] w (fun e w' => ∃ a c, e = .returned (.tuple #[.slice a n4 c, .bool true]) ∧ Below w.heap.size w w' ∧ w'.ownsRow w.heap.size 41 5 (.slice a n4 c) n4 (flatP (l5J 4 l m))) := fun w h h2 => by
      have := specJoinOf_any (some ⟨lb, 0, none⟩) l.length lc l (some ⟨mb, 0, none⟩) m.length mc m 4 w (by omega) hok h (by omega) hmok h2
      unfold PairsB at this
      rw [e4, hB 4 rfl, hn4] at this
      exact this
    obtain ⟨f1, f2, f3⟩ := full_parts l m
    have HF1 := Lib.hid f1
    have HF2 := Lib.hid f2
    have HF3 := Lib.hid f3
    have HN1 := Lib.hid hn1
    have HN2 := Lib.hid hn2
    have HN3 := Lib.hid hn3
    have HN4 := Lib.hid hn4
    clear e1 e2 e3 e4 hB hq hn1 hn2 hn3 hn4 f1 f2 f3
    generalize l5J 4 l m = F at *
    generalize l5J 1 l m = G1 at *
    generalize l5J 2 l m = G2 at *
    generalize l5J 3 l m = G3 at *
    go_wp2_with fail
    refine (CI4 w1 L M).mono ?_
    rintro e w2 ⟨fa, fc, rfl, hb, hO⟩
    replace B := B.trans (hb.mono B.size)
    replace L := (L.below hb (Nat.le_refl _)).more hb.size
    replace M := (M.below hb (Nat.le_refl _)).more hb.size
    clear hb
    have P := Rd.of_own hO
    clear hO
    go_wp2_with fail
    refine (CS4 w2 L M).mono ?_
    rintro e w3 ⟨qa, qc, rfl, hb, hO⟩
    replace B := B.trans (hb.mono B.size)
    replace L := (L.below hb (Nat.le_refl _)).more hb.size
    replace M := (M.below hb (Nat.le_refl _)).more hb.size
    replace P := (P.below hb (Nat.le_refl _)).more hb.size
    clear hb
    have Q := Rd.of_own hO
    clear hO
    go_wp2_with fail
    refine (samePairs_same fa qa n4 fc qc F w3 hl4 P Q).mono ?_
    rintro e w4 ⟨rfl, hb⟩
    replace B := B.trans (hb.mono B.size)
    replace L := (L.below hb (Nat.le_refl _)).more hb.size
    replace M := (M.below hb (Nat.le_refl _)).more hb.size
    replace P := (P.below hb (Nat.le_refl _)).more hb.size
    replace Q := (Q.below hb (Nat.le_refl _)).more hb.size
    clear hb
    clear Q
    go_wp2_with fail
    refine (CI1 w4 L M).mono ?_
    rintro e w5 ⟨pa, pc, rfl, hb, hO⟩
    replace B := B.trans (hb.mono B.size)
    replace L := (L.below hb (Nat.le_refl _)).more hb.size
    replace M := (M.below hb (Nat.le_refl _)).more hb.size
    replace P := (P.below hb (Nat.le_refl _)).more hb.size
    clear hb
    have R1 := Rd.of_own hO
    clear hO
    go_wp2_with fail
    refine (CI2 w5 L M).mono ?_
    rintro e w6 ⟨ra, rc, rfl, hb, hO⟩
    replace B := B.trans (hb.mono B.size)
    replace L := (L.below hb (Nat.le_refl _)).more hb.size
    replace M := (M.below hb (Nat.le_refl _)).more hb.size
    replace P := (P.below hb (Nat.le_refl _)).more hb.size
    replace R1 := (R1.below hb (Nat.le_refl _)).more hb.size
    clear hb
    have R2 := Rd.of_own hO
    clear hO
    go_wp2_with fail
    refine (CI3 w6 L M).mono ?_
    rintro e w7 ⟨sa, sc, rfl, hb, hO⟩
    replace B := B.trans (hb.mono B.size)
    replace L := (L.below hb (Nat.le_refl _)).more hb.size
    replace M := (M.below hb (Nat.le_refl _)).more hb.size
    replace P := (P.below hb (Nat.le_refl _)).more hb.size
    replace R1 := (R1.below hb (Nat.le_refl _)).more hb.size
    replace R2 := (R2.below hb (Nat.le_refl _)).more hb.size
    clear hb
    have R3 := Rd.of_own hO
    clear hO CI1 CI2 CI3 CI4 CS4
    clear L
    clear M
    have X0 := own_below (own_below (World.ownsRow_lit (base := w7.heap.size) (e := 41) (size := 5) w7 #[] 0 (Nat.le_refl _) (Nat.zero_le _) rfl) (bl1 (w7.alloc (.cells #[] 41)) (.cells #[] 41))) (bl1 ((w7.alloc (.cells #[] 41)).alloc (.cells #[] 41)) (.cells #[] 41))
    have Y0 := own_below (World.ownsRow_lit (base := (w7.alloc (.cells #[] 41)).heap.size) (e := 41) (size := 5) (w7.alloc (.cells #[] 41)) #[] 0 (Nat.le_refl _) (Nat.zero_le _) rfl) (bl1 ((w7.alloc (.cells #[] 41)).alloc (.cells #[] 41)) (.cells #[] 41))
    have Z0 := World.ownsRow_lit (base := ((w7.alloc (.cells #[] 41)).alloc (.cells #[] 41)).heap.size) (e := 41) (size := 5) ((w7.alloc (.cells #[] 41)).alloc (.cells #[] 41)) #[] 0 (Nat.le_refl _) (Nat.zero_le _) rfl
    have s1 : (w7.alloc (.cells #[] 41)).heap.size = w7.heap.size + 1 := by simp
    have s2 : ((w7.alloc (.cells #[] 41)).alloc (.cells #[] 41)).heap.size = w7.heap.size + 1 + 1 := by simp
    replace Y0 := own_base' Y0 (show w7.heap.size ≤ _ by omega)
    replace Z0 := own_base' Z0 (show w7.heap.size ≤ _ by omega)
    rw [s1] at Y0
    rw [s2] at Z0
    have hb0 := bl3 w7 (.cells #[] 41) (.cells #[] 41) (.cells #[] 41)
    clear s1 s2
    go_wp2_with fail
    generalize ((w7.alloc (.cells #[] 41)).alloc (.cells #[] 41)).alloc (.cells #[] 41) = v0 at *
    have hxy : Off (.slice (some ⟨w7.heap.size, 0, none⟩) 0 0) (.slice (some ⟨w7.heap.size + 1, 0, none⟩) 0 0) := fun g h1 h2 => by simp [Value.ownBlock] at h1 h2; omega
    have hxz : Off (.slice (some ⟨w7.heap.size, 0, none⟩) 0 0) (.slice (some ⟨w7.heap.size + 1 + 1, 0, none⟩) 0 0) := fun g h1 h2 => by simp [Value.ownBlock] at h1 h2; omega
    have hyz : Off (.slice (some ⟨w7.heap.size + 1, 0, none⟩) 0 0) (.slice (some ⟨w7.heap.size + 1 + 1, 0, none⟩) 0 0) := fun g h1 h2 => by simp [Value.ownBlock] at h1 h2; omega
    go_loopw [16, 17, 18, 19] (fun x y z i wr => ∃ (k qx qy qz : Nat) (gx gy gz : Option Addr) (cx cy cz : Nat), k ≤ n4 ∧ i = .int .i64 k ∧ x = .slice gx qx cx ∧ y = .slice gy qy cy ∧ z = .slice gz qz cz ∧ qx ≤ k ∧ qy ≤ k ∧ qz ≤ k ∧ Hid (((F.take k).filter fun p => p.hl && p.hr).length = qx) ∧ Hid (((F.take k).filter fun p => p.hl).length = qy) ∧ Hid (((F.take k).filter fun p => p.hr).length = qz) ∧
      wr.ownsRow w7.heap.size 41 5 (.slice gx qx cx) qx (flatP ((F.take k).filter fun p => p.hl && p.hr)) ∧ wr.ownsRow w7.heap.size 41 5 (.slice gy qy cy) qy (flatP ((F.take k).filter fun p => p.hl)) ∧ wr.ownsRow w7.heap.size 41 5 (.slice gz qz cz) qz (flatP ((F.take k).filter fun p => p.hr)) ∧
      Hid (Off (.slice gx qx cx) (.slice gy qy cy)) ∧ Hid (Off (.slice gx qx cx) (.slice gz qz cz)) ∧ Hid (Off (.slice gy qy cy) (.slice gz qz cz)) ∧ Below w7.heap.size w7 wr) (fun _ _ _ i _ => n4 - (intOf i).toNat)
    case atStart => exact ⟨0, 0, 0, 0, _, _, _, _, _, _, Nat.zero_le _, rfl, rfl, rfl, rfl, Nat.le_refl _, Nat.le_refl _, Nat.le_refl _, Lib.hid rfl, Lib.hid rfl, Lib.hid rfl, X0, Y0, Z0, Lib.hid hxy, Lib.hid hxz, Lib.hid hyz, hb0⟩
    case round =>
      obtain ⟨k, qx, qy, qz, gx, gy, gz, cx, cy, cz, hk, rfl, rfl, rfl, rfl, hqx, hqy, hqz, NX, NY, NZ, X, Y, Z, OXY, OXZ, OYZ, hb⟩ := hrel
      clear X0 Y0 Z0 hxy hxz hyz hb0
      by_cases hlt : k < n4
      · obtain ⟨b1, o1, p, rfl, hB1, hp, c0, c1, c2, c3, c4⟩ := (P.below hb (Nat.le_refl _)).pair hlt
        have hW : w7.heap.size ≤ wr.heap.size := hb.size
        have CC := Lib.hid (show ∀ W, Below w7.heap.size w7 W → W.cell? ⟨b1, o1 + k * 5, none⟩ = some (.string p.key) ∧ W.cell? ⟨b1, o1 + k * 5 + 1, none⟩ = some (.string p.l) ∧ W.cell? ⟨b1, o1 + k * 5 + 2, none⟩ = some (.string p.r) ∧ W.cell? ⟨b1, o1 + k * 5 + 3, none⟩ = some (.bool p.hl) ∧ W.cell? ⟨b1, o1 + k * 5 + 4, none⟩ = some (.bool p.hr) from fun W hW => by
          obtain ⟨b2, o2, p2, e2, _, hp2, d0, d1, d2, d3, d4⟩ := (P.below hW (Nat.le_refl _)).pair hlt
          injection e2 with e2
          injection e2 with e3 e4
          subst e3 e4
          obtain rfl : p = p2 := by rw [hp] at hp2; injection hp2
          exact ⟨d0, d1, d2, d3, d4⟩)
        have HP := Lib.hid hp
        obtain ⟨pk, pl, pr, ph, pi⟩ := p
        clear hp c0 c1 c2 c3 c4
        cases ph
        · cases pi
          · have PX := Lib.hid (pick_no (q := fun p => p.hl && p.hr) HP.out rfl)
            have PY := Lib.hid (pick_no (q := fun p => p.hl) HP.out rfl)
            have PZ := Lib.hid (pick_no (q := fun p => p.hr) HP.out rfl)
            obtain ⟨c0, c1, c2, c3, c4⟩ := CC.out wr hb
            have EX : Hid (((F.take (k + 1)).filter fun p => p.hl && p.hr).length = qx) := Lib.hid (by rw [PX.out, NX.out])
            have EY : Hid (((F.take (k + 1)).filter fun p => p.hl).length = qy) := Lib.hid (by rw [PY.out, NY.out])
            have EZ : Hid (((F.take (k + 1)).filter fun p => p.hr).length = qz) := Lib.hid (by rw [PZ.out, NZ.out])
            rw [← PX.out] at X
            rw [← PY.out] at Y
            rw [← PZ.out] at Z
            have HX := Lib.hid X
            have HY := Lib.hid Y
            have HZ := Lib.hid Z
            clear X Y Z NX NY NZ PX PY PZ HP CC
            go_wp2_with fail
            go_roundw
            case rel => exact ⟨k + 1, _, _, _, _, _, _, _, _, _, by omega, by go_num, rfl, rfl, rfl, by omega, by omega, by omega, EX, EY, EZ, HX.out, HY.out, HZ.out, OXY, OXZ, OYZ, hb⟩
            case measure => simp [intOf]; omega
          · have PX := Lib.hid (pick_no (q := fun p => p.hl && p.hr) HP.out rfl)
            have PY := Lib.hid (pick_no (q := fun p => p.hl) HP.out rfl)
            have PZ := Lib.hid (pick_yes (q := fun p => p.hr) HP.out rfl)
            have hm1 : qz + 1 ≤ maxLen := by unfold maxLen; omega
            have hm2 : (qz + 1) * 56 ≤ 140737488355328 := by omega
            have HC := Lib.hid (cell_pair_new wr pk pl pr false true 41)
            have hW1 : w7.heap.size ≤ (wr.alloc (.cells #[.string pk, .string pl, .string pr, .bool false, .bool true] 41)).heap.size := Nat.le_trans hW (bl1 wr _).size
            obtain ⟨c0, c1, c2, c3, c4⟩ := CC.out wr hb
            go_wp2_with (at_builtin; refine wpList_append_own_at _ rfl _ _ 24 rfl w7.heap.size 41 i0 (.agg #[.string ⟨#[]⟩, .string ⟨#[]⟩, .string ⟨#[]⟩, .bool false, .bool false]) 5 56 Try.underlying24 hi hz0 hz1 hz2 rfl (by decide) (.slice gz qz cz) _ _ rfl (Z.alloc _) ⟨wr.heap.size, 0, none⟩ 1 1 [.string pk, .string pl, .string pr, .bool false, .bool true] rfl rfl HC.out (pair_one ⟨pk, pl, pr, false, true⟩) hm1 hm2 hW1 ?_; intro v' u1 hO4 hg4 hx4 hat; clear hx4; refine halt_ ?_)
            refine unhalt_ ?_
            rw [World.size_alloc] at hat
            obtain ⟨a', cap', rfl⟩ := own_slice' hO4
            have hb_u1 := hb.trans (app_below Z hW hg4)
            have hW_u1 : w7.heap.size ≤ u1.heap.size := hb_u1.size
            have nX := own_off (X.alloc _) hg4 OXZ.out
            have offX := (OXZ.out).next X hat
            have nY := own_off (Y.alloc _) hg4 OYZ.out
            have offY := (OYZ.out).next Y hat
            rw [← flatP_snoc' _ ⟨pk, pl, pr, false, true⟩] at hO4
            clear X Y Z hb hg4 hat hm1 hm2 hW1 HC c0 c1 c2 c3 c4
            have Z := hO4
            have X := nX
            have Y := nY
            clear hO4 nX nY
            clear OXZ
            have OXZ := Lib.hid offX
            clear offX
            clear OYZ
            have OYZ := Lib.hid offY
            clear offY
            obtain ⟨gz, hgz⟩ : ∃ g, a' = g := ⟨_, rfl⟩
            obtain ⟨cz, hcz⟩ : ∃ g, cap' = g := ⟨_, rfl⟩
            subst hgz hcz
            obtain ⟨c0, c1, c2, c3, c4⟩ := CC.out u1 hb_u1
            have EX : Hid (((F.take (k + 1)).filter fun p => p.hl && p.hr).length = qx) := Lib.hid (by rw [PX.out, NX.out])
            have EY : Hid (((F.take (k + 1)).filter fun p => p.hl).length = qy) := Lib.hid (by rw [PY.out, NY.out])
            have EZ : Hid (((F.take (k + 1)).filter fun p => p.hr).length = qz + 1) := Lib.hid (by rw [PZ.out, List.length_append, NZ.out]; rfl)
            rw [← PX.out] at X
            rw [← PY.out] at Y
            rw [← PZ.out] at Z
            have HX := Lib.hid X
            have HY := Lib.hid Y
            have HZ := Lib.hid Z
            clear X Y Z NX NY NZ PX PY PZ HP CC
            go_wp2_with fail
            go_roundw
            case rel => exact ⟨k + 1, _, _, _, _, _, _, _, _, _, by omega, by go_num, rfl, rfl, rfl, by omega, by omega, by omega, EX, EY, EZ, HX.out, HY.out, HZ.out, OXY, OXZ, OYZ, hb_u1⟩
            case measure => simp [intOf]; omega
        · cases pi
          · have PX := Lib.hid (pick_no (q := fun p => p.hl && p.hr) HP.out rfl)
            have PY := Lib.hid (pick_yes (q := fun p => p.hl) HP.out rfl)
            have PZ := Lib.hid (pick_no (q := fun p => p.hr) HP.out rfl)
            have hm1 : qy + 1 ≤ maxLen := by unfold maxLen; omega
            have hm2 : (qy + 1) * 56 ≤ 140737488355328 := by omega
            have HC := Lib.hid (cell_pair_new wr pk pl pr true false 41)
            have hW1 : w7.heap.size ≤ (wr.alloc (.cells #[.string pk, .string pl, .string pr, .bool true, .bool false] 41)).heap.size := Nat.le_trans hW (bl1 wr _).size
            obtain ⟨c0, c1, c2, c3, c4⟩ := CC.out wr hb
            go_wp2_with (at_builtin; refine wpList_append_own_at _ rfl _ _ 24 rfl w7.heap.size 41 i0 (.agg #[.string ⟨#[]⟩, .string ⟨#[]⟩, .string ⟨#[]⟩, .bool false, .bool false]) 5 56 Try.underlying24 hi hz0 hz1 hz2 rfl (by decide) (.slice gy qy cy) _ _ rfl (Y.alloc _) ⟨wr.heap.size, 0, none⟩ 1 1 [.string pk, .string pl, .string pr, .bool true, .bool false] rfl rfl HC.out (pair_one ⟨pk, pl, pr, true, false⟩) hm1 hm2 hW1 ?_; intro v' u1 hO4 hg4 hx4 hat; clear hx4; refine halt_ ?_)
            refine unhalt_ ?_
            rw [World.size_alloc] at hat
            obtain ⟨a', cap', rfl⟩ := own_slice' hO4
            have hb_u1 := hb.trans (app_below Y hW hg4)
            have hW_u1 : w7.heap.size ≤ u1.heap.size := hb_u1.size
            have nX := own_off (X.alloc _) hg4 OXY.out
            have offX := (OXY.out).next X hat
            have nZ := own_off (Z.alloc _) hg4 OYZ.out.symm
            have offZ := (OYZ.out.symm).next Z hat
            rw [← flatP_snoc' _ ⟨pk, pl, pr, true, false⟩] at hO4
            clear X Y Z hb hg4 hat hm1 hm2 hW1 HC c0 c1 c2 c3 c4
            have Y := hO4
            have X := nX
            have Z := nZ
            clear hO4 nX nZ
            clear OXY
            have OXY := Lib.hid offX
            clear offX
            clear OYZ
            have OYZ := Lib.hid offZ.symm
            clear offZ
            obtain ⟨gy, hgy⟩ : ∃ g, a' = g := ⟨_, rfl⟩
            obtain ⟨cy, hcy⟩ : ∃ g, cap' = g := ⟨_, rfl⟩
            subst hgy hcy
            obtain ⟨c0, c1, c2, c3, c4⟩ := CC.out u1 hb_u1
            have EX : Hid (((F.take (k + 1)).filter fun p => p.hl && p.hr).length = qx) := Lib.hid (by rw [PX.out, NX.out])
            have EY : Hid (((F.take (k + 1)).filter fun p => p.hl).length = qy + 1) := Lib.hid (by rw [PY.out, List.length_append, NY.out]; rfl)
            have EZ : Hid (((F.take (k + 1)).filter fun p => p.hr).length = qz) := Lib.hid (by rw [PZ.out, NZ.out])
            rw [← PX.out] at X
            rw [← PY.out] at Y
            rw [← PZ.out] at Z
            have HX := Lib.hid X
            have HY := Lib.hid Y
            have HZ := Lib.hid Z
            clear X Y Z NX NY NZ PX PY PZ HP CC
            go_wp2_with fail
            go_roundw
            case rel => exact ⟨k + 1, _, _, _, _, _, _, _, _, _, by omega, by go_num, rfl, rfl, rfl, by omega, by omega, by omega, EX, EY, EZ, HX.out, HY.out, HZ.out, OXY, OXZ, OYZ, hb_u1⟩
            case measure => simp [intOf]; omega
          · have PX := Lib.hid (pick_yes (q := fun p => p.hl && p.hr) HP.out rfl)
            have PY := Lib.hid (pick_yes (q := fun p => p.hl) HP.out rfl)
            have PZ := Lib.hid (pick_yes (q := fun p => p.hr) HP.out rfl)
            have hm1 : qx + 1 ≤ maxLen := by unfold maxLen; omega
            have hm2 : (qx + 1) * 56 ≤ 140737488355328 := by omega
            have HC := Lib.hid (cell_pair_new wr pk pl pr true true 41)
            have hW1 : w7.heap.size ≤ (wr.alloc (.cells #[.string pk, .string pl, .string pr, .bool true, .bool true] 41)).heap.size := Nat.le_trans hW (bl1 wr _).size
            obtain ⟨c0, c1, c2, c3, c4⟩ := CC.out wr hb
            go_wp2_with (at_builtin; refine wpList_append_own_at _ rfl _ _ 24 rfl w7.heap.size 41 i0 (.agg #[.string ⟨#[]⟩, .string ⟨#[]⟩, .string ⟨#[]⟩, .bool false, .bool false]) 5 56 Try.underlying24 hi hz0 hz1 hz2 rfl (by decide) (.slice gx qx cx) _ _ rfl (X.alloc _) ⟨wr.heap.size, 0, none⟩ 1 1 [.string pk, .string pl, .string pr, .bool true, .bool true] rfl rfl HC.out (pair_one ⟨pk, pl, pr, true, true⟩) hm1 hm2 hW1 ?_; intro v' u1 hO4 hg4 hx4 hat; clear hx4; refine halt_ ?_)
            refine unhalt_ ?_
            rw [World.size_alloc] at hat
            obtain ⟨a', cap', rfl⟩ := own_slice' hO4
            have hb_u1 := hb.trans (app_below X hW hg4)
            have hW_u1 : w7.heap.size ≤ u1.heap.size := hb_u1.size
            have nY := own_off (Y.alloc _) hg4 OXY.out.symm
            have offY := (OXY.out.symm).next Y hat
            have nZ := own_off (Z.alloc _) hg4 OXZ.out.symm
            have offZ := (OXZ.out.symm).next Z hat
            rw [← flatP_snoc' _ ⟨pk, pl, pr, true, true⟩] at hO4
            clear X Y Z hb hg4 hat hm1 hm2 hW1 HC c0 c1 c2 c3 c4
            have X := hO4
            have Y := nY
            have Z := nZ
            clear hO4 nY nZ
            clear OXY
            have OXY := Lib.hid offY.symm
            clear offY
            clear OXZ
            have OXZ := Lib.hid offZ.symm
            clear offZ
            obtain ⟨gx, hgx⟩ : ∃ g, a' = g := ⟨_, rfl⟩
            obtain ⟨cx, hcx⟩ : ∃ g, cap' = g := ⟨_, rfl⟩
            subst hgx hcx
            have hm1 : qy + 1 ≤ maxLen := by unfold maxLen; omega
            have hm2 : (qy + 1) * 56 ≤ 140737488355328 := by omega
            have HC := Lib.hid (cell_pair_new u1 pk pl pr true true 41)
            have hW1 : w7.heap.size ≤ (u1.alloc (.cells #[.string pk, .string pl, .string pr, .bool true, .bool true] 41)).heap.size := Nat.le_trans hW_u1 (bl1 u1 _).size
            obtain ⟨c0, c1, c2, c3, c4⟩ := CC.out u1 hb_u1
            go_wp2_with (at_builtin; refine wpList_append_own_at _ rfl _ _ 24 rfl w7.heap.size 41 i0 (.agg #[.string ⟨#[]⟩, .string ⟨#[]⟩, .string ⟨#[]⟩, .bool false, .bool false]) 5 56 Try.underlying24 hi hz0 hz1 hz2 rfl (by decide) (.slice gy qy cy) _ _ rfl (Y.alloc _) ⟨u1.heap.size, 0, none⟩ 1 1 [.string pk, .string pl, .string pr, .bool true, .bool true] rfl rfl HC.out (pair_one ⟨pk, pl, pr, true, true⟩) hm1 hm2 hW1 ?_; intro v' u2 hO4 hg4 hx4 hat; clear hx4; refine halt_ ?_)
            refine unhalt_ ?_
            rw [World.size_alloc] at hat
            obtain ⟨a', cap', rfl⟩ := own_slice' hO4
            have hb_u2 := hb_u1.trans (app_below Y hW_u1 hg4)
            have hW_u2 : w7.heap.size ≤ u2.heap.size := hb_u2.size
            have nX := own_off (X.alloc _) hg4 OXY.out
            have offX := (OXY.out).next X hat
            have nZ := own_off (Z.alloc _) hg4 OYZ.out.symm
            have offZ := (OYZ.out.symm).next Z hat
            rw [← flatP_snoc' _ ⟨pk, pl, pr, true, true⟩] at hO4
            clear X Y Z hb_u1 hg4 hat hm1 hm2 hW1 HC c0 c1 c2 c3 c4
            have Y := hO4
            have X := nX
            have Z := nZ
            clear hO4 nX nZ
            clear OXY
            have OXY := Lib.hid offX
            clear offX
            clear OYZ
            have OYZ := Lib.hid offZ.symm
            clear offZ
            obtain ⟨gy, hgy⟩ : ∃ g, a' = g := ⟨_, rfl⟩
            obtain ⟨cy, hcy⟩ : ∃ g, cap' = g := ⟨_, rfl⟩
            subst hgy hcy
            have hm1 : qz + 1 ≤ maxLen := by unfold maxLen; omega
            have hm2 : (qz + 1) * 56 ≤ 140737488355328 := by omega
            have HC := Lib.hid (cell_pair_new u2 pk pl pr true true 41)
            have hW1 : w7.heap.size ≤ (u2.alloc (.cells #[.string pk, .string pl, .string pr, .bool true, .bool true] 41)).heap.size := Nat.le_trans hW_u2 (bl1 u2 _).size
            obtain ⟨c0, c1, c2, c3, c4⟩ := CC.out u2 hb_u2
            go_wp2_with (at_builtin; refine wpList_append_own_at _ rfl _ _ 24 rfl w7.heap.size 41 i0 (.agg #[.string ⟨#[]⟩, .string ⟨#[]⟩, .string ⟨#[]⟩, .bool false, .bool false]) 5 56 Try.underlying24 hi hz0 hz1 hz2 rfl (by decide) (.slice gz qz cz) _ _ rfl (Z.alloc _) ⟨u2.heap.size, 0, none⟩ 1 1 [.string pk, .string pl, .string pr, .bool true, .bool true] rfl rfl HC.out (pair_one ⟨pk, pl, pr, true, true⟩) hm1 hm2 hW1 ?_; intro v' u3 hO4 hg4 hx4 hat; clear hx4; refine halt_ ?_)
            refine unhalt_ ?_
            rw [World.size_alloc] at hat
            obtain ⟨a', cap', rfl⟩ := own_slice' hO4
            have hb_u3 := hb_u2.trans (app_below Z hW_u2 hg4)
            have hW_u3 : w7.heap.size ≤ u3.heap.size := hb_u3.size
            have nX := own_off (X.alloc _) hg4 OXZ.out
            have offX := (OXZ.out).next X hat
            have nY := own_off (Y.alloc _) hg4 OYZ.out
            have offY := (OYZ.out).next Y hat
            rw [← flatP_snoc' _ ⟨pk, pl, pr, true, true⟩] at hO4
            clear X Y Z hb_u2 hg4 hat hm1 hm2 hW1 HC c0 c1 c2 c3 c4
            have Z := hO4
            have X := nX
            have Y := nY
            clear hO4 nX nY
            clear OXZ
            have OXZ := Lib.hid offX
            clear offX
            clear OYZ
            have OYZ := Lib.hid offY
            clear offY
            obtain ⟨gz, hgz⟩ : ∃ g, a' = g := ⟨_, rfl⟩
            obtain ⟨cz, hcz⟩ : ∃ g, cap' = g := ⟨_, rfl⟩
            subst hgz hcz
            obtain ⟨c0, c1, c2, c3, c4⟩ := CC.out u3 hb_u3
            have EX : Hid (((F.take (k + 1)).filter fun p => p.hl && p.hr).length = qx + 1) := Lib.hid (by rw [PX.out, List.length_append, NX.out]; rfl)
            have EY : Hid (((F.take (k + 1)).filter fun p => p.hl).length = qy + 1) := Lib.hid (by rw [PY.out, List.length_append, NY.out]; rfl)
            have EZ : Hid (((F.take (k + 1)).filter fun p => p.hr).length = qz + 1) := Lib.hid (by rw [PZ.out, List.length_append, NZ.out]; rfl)
            rw [← PX.out] at X
            rw [← PY.out] at Y
            rw [← PZ.out] at Z
            have HX := Lib.hid X
            have HY := Lib.hid Y
            have HZ := Lib.hid Z
            clear X Y Z NX NY NZ PX PY PZ HP CC
            go_wp2_with fail
            go_roundw
            case rel => exact ⟨k + 1, _, _, _, _, _, _, _, _, _, by omega, by go_num, rfl, rfl, rfl, by omega, by omega, by omega, EX, EY, EZ, HX.out, HY.out, HZ.out, OXY, OXZ, OYZ, hb_u3⟩
            case measure => simp [intOf]; omega
      · obtain rfl : k = n4 := by omega
        have tk : F.take k = F := List.take_of_length_le (by rw [HN4.out]; omega)
        rw [tk] at X Y Z
        have NX2 := NX.out
        have NY2 := NY.out
        have NZ2 := NZ.out
        rw [tk, HF1.out, HN1.out] at NX2
        rw [tk, HF2.out, HN2.out] at NY2
        rw [tk, HF3.out, HN3.out] at NZ2
        rw [HF1.out] at X
        rw [HF2.out] at Y
        rw [HF3.out] at Z
        clear tk NX NY NZ HF1 HF2 HF3 HN1 HN2 HN3 HN4 OXY OXZ OYZ
        subst NX2 NY2 NZ2
        have B9 := B.trans (hb.mono B.size)
        have A1 := (R1.below hb (Nat.le_refl _)).more hb.size
        have A2 := (R2.below hb (Nat.le_refl _)).more hb.size
        have A3 := (R3.below hb (Nat.le_refl _)).more hb.size
        have X2 := Rd.of_own X
        have Y2 := Rd.of_own Y
        have Z2 := Rd.of_own Z
        clear X Y Z R1 R2 R3 P B hb
        go_wp2_with fail
        refine (samePairs_same gx pa n1 cx pc G1 wr hl1 X2 A1).mono ?_
        rintro e t1 ⟨rfl, hb⟩
        have B10 := B9.trans (hb.mono B9.size)
        replace Y2 := (Y2.below hb (Nat.le_refl _)).more hb.size
        replace Z2 := (Z2.below hb (Nat.le_refl _)).more hb.size
        replace A2 := (A2.below hb (Nat.le_refl _)).more hb.size
        replace A3 := (A3.below hb (Nat.le_refl _)).more hb.size
        clear hb B9 X2 A1
        go_wp2_with fail
        refine (samePairs_same gy ra n2 cy rc G2 t1 hl2 Y2 A2).mono ?_
        rintro e t2 ⟨rfl, hb⟩
        have B11 := B10.trans (hb.mono B10.size)
        replace Z2 := (Z2.below hb (Nat.le_refl _)).more hb.size
        replace A3 := (A3.below hb (Nat.le_refl _)).more hb.size
        clear hb B10 Y2 A2
        go_wp2_with fail
        refine (samePairs_same gz sa n3 cz sc G3 t2 hl3 Z2 A3).mono ?_
        rintro e t3 ⟨rfl, hb⟩
        have B12 := B11.trans (hb.mono B11.size)
        clear hb B11 Z2 A3
        go_wp2_with fail
        go_ret
        exact ⟨rfl, B12⟩
end Go.Proofs.Ytbcdpgjjfllgjaa
