/-
  laws.FnMergeJoin returns true for every code. No conditions.
-/
import Derived.Test.YtbcdpgjjfllgjaaOpenBytes
import Derived.Test.YtbcdpgjjfllgjaaDrawJoin
import Derived.Test.YtbcdpgjjfllgjaaAlike
import Derived.Test.YtbcdpgjjfllgjaaMergeFns
namespace Go.Proofs.Ytbcdpgjjfllgjaa
open Go.RowKit
theorem cap_le {w : World} {base e s n c : Nat} {a : Option Addr} {xs : List Value} (h : w.ownsRow base e s (.slice a n c) n xs) : n ≤ c := by
  obtain ⟨g, c', e, h⟩ := own_slice2 h
  injection e with _ _ e
  rw [e]; exact h
theorem rowsOk_perm5 {a b : List RowV} (p : a.Perm b) : rowsOk a = rowsOk b := by
  unfold rowsOk
  rw [p.length_eq, p.all_eq]
theorem IsBy.keep' {w w' : World} {a : Option Addr} {n : Nat} (h : IsBy w w.heap.size a n) (hb : Below w.heap.size w w') : IsBy w' w'.heap.size a n := by
  obtain ⟨xs, h1, h2⟩ := h
  exact ⟨xs, (h1.below hb (Nat.le_refl _)).more hb.size, h2⟩
theorem joinOfB_perm {a b c d : List RowV} (n : Int) (h : a.Perm c) (k : b.Perm d) : joinOfB a b n = joinOfB c d n := by
  unfold joinOfB
  rw [rowsOk_perm5 h, rowsOk_perm5 k]
theorem joinOfS_perm {a b c d : List RowV} (n : Int) (h : a.Perm c) (k : b.Perm d) : joinOfS a b n = joinOfS c d n := by
  unfold joinOfS l5J
  rw [joinOfB_perm n h k, sortL_of_perm h, sortL_of_perm k, sortL_of_perm (h.append k)]
theorem merge_join {a b : List RowV} {n : Int} (h : mergeJoinB a b n = true) : joinOfB a b n = true ∧ joinOfS a b n = mergeJoinS a b n := by
  have hb : joinOfB a b n = true := by
    unfold mergeJoinB sortedOk at h
    simp only [Bool.and_eq_true] at h
    unfold joinOfB
    rw [h.1.1.1, h.1.2.1, h.2]; rfl
  exact ⟨hb, by rw [joinOf_yes hb, mergeJoin_yes h]⟩
set_option maxRecDepth 100000 in
set_option maxHeartbeats 1000000 in
theorem drawMergeJoin_any (a : Option Addr) (len cap : Nat) (w : World) (hl : len ≤ 1048576) (h : IsBy w w.heap.size a len) :
    Calls Try.prog 29 #[.slice a len cap] w fun e w' => ∃ (l : List RowV) (b : Option Addr) (c : Nat) (m : List RowV) (d : Option Addr) (f : Nat) (z : Int), l.length ≤ 7 ∧ (∀ r ∈ l, r.Ok) ∧ m.length ≤ 7 ∧ (∀ r ∈ m, r.Ok) ∧ l.length ≤ c ∧ m.length ≤ f ∧
      e = .returned (.tuple #[.slice b l.length c, .slice d m.length f, .int .i64 z]) ∧ Rd w' w'.heap.size 3 b l.length (flat l) ∧ Rd w' w'.heap.size 3 d m.length (flat m) ∧ Below w.heap.size w w' := by
  go_enter Try.func29, Try.ntmps29
  go_wp2_with fail
  refine (l1Open_any a len cap w hl h).mono ?_
  rintro e w1 ⟨rfl, hR1, hb1⟩
  have hlt := hR1.lt
  have I1 := h.keep' hb1
  go_wp2_with fail
  refine (drawJoinOf_any a len cap w1 hl I1).mono ?_
  rintro e w2 ⟨l, b, c, m, d, f, z, hll, hok, hml, hmok, rfl, hO, hP, hb2⟩
  have D2 := (Drew.refl hR1).and hb2
  have B2 := hb1.trans (hb2.mono hb1.size)
  have hc := cap_le hO
  have hf := cap_le hP
  go_wp2_with fail
  refine (once_lit w.heap.size len 12 _ _ D2.rdr (by omega) (by omega) (by omega)).mono ?_
  rintro e w3 ⟨q, rfl, hD3⟩
  have O3 := hD3.own hO hlt
  have P3 := hD3.own hP hlt
  have B3 := below_drew hb1 (D2.trans hD3)
  clear hO hP D2 hD3 B2 hb2 I1
  cases q
  · go_wp2_with fail
    refine (l3Sort_any _ l.length c l w3 (by omega) (Rd.of_own O3)).mono ?_
    rintro e w4 ⟨b4, c4, rfl, hO4, hb4⟩
    have P4 := own_below P3 hb4
    have B4 := B3.trans (hb4.mono B3.size)
    go_wp2_with fail
    refine (l3Sort_any _ m.length f m w4 (by omega) (Rd.of_own P4)).mono ?_
    rintro e w5 ⟨d5, f5, rfl, hP5, hb5⟩
    have O5 := own_below hO4 hb5
    have B5 := B4.trans (hb5.mono B4.size)
    have g1 := cap_le O5
    have g2 := cap_le hP5
    have R1 := Rd.of_own O5
    have R2 := Rd.of_own hP5
    have e1 := Lib.hid (sortL_length l)
    have e2 := Lib.hid (sortL_length m)
    have hok1 : ∀ r ∈ sortL l, r.Ok := fun r hr => hok r ((sortL_perm' l).mem_iff.1 hr)
    have hok2 : ∀ r ∈ sortL m, r.Ok := fun r hr => hmok r ((sortL_perm' m).mem_iff.1 hr)
    clear O3 P3 hO4 P4 B4 O5 hP5 hb4 hb5 B3
    go_wp2_with fail
    refine bodyPost_ret (v := .tuple #[.slice b4 l.length c4, .slice d5 m.length f5, .int .i64 z]) ?_ rfl ⟨sortL l, b4, c4, sortL m, d5, f5, z, by rw [e1.out]; exact hll, hok1, by rw [e2.out]; exact hml, hok2, by rw [e1.out]; exact g1, by rw [e2.out]; exact g2, by rw [e1.out, e2.out], by rw [e1.out]; exact R1, by rw [e2.out]; exact R2, B5⟩
    simp [results, Try.results29, go_sem]
  · have R1 := Rd.of_own O3
    have R2 := Rd.of_own P3
    clear O3 P3
    go_wp2_with fail
    refine bodyPost_ret (v := .tuple #[.slice (some ⟨b, 0, none⟩) l.length c, .slice (some ⟨d, 0, none⟩) m.length f, .int .i64 z]) ?_ rfl ⟨l, _, c, m, _, f, z, hll, hok, hml, hmok, hc, hf, rfl, R1, R2, B3⟩
    simp [results, Try.results29, go_sem]
set_option maxRecDepth 100000 in
set_option maxHeartbeats 4000000 in
theorem walk_MergeJoin (a : Option Addr) (len cap : Nat) (xs : List Value) (w : World) (hI : IsCode w a len cap xs) :
    Calls Try.prog 11 #[.slice a len cap] w fun e w' => e = .returned (.bool true) ∧ Below w.heap.size w w' := by
  have hI0 := hI.by_
  obtain ⟨hlc, hcm, _, _⟩ := hI
  go_enter Try.func11, Try.ntmps11
  go_wp2_with fail
  refine (big_any a len cap w (by omega)).mono ?_
  rintro e w0 ⟨rfl, rfl⟩
  by_cases hbig : 1048576 < len
  · have hd : decide (1048576 < len) = true := by simpa using hbig
    rw [hd]
    go_wp2_with fail
    go_ret
    exact ⟨rfl, Below.refl _ _⟩
  have hd : decide (1048576 < len) = false := by simpa using hbig
  rw [hd]
  go_wp2_with fail
  refine (drawMergeJoin_any a len cap w (by omega) hI0).mono ?_
  rintro e w1 ⟨l, lb, lc, m, mb, mc, z, hll, hok, hml, hmok, hlc2, hmc2, rfl, hL, hM, hb⟩
  have B := hb
  clear hb
  have L := hL
  have M := hM
  clear hL hM
  cases hq : mergeJoinB l m z
  · have hs0 : mergeJoinS l m z = [] := mergeJoin_no hq
    have hsl : 0 ≤ 4194304 := by omega
    have CI : ∀ w : World, Rd w w.heap.size 3 lb l.length (flat l) → Rd w w.heap.size 3 mb m.length (flat m) → Calls Try.prog 25 #[.slice lb l.length lc, .slice mb m.length mc, .int .i64 z] w (fun e w' => ∃ a c, e = .returned (.tuple #[.slice a 0 c, .bool false]) ∧ Below w.heap.size w w' ∧ w'.ownsRow w.heap.size 41 5 (.slice a 0 c) 0 (flatP [])) := fun w h h2 => by
      have := implMergeJoin_any lb l.length lc l mb m.length mc m z w hlc2 hmc2 (by omega) hok h (by omega) hmok h2
      unfold PairsB at this
      rw [hs0, hq] at this
      exact this
    have CS : ∀ w : World, Rd w w.heap.size 3 lb l.length (flat l) → Rd w w.heap.size 3 mb m.length (flat m) → Calls Try.prog 24 #[.slice lb l.length lc, .slice mb m.length mc, .int .i64 z] w (fun e w' => ∃ a c, e = .returned (.tuple #[.slice a 0 c, .bool false]) ∧ Below w.heap.size w w' ∧ w'.ownsRow w.heap.size 41 5 (.slice a 0 c) 0 (flatP [])) := fun w h h2 => by
      have := specMergeJoin_any lb l.length lc l mb m.length mc m z w (by omega) hok h (by omega) hmok h2
      unfold PairsB at this
      rw [hs0, hq] at this
      exact this
    have CJ : ∀ w : World, Rd w w.heap.size 3 lb l.length (flat l) → Rd w w.heap.size 3 mb m.length (flat m) → Calls Try.prog 18 #[.slice lb l.length lc, .slice mb m.length mc, .int .i64 z] w (PairsB w (joinOfS l m z) (joinOfB l m z)) := fun w h h2 => implJoinOf_any lb l.length lc l mb m.length mc m z w (by omega) hok h (by omega) hmok h2
    clear hs0 hq
    generalize joinOfS l m z = T at *
    generalize joinOfB l m z = t at *
    go_wp2_with fail
    refine (CI w1 L M).mono ?_
    rintro e w2 ⟨pa, pc, rfl, hb, hO⟩
    replace B := B.trans (hb.mono B.size)
    replace L := (L.below hb (Nat.le_refl _)).more hb.size
    replace M := (M.below hb (Nat.le_refl _)).more hb.size
    clear hb
    have P := Rd.of_own hO
    clear hO CI
    go_wp2_with fail
    refine (CS w2 L M).mono ?_
    rintro e w3 ⟨qa, qc, rfl, hb, hO⟩
    replace B := B.trans (hb.mono B.size)
    replace L := (L.below hb (Nat.le_refl _)).more hb.size
    replace M := (M.below hb (Nat.le_refl _)).more hb.size
    replace P := (P.below hb (Nat.le_refl _)).more hb.size
    clear hb
    have Q := Rd.of_own hO
    clear hO CS
    go_wp2_with fail
    refine (drawJoinOf_any a len cap w3 (by omega) (hI0.keep' B)).mono ?_
    rintro e w4 ⟨x, xb, xc, y, yb, yc, k, hxl, hxok, hyl, hyok, rfl, hO, hO2, hb⟩
    replace B := B.trans (hb.mono B.size)
    replace L := (L.below hb (Nat.le_refl _)).more hb.size
    replace M := (M.below hb (Nat.le_refl _)).more hb.size
    replace P := (P.below hb (Nat.le_refl _)).more hb.size
    replace Q := (Q.below hb (Nat.le_refl _)).more hb.size
    clear hb
    have X := Rd.of_own hO
    have Y := Rd.of_own hO2
    clear hO hO2
    have hs2 := joinOfS_le x y k
    obtain ⟨N2, hN2⟩ : ∃ N2, (joinOfS x y k).length = N2 := ⟨_, rfl⟩
    rw [hN2] at hs2
    have DI : ∀ w : World, Rd w w.heap.size 3 (some ⟨xb, 0, none⟩) x.length (flat x) → Rd w w.heap.size 3 (some ⟨yb, 0, none⟩) y.length (flat y) → Calls Try.prog 18 #[.slice (some ⟨xb, 0, none⟩) x.length xc, .slice (some ⟨yb, 0, none⟩) y.length yc, .int .i64 k] w (fun e w' => ∃ a c, e = .returned (.tuple #[.slice a N2 c, .bool (joinOfB x y k)]) ∧ Below w.heap.size w w' ∧ w'.ownsRow w.heap.size 41 5 (.slice a N2 c) N2 (flatP (joinOfS x y k))) := fun w h h2 => by
      have := implJoinOf_any (some ⟨xb, 0, none⟩) x.length xc x (some ⟨yb, 0, none⟩) y.length yc y k w (by omega) hxok h (by omega) hyok h2
      unfold PairsB at this
      rw [hN2] at this
      exact this
    have DS : ∀ w : World, Rd w w.heap.size 3 (some ⟨xb, 0, none⟩) x.length (flat x) → Rd w w.heap.size 3 (some ⟨yb, 0, none⟩) y.length (flat y) → Calls Try.prog 16 #[.slice (some ⟨xb, 0, none⟩) x.length xc, .slice (some ⟨yb, 0, none⟩) y.length yc, .int .i64 k] w (fun e w' => ∃ a c, e = .returned (.tuple #[.slice a N2 c, .bool (joinOfB x y k)]) ∧ Below w.heap.size w w' ∧ w'.ownsRow w.heap.size 41 5 (.slice a N2 c) N2 (flatP (joinOfS x y k))) := fun w h h2 => by
      have := specJoinOf_any (some ⟨xb, 0, none⟩) x.length xc x (some ⟨yb, 0, none⟩) y.length yc y k w (by omega) hxok h (by omega) hyok h2
      unfold PairsB at this
      rw [hN2] at this
      exact this
    have hxok2 : ∀ r ∈ x.reverse, r.Ok := fun r hr => hxok r (List.mem_reverse.1 hr)
    have hyok2 : ∀ r ∈ y.reverse, r.Ok := fun r hr => hyok r (List.mem_reverse.1 hr)
    have DB : ∀ (ba ca : Option Addr) (bc cc : Nat) (w : World), Rd w w.heap.size 3 ba x.length (flat x.reverse) → Rd w w.heap.size 3 ca y.length (flat y.reverse) → Calls Try.prog 18 #[.slice ba x.length bc, .slice ca y.length cc, .int .i64 k] w (fun e w' => ∃ a c, e = .returned (.tuple #[.slice a N2 c, .bool (joinOfB x y k)]) ∧ Below w.heap.size w w' ∧ w'.ownsRow w.heap.size 41 5 (.slice a N2 c) N2 (flatP (joinOfS x y k))) := fun ba ca bc cc w h h2 => by
      have := implJoinOf_any ba x.length bc x.reverse ca y.length cc y.reverse k w (by omega) hxok2 h (by omega) hyok2 h2
      unfold PairsB at this
      rw [joinOfS_perm k (List.reverse_perm x) (List.reverse_perm y), joinOfB_perm k (List.reverse_perm x) (List.reverse_perm y), hN2] at this
      exact this
    clear hN2 hxok2 hyok2
    generalize joinOfS x y k = F at *
    generalize joinOfB x y k = u at *
    have hne : (u != u) = false := by simp
    go_wp2_with fail
    refine (DI w4 X Y).mono ?_
    rintro e w5 ⟨ra, rc, rfl, hb, hO⟩
    replace B := B.trans (hb.mono B.size)
    replace L := (L.below hb (Nat.le_refl _)).more hb.size
    replace M := (M.below hb (Nat.le_refl _)).more hb.size
    replace P := (P.below hb (Nat.le_refl _)).more hb.size
    replace Q := (Q.below hb (Nat.le_refl _)).more hb.size
    replace X := (X.below hb (Nat.le_refl _)).more hb.size
    replace Y := (Y.below hb (Nat.le_refl _)).more hb.size
    clear hb
    have R := Rd.of_own hO
    clear hO DI
    go_wp2_with fail
    refine (DS w5 X Y).mono ?_
    rintro e w6 ⟨sa, sc, rfl, hb, hO⟩
    replace B := B.trans (hb.mono B.size)
    replace L := (L.below hb (Nat.le_refl _)).more hb.size
    replace M := (M.below hb (Nat.le_refl _)).more hb.size
    replace P := (P.below hb (Nat.le_refl _)).more hb.size
    replace Q := (Q.below hb (Nat.le_refl _)).more hb.size
    replace X := (X.below hb (Nat.le_refl _)).more hb.size
    replace Y := (Y.below hb (Nat.le_refl _)).more hb.size
    replace R := (R.below hb (Nat.le_refl _)).more hb.size
    clear hb
    have S := Rd.of_own hO
    clear hO DS
    go_wp2_with fail
    refine (samePairs_same pa qa 0 pc qc [] w6 hsl P Q).mono ?_
    rintro e w7 ⟨rfl, hb⟩
    replace B := B.trans (hb.mono B.size)
    replace L := (L.below hb (Nat.le_refl _)).more hb.size
    replace M := (M.below hb (Nat.le_refl _)).more hb.size
    replace P := (P.below hb (Nat.le_refl _)).more hb.size
    replace Q := (Q.below hb (Nat.le_refl _)).more hb.size
    replace X := (X.below hb (Nat.le_refl _)).more hb.size
    replace Y := (Y.below hb (Nat.le_refl _)).more hb.size
    replace R := (R.below hb (Nat.le_refl _)).more hb.size
    replace S := (S.below hb (Nat.le_refl _)).more hb.size
    clear hb
    clear Q
    go_wp2_with fail
    refine (samePairs_same ra sa N2 rc sc F w7 hs2 R S).mono ?_
    rintro e w8 ⟨rfl, hb⟩
    replace B := B.trans (hb.mono B.size)
    replace L := (L.below hb (Nat.le_refl _)).more hb.size
    replace M := (M.below hb (Nat.le_refl _)).more hb.size
    replace P := (P.below hb (Nat.le_refl _)).more hb.size
    replace X := (X.below hb (Nat.le_refl _)).more hb.size
    replace Y := (Y.below hb (Nat.le_refl _)).more hb.size
    replace R := (R.below hb (Nat.le_refl _)).more hb.size
    replace S := (S.below hb (Nat.le_refl _)).more hb.size
    clear hb
    clear S
    go_wp2_with fail
    refine (back_any _ x.length xc x w8 (by omega) X).mono ?_
    rintro e w9 ⟨ga, gc, rfl, hO, hb⟩
    replace B := B.trans (hb.mono B.size)
    replace L := (L.below hb (Nat.le_refl _)).more hb.size
    replace M := (M.below hb (Nat.le_refl _)).more hb.size
    replace P := (P.below hb (Nat.le_refl _)).more hb.size
    replace X := (X.below hb (Nat.le_refl _)).more hb.size
    replace Y := (Y.below hb (Nat.le_refl _)).more hb.size
    replace R := (R.below hb (Nat.le_refl _)).more hb.size
    clear hb
    have G := Rd.of_own hO
    clear hO
    go_wp2_with fail
    refine (back_any _ y.length yc y w9 (by omega) Y).mono ?_
    rintro e w10 ⟨ha, hc, rfl, hO, hb⟩
    replace B := B.trans (hb.mono B.size)
    replace L := (L.below hb (Nat.le_refl _)).more hb.size
    replace M := (M.below hb (Nat.le_refl _)).more hb.size
    replace P := (P.below hb (Nat.le_refl _)).more hb.size
    replace X := (X.below hb (Nat.le_refl _)).more hb.size
    replace Y := (Y.below hb (Nat.le_refl _)).more hb.size
    replace R := (R.below hb (Nat.le_refl _)).more hb.size
    replace G := (G.below hb (Nat.le_refl _)).more hb.size
    clear hb
    have H := Rd.of_own hO
    clear hO
    clear X
    clear Y
    go_wp2_with fail
    refine (DB ga ha gc hc w10 G H).mono ?_
    rintro e w11 ⟨va, vc, rfl, hb, hO⟩
    replace B := B.trans (hb.mono B.size)
    replace L := (L.below hb (Nat.le_refl _)).more hb.size
    replace M := (M.below hb (Nat.le_refl _)).more hb.size
    replace P := (P.below hb (Nat.le_refl _)).more hb.size
    replace R := (R.below hb (Nat.le_refl _)).more hb.size
    replace G := (G.below hb (Nat.le_refl _)).more hb.size
    replace H := (H.below hb (Nat.le_refl _)).more hb.size
    clear hb
    have V := Rd.of_own hO
    clear hO DB
    clear G
    clear H
    go_wp2_with fail
    refine (samePairs_same va ra N2 vc rc F w11 hs2 V R).mono ?_
    rintro e w12 ⟨rfl, hb⟩
    replace B := B.trans (hb.mono B.size)
    replace L := (L.below hb (Nat.le_refl _)).more hb.size
    replace M := (M.below hb (Nat.le_refl _)).more hb.size
    replace P := (P.below hb (Nat.le_refl _)).more hb.size
    replace R := (R.below hb (Nat.le_refl _)).more hb.size
    replace V := (V.below hb (Nat.le_refl _)).more hb.size
    clear hb
    clear V
    clear R
    go_wp2_with fail
    refine (CJ w12 L M).mono ?_
    rintro e w13 ⟨ea, ec, rfl, hb, hO⟩
    replace B := B.trans (hb.mono B.size)
    replace L := (L.below hb (Nat.le_refl _)).more hb.size
    replace M := (M.below hb (Nat.le_refl _)).more hb.size
    replace P := (P.below hb (Nat.le_refl _)).more hb.size
    clear hb
    clear hO CJ
    go_wp2_with fail
    go_ret
    exact ⟨rfl, B⟩
  · obtain ⟨hj1, hj2⟩ := merge_join hq
    have hsl := mergeJoinS_le l m z
    obtain ⟨N, hN⟩ : ∃ N, (mergeJoinS l m z).length = N := ⟨_, rfl⟩
    rw [hN] at hsl
    have CI : ∀ w : World, Rd w w.heap.size 3 lb l.length (flat l) → Rd w w.heap.size 3 mb m.length (flat m) → Calls Try.prog 25 #[.slice lb l.length lc, .slice mb m.length mc, .int .i64 z] w (fun e w' => ∃ a c, e = .returned (.tuple #[.slice a N c, .bool true]) ∧ Below w.heap.size w w' ∧ w'.ownsRow w.heap.size 41 5 (.slice a N c) N (flatP (mergeJoinS l m z))) := fun w h h2 => by
      have := implMergeJoin_any lb l.length lc l mb m.length mc m z w hlc2 hmc2 (by omega) hok h (by omega) hmok h2
      unfold PairsB at this
      rw [hq, hN] at this
      exact this
    have CS : ∀ w : World, Rd w w.heap.size 3 lb l.length (flat l) → Rd w w.heap.size 3 mb m.length (flat m) → Calls Try.prog 24 #[.slice lb l.length lc, .slice mb m.length mc, .int .i64 z] w (fun e w' => ∃ a c, e = .returned (.tuple #[.slice a N c, .bool true]) ∧ Below w.heap.size w w' ∧ w'.ownsRow w.heap.size 41 5 (.slice a N c) N (flatP (mergeJoinS l m z))) := fun w h h2 => by
      have := specMergeJoin_any lb l.length lc l mb m.length mc m z w (by omega) hok h (by omega) hmok h2
      unfold PairsB at this
      rw [hq, hN] at this
      exact this
    have CJ : ∀ w : World, Rd w w.heap.size 3 lb l.length (flat l) → Rd w w.heap.size 3 mb m.length (flat m) → Calls Try.prog 18 #[.slice lb l.length lc, .slice mb m.length mc, .int .i64 z] w (fun e w' => ∃ a c, e = .returned (.tuple #[.slice a N c, .bool true]) ∧ Below w.heap.size w w' ∧ w'.ownsRow w.heap.size 41 5 (.slice a N c) N (flatP (mergeJoinS l m z))) := fun w h h2 => by
      have := implJoinOf_any lb l.length lc l mb m.length mc m z w (by omega) hok h (by omega) hmok h2
      unfold PairsB at this
      rw [hj1, hj2, hN] at this
      exact this
    clear hj1 hj2 hN hq
    generalize mergeJoinS l m z = E at *
    go_wp2_with fail
    refine (CI w1 L M).mono ?_
    rintro e w2 ⟨pa, pc, rfl, hb, hO⟩
    replace B := B.trans (hb.mono B.size)
    replace L := (L.below hb (Nat.le_refl _)).more hb.size
    replace M := (M.below hb (Nat.le_refl _)).more hb.size
    clear hb
    have P := Rd.of_own hO
    clear hO CI
    go_wp2_with fail
    refine (CS w2 L M).mono ?_
    rintro e w3 ⟨qa, qc, rfl, hb, hO⟩
    replace B := B.trans (hb.mono B.size)
    replace L := (L.below hb (Nat.le_refl _)).more hb.size
    replace M := (M.below hb (Nat.le_refl _)).more hb.size
    replace P := (P.below hb (Nat.le_refl _)).more hb.size
    clear hb
    have Q := Rd.of_own hO
    clear hO CS
    go_wp2_with fail
    refine (drawJoinOf_any a len cap w3 (by omega) (hI0.keep' B)).mono ?_
    rintro e w4 ⟨x, xb, xc, y, yb, yc, k, hxl, hxok, hyl, hyok, rfl, hO, hO2, hb⟩
    replace B := B.trans (hb.mono B.size)
    replace L := (L.below hb (Nat.le_refl _)).more hb.size
    replace M := (M.below hb (Nat.le_refl _)).more hb.size
    replace P := (P.below hb (Nat.le_refl _)).more hb.size
    replace Q := (Q.below hb (Nat.le_refl _)).more hb.size
    clear hb
    have X := Rd.of_own hO
    have Y := Rd.of_own hO2
    clear hO hO2
    have hs2 := joinOfS_le x y k
    obtain ⟨N2, hN2⟩ : ∃ N2, (joinOfS x y k).length = N2 := ⟨_, rfl⟩
    rw [hN2] at hs2
    have DI : ∀ w : World, Rd w w.heap.size 3 (some ⟨xb, 0, none⟩) x.length (flat x) → Rd w w.heap.size 3 (some ⟨yb, 0, none⟩) y.length (flat y) → Calls Try.prog 18 #[.slice (some ⟨xb, 0, none⟩) x.length xc, .slice (some ⟨yb, 0, none⟩) y.length yc, .int .i64 k] w (fun e w' => ∃ a c, e = .returned (.tuple #[.slice a N2 c, .bool (joinOfB x y k)]) ∧ Below w.heap.size w w' ∧ w'.ownsRow w.heap.size 41 5 (.slice a N2 c) N2 (flatP (joinOfS x y k))) := fun w h h2 => by
      have := implJoinOf_any (some ⟨xb, 0, none⟩) x.length xc x (some ⟨yb, 0, none⟩) y.length yc y k w (by omega) hxok h (by omega) hyok h2
      unfold PairsB at this
      rw [hN2] at this
      exact this
    have DS : ∀ w : World, Rd w w.heap.size 3 (some ⟨xb, 0, none⟩) x.length (flat x) → Rd w w.heap.size 3 (some ⟨yb, 0, none⟩) y.length (flat y) → Calls Try.prog 16 #[.slice (some ⟨xb, 0, none⟩) x.length xc, .slice (some ⟨yb, 0, none⟩) y.length yc, .int .i64 k] w (fun e w' => ∃ a c, e = .returned (.tuple #[.slice a N2 c, .bool (joinOfB x y k)]) ∧ Below w.heap.size w w' ∧ w'.ownsRow w.heap.size 41 5 (.slice a N2 c) N2 (flatP (joinOfS x y k))) := fun w h h2 => by
      have := specJoinOf_any (some ⟨xb, 0, none⟩) x.length xc x (some ⟨yb, 0, none⟩) y.length yc y k w (by omega) hxok h (by omega) hyok h2
      unfold PairsB at this
      rw [hN2] at this
      exact this
    have hxok2 : ∀ r ∈ x.reverse, r.Ok := fun r hr => hxok r (List.mem_reverse.1 hr)
    have hyok2 : ∀ r ∈ y.reverse, r.Ok := fun r hr => hyok r (List.mem_reverse.1 hr)
    have DB : ∀ (ba ca : Option Addr) (bc cc : Nat) (w : World), Rd w w.heap.size 3 ba x.length (flat x.reverse) → Rd w w.heap.size 3 ca y.length (flat y.reverse) → Calls Try.prog 18 #[.slice ba x.length bc, .slice ca y.length cc, .int .i64 k] w (fun e w' => ∃ a c, e = .returned (.tuple #[.slice a N2 c, .bool (joinOfB x y k)]) ∧ Below w.heap.size w w' ∧ w'.ownsRow w.heap.size 41 5 (.slice a N2 c) N2 (flatP (joinOfS x y k))) := fun ba ca bc cc w h h2 => by
      have := implJoinOf_any ba x.length bc x.reverse ca y.length cc y.reverse k w (by omega) hxok2 h (by omega) hyok2 h2
      unfold PairsB at this
      rw [joinOfS_perm k (List.reverse_perm x) (List.reverse_perm y), joinOfB_perm k (List.reverse_perm x) (List.reverse_perm y), hN2] at this
      exact this
    clear hN2 hxok2 hyok2
    generalize joinOfS x y k = F at *
    generalize joinOfB x y k = u at *
    have hne : (u != u) = false := by simp
    go_wp2_with fail
    refine (DI w4 X Y).mono ?_
    rintro e w5 ⟨ra, rc, rfl, hb, hO⟩
    replace B := B.trans (hb.mono B.size)
    replace L := (L.below hb (Nat.le_refl _)).more hb.size
    replace M := (M.below hb (Nat.le_refl _)).more hb.size
    replace P := (P.below hb (Nat.le_refl _)).more hb.size
    replace Q := (Q.below hb (Nat.le_refl _)).more hb.size
    replace X := (X.below hb (Nat.le_refl _)).more hb.size
    replace Y := (Y.below hb (Nat.le_refl _)).more hb.size
    clear hb
    have R := Rd.of_own hO
    clear hO DI
    go_wp2_with fail
    refine (DS w5 X Y).mono ?_
    rintro e w6 ⟨sa, sc, rfl, hb, hO⟩
    replace B := B.trans (hb.mono B.size)
    replace L := (L.below hb (Nat.le_refl _)).more hb.size
    replace M := (M.below hb (Nat.le_refl _)).more hb.size
    replace P := (P.below hb (Nat.le_refl _)).more hb.size
    replace Q := (Q.below hb (Nat.le_refl _)).more hb.size
    replace X := (X.below hb (Nat.le_refl _)).more hb.size
    replace Y := (Y.below hb (Nat.le_refl _)).more hb.size
    replace R := (R.below hb (Nat.le_refl _)).more hb.size
    clear hb
    have S := Rd.of_own hO
    clear hO DS
    go_wp2_with fail
    refine (samePairs_same pa qa N pc qc E w6 hsl P Q).mono ?_
    rintro e w7 ⟨rfl, hb⟩
    replace B := B.trans (hb.mono B.size)
    replace L := (L.below hb (Nat.le_refl _)).more hb.size
    replace M := (M.below hb (Nat.le_refl _)).more hb.size
    replace P := (P.below hb (Nat.le_refl _)).more hb.size
    replace Q := (Q.below hb (Nat.le_refl _)).more hb.size
    replace X := (X.below hb (Nat.le_refl _)).more hb.size
    replace Y := (Y.below hb (Nat.le_refl _)).more hb.size
    replace R := (R.below hb (Nat.le_refl _)).more hb.size
    replace S := (S.below hb (Nat.le_refl _)).more hb.size
    clear hb
    clear Q
    go_wp2_with fail
    refine (samePairs_same ra sa N2 rc sc F w7 hs2 R S).mono ?_
    rintro e w8 ⟨rfl, hb⟩
    replace B := B.trans (hb.mono B.size)
    replace L := (L.below hb (Nat.le_refl _)).more hb.size
    replace M := (M.below hb (Nat.le_refl _)).more hb.size
    replace P := (P.below hb (Nat.le_refl _)).more hb.size
    replace X := (X.below hb (Nat.le_refl _)).more hb.size
    replace Y := (Y.below hb (Nat.le_refl _)).more hb.size
    replace R := (R.below hb (Nat.le_refl _)).more hb.size
    replace S := (S.below hb (Nat.le_refl _)).more hb.size
    clear hb
    clear S
    go_wp2_with fail
    refine (back_any _ x.length xc x w8 (by omega) X).mono ?_
    rintro e w9 ⟨ga, gc, rfl, hO, hb⟩
    replace B := B.trans (hb.mono B.size)
    replace L := (L.below hb (Nat.le_refl _)).more hb.size
    replace M := (M.below hb (Nat.le_refl _)).more hb.size
    replace P := (P.below hb (Nat.le_refl _)).more hb.size
    replace X := (X.below hb (Nat.le_refl _)).more hb.size
    replace Y := (Y.below hb (Nat.le_refl _)).more hb.size
    replace R := (R.below hb (Nat.le_refl _)).more hb.size
    clear hb
    have G := Rd.of_own hO
    clear hO
    go_wp2_with fail
    refine (back_any _ y.length yc y w9 (by omega) Y).mono ?_
    rintro e w10 ⟨ha, hc, rfl, hO, hb⟩
    replace B := B.trans (hb.mono B.size)
    replace L := (L.below hb (Nat.le_refl _)).more hb.size
    replace M := (M.below hb (Nat.le_refl _)).more hb.size
    replace P := (P.below hb (Nat.le_refl _)).more hb.size
    replace X := (X.below hb (Nat.le_refl _)).more hb.size
    replace Y := (Y.below hb (Nat.le_refl _)).more hb.size
    replace R := (R.below hb (Nat.le_refl _)).more hb.size
    replace G := (G.below hb (Nat.le_refl _)).more hb.size
    clear hb
    have H := Rd.of_own hO
    clear hO
    clear X
    clear Y
    go_wp2_with fail
    refine (DB ga ha gc hc w10 G H).mono ?_
    rintro e w11 ⟨va, vc, rfl, hb, hO⟩
    replace B := B.trans (hb.mono B.size)
    replace L := (L.below hb (Nat.le_refl _)).more hb.size
    replace M := (M.below hb (Nat.le_refl _)).more hb.size
    replace P := (P.below hb (Nat.le_refl _)).more hb.size
    replace R := (R.below hb (Nat.le_refl _)).more hb.size
    replace G := (G.below hb (Nat.le_refl _)).more hb.size
    replace H := (H.below hb (Nat.le_refl _)).more hb.size
    clear hb
    have V := Rd.of_own hO
    clear hO DB
    clear G
    clear H
    go_wp2_with fail
    refine (samePairs_same va ra N2 vc rc F w11 hs2 V R).mono ?_
    rintro e w12 ⟨rfl, hb⟩
    replace B := B.trans (hb.mono B.size)
    replace L := (L.below hb (Nat.le_refl _)).more hb.size
    replace M := (M.below hb (Nat.le_refl _)).more hb.size
    replace P := (P.below hb (Nat.le_refl _)).more hb.size
    replace R := (R.below hb (Nat.le_refl _)).more hb.size
    replace V := (V.below hb (Nat.le_refl _)).more hb.size
    clear hb
    clear V
    clear R
    go_wp2_with fail
    refine (CJ w12 L M).mono ?_
    rintro e w13 ⟨ea, ec, rfl, hb, hO⟩
    replace B := B.trans (hb.mono B.size)
    replace L := (L.below hb (Nat.le_refl _)).more hb.size
    replace M := (M.below hb (Nat.le_refl _)).more hb.size
    replace P := (P.below hb (Nat.le_refl _)).more hb.size
    clear hb
    have Z := Rd.of_own hO
    clear hO CJ
    go_wp2_with fail
    refine (samePairs_same ea pa N ec pc E w13 hsl Z P).mono ?_
    rintro e w14 ⟨rfl, hb⟩
    replace B := B.trans (hb.mono B.size)
    replace L := (L.below hb (Nat.le_refl _)).more hb.size
    replace M := (M.below hb (Nat.le_refl _)).more hb.size
    replace P := (P.below hb (Nat.le_refl _)).more hb.size
    replace Z := (Z.below hb (Nat.le_refl _)).more hb.size
    clear hb
    go_wp2_with fail
    go_ret
    exact ⟨rfl, B⟩
end Go.Proofs.Ytbcdpgjjfllgjaa
