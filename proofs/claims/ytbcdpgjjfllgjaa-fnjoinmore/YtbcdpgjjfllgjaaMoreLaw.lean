/-
  laws.FnJoinMore returns true for every code. No conditions.
-/
import Derived.Test.YtbcdpgjjfllgjaaOpenBytes
import Derived.Test.YtbcdpgjjfllgjaaDrawJoin
import Derived.Test.YtbcdpgjjfllgjaaMoreMath
namespace Go.Proofs.Ytbcdpgjjfllgjaa
open Go.RowKit
def PairV.same (x y : PairV) : Bool := x.key.toList == y.key.toList && (x.l.toList == y.l.toList && (x.r.toList == y.r.toList && (x.hl == y.hl && x.hr == y.hr)))
theorem PairV.same_iff {x y : PairV} : x.same y = true ↔ x = y := by
  obtain ⟨a, b, c, d, e⟩ := x
  obtain ⟨a', b', c', d', e'⟩ := y
  unfold PairV.same
  simp only [Bool.and_eq_true, beq_iff_eq, PairV.mk.injEq]
  constructor
  · rintro ⟨h1, h2, h3, h4, h5⟩
    exact ⟨ext_toList h1, ext_toList h2, ext_toList h3, h4, h5⟩
  · rintro ⟨rfl, rfl, rfl, rfl, rfl⟩
    exact ⟨rfl, rfl, rfl, rfl, rfl⟩
theorem pair_eql (x y : PairV) (w : World) : (binOp .eql 41 (.agg #[.string x.key, .string x.l, .string x.r, .bool x.hl, .bool x.hr]) (.agg #[.string y.key, .string y.l, .string y.r, .bool y.hl, .bool y.hr])).run Try.prog w = .ok (.bool (x.same y)) w := by
  have u3 := Try.underlying9
  have u4 := Try.underlying4
  have hS : Try.prog.underlying 41 = some (.struct (Try.prog.fieldsOf 41)) := by kernel_rfl
  have hp : Try.prog.stoodInHeld 41 = false := by kernel_rfl
  rw [run_eql_struct, show (10000 : Nat) = 9999 + 1 from rfl, run_equalIn_agg w 9999 41 _ _ hS hp]
  simp only [Program.fieldsOf, Try.underlying41]
  go_simp
  unfold PairV.same
  by_cases h1 : x.key.toList = y.key.toList <;> by_cases h2 : x.l.toList = y.l.toList <;> by_cases h3 : x.r.toList = y.r.toList <;> by_cases h4 : x.hl = y.hl <;> by_cases h5 : x.hr = y.hr <;> simp [h1, h2, h3, h4, h5]
theorem Rd.first {w : World} {B n k : Nat} {a : Option Addr} {rs : List RowV} (h : Rd w B 3 a n (flat rs)) (hk : k ≤ n) : Rd w B 3 a k (flat (rs.take k)) := h.head hk
set_option maxRecDepth 100000 in
set_option maxHeartbeats 4000000 in
theorem walk_JoinMore (a : Option Addr) (len cap : Nat) (xs : List Value) (w : World) (hI : IsCode w a len cap xs) :
    Calls Try.prog 9 #[.slice a len cap] w fun e w' => e = .returned (.bool true) ∧ Below w.heap.size w w' := by
  have hI0 := hI.by_
  obtain ⟨hlc, hcm, _, _⟩ := hI
  go_enter Try.func9, Try.ntmps9
  go_wp2_with fail
  refine (big_any a len cap w (by omega)).mono ?_
  rintro e w0 ⟨rfl, rfl⟩
  by_cases hbig : 1048576 < len
  · have hd : decide (1048576 < len) = true := by simpa using hbig
    rw [hd]
    go_wp2_with fail
    go_ret
    exact ⟨rfl, Below.refl _ _⟩
  have hd : decide (1048576 < len) = false := by simpa using hbig
  rw [hd]
  go_wp2_with fail
  refine (drawJoinOf_any a len cap w (by omega) hI0).mono ?_
  rintro e w1 ⟨l, lb, lc, m, mb, mc, z, hll, hok, hml, hmok, rfl, hO, hP, hb⟩
  have B := hb
  clear hb
  have L := Rd.of_own hO
  have M := Rd.of_own hP
  have hmc := own_cap hP
  clear hO hP
  cases hq : (rowsOk l && rowsOk m)
  · have hB : ∀ n, joinOfB l m n = false := fun n => by unfold joinOfB; rw [hq]; rfl
    have hS : ∀ n, joinOfS l m n = [] := fun n => joinOf_no (hB n)
    have CI : ∀ w : World, Rd w w.heap.size 3 (some ⟨lb, 0, none⟩) l.length (flat l) → Rd w w.heap.size 3 (some ⟨mb, 0, none⟩) m.length (flat m) → Calls Try.prog 18 #[.slice (some ⟨lb, 0, none⟩) l.length lc, .slice (some ⟨mb, 0, none⟩) m.length mc, .int .i64 1] w (fun e w' => ∃ a c, e = .returned (.tuple #[.slice a 0 c, .bool false]) ∧ Below w.heap.size w w' ∧ w'.ownsRow w.heap.size 41 5 (.slice a 0 c) 0 (flatP [])) := fun w h h2 => by
      have := implJoinOf_any (some ⟨lb, 0, none⟩) l.length lc l (some ⟨mb, 0, none⟩) m.length mc m 1 w (by omega) hok h (by omega) hmok h2
      unfold PairsB at this
      rw [hS, hB] at this
      exact this
    have CS : ∀ w : World, Rd w w.heap.size 3 (some ⟨lb, 0, none⟩) l.length (flat l) → Rd w w.heap.size 3 (some ⟨mb, 0, none⟩) m.length (flat m) → Calls Try.prog 16 #[.slice (some ⟨lb, 0, none⟩) l.length lc, .slice (some ⟨mb, 0, none⟩) m.length mc, .int .i64 1] w (fun e w' => ∃ a c, e = .returned (.tuple #[.slice a 0 c, .bool false]) ∧ Below w.heap.size w w' ∧ w'.ownsRow w.heap.size 41 5 (.slice a 0 c) 0 (flatP [])) := fun w h h2 => by
      have := specJoinOf_any (some ⟨lb, 0, none⟩) l.length lc l (some ⟨mb, 0, none⟩) m.length mc m 1 w (by omega) hok h (by omega) hmok h2
      unfold PairsB at this
      rw [hS, hB] at this
      exact this
    clear hB hS hq
    go_wp2_with fail
    refine (CI w1 L M).mono ?_
    rintro e w2 ⟨pa, pc, rfl, hb, hO⟩
    replace B := B.trans (hb.mono B.size)
    replace L := (L.below hb (Nat.le_refl _)).more hb.size
    replace M := (M.below hb (Nat.le_refl _)).more hb.size
    clear hb
    have P := Rd.of_own hO
    clear hO
    go_wp2_with fail
    refine (CS w2 L M).mono ?_
    rintro e w3 ⟨qa, qc, rfl, hb, hO⟩
    replace B := B.trans (hb.mono B.size)
    replace L := (L.below hb (Nat.le_refl _)).more hb.size
    replace M := (M.below hb (Nat.le_refl _)).more hb.size
    replace P := (P.below hb (Nat.le_refl _)).more hb.size
    clear hb
    have Q := Rd.of_own hO
    clear hO
    go_wp2_with fail
    refine (samePairs_same pa qa 0 pc qc [] w3 (by omega) P Q).mono ?_
    rintro e w4 ⟨rfl, hb⟩
    replace B := B.trans (hb.mono B.size)
    replace L := (L.below hb (Nat.le_refl _)).more hb.size
    replace M := (M.below hb (Nat.le_refl _)).more hb.size
    replace P := (P.below hb (Nat.le_refl _)).more hb.size
    replace Q := (Q.below hb (Nat.le_refl _)).more hb.size
    clear hb
    go_wp2_with fail
    refine (samePairs_same pa qa 0 pc qc [] w4 (by omega) P Q).mono ?_
    rintro e w5 ⟨rfl, hb⟩
    replace B := B.trans (hb.mono B.size)
    replace L := (L.below hb (Nat.le_refl _)).more hb.size
    replace M := (M.below hb (Nat.le_refl _)).more hb.size
    replace P := (P.below hb (Nat.le_refl _)).more hb.size
    replace Q := (Q.below hb (Nat.le_refl _)).more hb.size
    clear hb
    go_wp2_with fail
    go_ret
    exact ⟨rfl, B⟩
  · have hB : ∀ n, kindB n = true → joinOfB l m n = true := fun n h => by unfold joinOfB; rw [hq, h]; rfl
    obtain ⟨n1, hn1⟩ : ∃ k, (l5J 1 l m).length = k := ⟨_, rfl⟩
    have e1 : joinOfS l m 1 = l5J 1 l m := joinOf_yes (hB 1 rfl)
    have hl1 : n1 ≤ 4194304 := by rw [← hn1]; exact l5J_le (by omega) (by omega)
    obtain ⟨n6, hn6⟩ : ∃ k, (l5J 6 l m).length = k := ⟨_, rfl⟩
    have e6 : joinOfS l m 6 = l5J 6 l m := joinOf_yes (hB 6 rfl)
    have hl6 : n6 ≤ 4194304 := by rw [← hn6]; exact l5J_le (by omega) (by omega)
    have CI1 : ∀ w : World, Rd w w.heap.size 3 (some ⟨lb, 0, none⟩) l.length (flat l) → Rd w w.heap.size 3 (some ⟨mb, 0, none⟩) m.length (flat m) → Calls Try.prog 18 #[.slice (some ⟨lb, 0, none⟩) l.length lc, .slice (some ⟨mb, 0, none⟩) m.length mc, .int .i64 1] w (fun e w' => ∃ a c, e = .returned (.tuple #[.slice a n1 c, .bool true]) ∧ Below w.heap.size w w' ∧ w'.ownsRow w.heap.size 41 5 (.slice a n1 c) n1 (flatP (l5J 1 l m))) := fun w h h2 => by
      have := implJoinOf_any (some ⟨lb, 0, none⟩) l.length lc l (some ⟨mb, 0, none⟩) m.length mc m 1 w (by omega) hok h (by omega) hmok h2
      unfold PairsB at this
      rw [e1, hB 1 rfl, hn1] at this
      exact this
    have CS1 : ∀ w : World, Rd w w.heap.size 3 (some ⟨lb, 0, none⟩) l.length (flat l) → Rd w w.heap.size 3 (some ⟨mb, 0, none⟩) m.length (flat m) → Calls Try.prog 16 #[.slice (some ⟨lb, 0, none⟩) l.length lc, .slice (some ⟨mb, 0, none⟩) m.length mc, .int .i64 1] w (fun e w' => ∃ a c, e = .returned (.tuple #[.slice a n1 c, .bool true]) ∧ Below w.heap.size w w' ∧ w'.ownsRow w.heap.size 41 5 (.slice a n1 c) n1 (flatP (l5J 1 l m))) := fun w h h2 => by
      have := specJoinOf_any (some ⟨lb, 0, none⟩) l.length lc l (some ⟨mb, 0, none⟩) m.length mc m 1 w (by omega) hok h (by omega) hmok h2
      unfold PairsB at this
      rw [e1, hB 1 rfl, hn1] at this
      exact this
    have CI6 : ∀ w : World, Rd w w.heap.size 3 (some ⟨lb, 0, none⟩) l.length (flat l) → Rd w w.heap.size 3 (some ⟨mb, 0, none⟩) m.length (flat m) → Calls Try.prog 18 #[.slice (some ⟨lb, 0, none⟩) l.length lc, .slice (some ⟨mb, 0, none⟩) m.length mc, .int .i64 6] w (fun e w' => ∃ a c, e = .returned (.tuple #[.slice a n6 c, .bool true]) ∧ Below w.heap.size w w' ∧ w'.ownsRow w.heap.size 41 5 (.slice a n6 c) n6 (flatP (l5J 6 l m))) := fun w h h2 => by
      have := implJoinOf_any (some ⟨lb, 0, none⟩) l.length lc l (some ⟨mb, 0, none⟩) m.length mc m 6 w (by omega) hok h (by omega) hmok h2
      unfold PairsB at this
      rw [e6, hB 6 rfl, hn6] at this
      exact this
    by_cases hm0 : m.length = 0
    · have z1 : ((m.length : Int) == 0) = true := by simpa using hm0
      have z2 : (m.length == 0) = true := by simpa using hm0
      clear hn1 hn6 e1 e6 hB hq CI6 hm0
      generalize l5J 1 l m = F at *
      go_wp2_with fail
      refine (CI1 w1 L M).mono ?_
      rintro e w2 ⟨pa, pc, rfl, hb, hO⟩
      replace B := B.trans (hb.mono B.size)
      replace L := (L.below hb (Nat.le_refl _)).more hb.size
      replace M := (M.below hb (Nat.le_refl _)).more hb.size
      clear hb
      have P := Rd.of_own hO
      clear hO
      go_wp2_with fail
      refine (CS1 w2 L M).mono ?_
      rintro e w3 ⟨qa, qc, rfl, hb, hO⟩
      replace B := B.trans (hb.mono B.size)
      replace L := (L.below hb (Nat.le_refl _)).more hb.size
      replace M := (M.below hb (Nat.le_refl _)).more hb.size
      replace P := (P.below hb (Nat.le_refl _)).more hb.size
      clear hb
      have Q := Rd.of_own hO
      clear hO
      go_wp2_with fail
      refine (samePairs_same pa qa n1 pc qc F w3 hl1 P Q).mono ?_
      rintro e w4 ⟨rfl, hb⟩
      replace B := B.trans (hb.mono B.size)
      replace L := (L.below hb (Nat.le_refl _)).more hb.size
      replace M := (M.below hb (Nat.le_refl _)).more hb.size
      replace P := (P.below hb (Nat.le_refl _)).more hb.size
      replace Q := (Q.below hb (Nat.le_refl _)).more hb.size
      clear hb
      go_wp2_with fail
      refine (samePairs_same pa qa n1 pc qc F w4 hl1 P Q).mono ?_
      rintro e w5 ⟨rfl, hb⟩
      replace B := B.trans (hb.mono B.size)
      replace L := (L.below hb (Nat.le_refl _)).more hb.size
      replace M := (M.below hb (Nat.le_refl _)).more hb.size
      replace P := (P.below hb (Nat.le_refl _)).more hb.size
      replace Q := (Q.below hb (Nat.le_refl _)).more hb.size
      clear hb
      go_wp2_with fail
      go_ret
      exact ⟨rfl, B⟩
    obtain ⟨p, hp1, hp2⟩ : ∃ p, p < m.length ∧ m.length = p + 1 := ⟨m.length - 1, by omega, by omega⟩
    obtain ⟨r, hr⟩ : ∃ r, m = m.take p ++ [r] := ⟨m[p], by rw [← List.take_succ_eq_append_getElem hp1, ← hp2, List.take_length]⟩
    have hsub : (l5J 1 l (m.take p)).Sublist (l5J 1 l m) := by
      have := inner_sub l (m.take p) r
      rwa [← hr] at this
    have hless : (l5J 6 l m).length ≤ (l5J 6 l (m.take p)).length := by
      have := anti_less l (m.take p) r
      rwa [← hr] at this
    have hqp : (rowsOk l && rowsOk (m.take p)) = true := by
      rw [Bool.and_eq_true] at hq ⊢
      refine ⟨hq.1, ?_⟩
      have h2 := hq.2
      unfold rowsOk at h2 ⊢
      rw [Bool.and_eq_true, decide_eq_true_eq, List.all_eq_true] at h2 ⊢
      exact ⟨by rw [List.length_take]; omega, fun r hr => h2.2 r (List.mem_of_mem_take hr)⟩
    have hBp : ∀ n, kindB n = true → joinOfB l (m.take p) n = true := fun n h => by unfold joinOfB; rw [hqp, h]; rfl
    have hpok : ∀ r ∈ m.take p, r.Ok := fun r hr => hmok r (List.mem_of_mem_take hr)
    have hpl : (m.take p).length ≤ 7 := by rw [List.length_take]; omega
    obtain ⟨f1, hf1⟩ : ∃ k, (l5J 1 l (m.take p)).length = k := ⟨_, rfl⟩
    have g1 : joinOfS l (m.take p) 1 = l5J 1 l (m.take p) := joinOf_yes (hBp 1 rfl)
    have hlf1 : f1 ≤ 4194304 := by rw [← hf1]; exact l5J_le (by omega) (by omega)
    obtain ⟨f6, hf6⟩ : ∃ k, (l5J 6 l (m.take p)).length = k := ⟨_, rfl⟩
    have g6 : joinOfS l (m.take p) 6 = l5J 6 l (m.take p) := joinOf_yes (hBp 6 rfl)
    have hlf6 : f6 ≤ 4194304 := by rw [← hf6]; exact l5J_le (by omega) (by omega)
    have DI1 : ∀ w : World, Rd w w.heap.size 3 (some ⟨lb, 0, none⟩) l.length (flat l) → Rd w w.heap.size 3 (some ⟨mb, 0, none⟩) p (flat (m.take p)) → Calls Try.prog 18 #[.slice (some ⟨lb, 0, none⟩) l.length lc, .slice (some ⟨mb, 0, none⟩) p mc, .int .i64 1] w (fun e w' => ∃ a c, e = .returned (.tuple #[.slice a f1 c, .bool true]) ∧ Below w.heap.size w w' ∧ w'.ownsRow w.heap.size 41 5 (.slice a f1 c) f1 (flatP (l5J 1 l (m.take p)))) := fun w h h2 => by
      have := implJoinOf_any (some ⟨lb, 0, none⟩) l.length lc l (some ⟨mb, 0, none⟩) p mc (m.take p) 1 w (by omega) hok h (by omega) hpok h2
      unfold PairsB at this
      rw [g1, hBp 1 rfl, hf1] at this
      exact this
    have DI6 : ∀ w : World, Rd w w.heap.size 3 (some ⟨lb, 0, none⟩) l.length (flat l) → Rd w w.heap.size 3 (some ⟨mb, 0, none⟩) p (flat (m.take p)) → Calls Try.prog 18 #[.slice (some ⟨lb, 0, none⟩) l.length lc, .slice (some ⟨mb, 0, none⟩) p mc, .int .i64 6] w (fun e w' => ∃ a c, e = .returned (.tuple #[.slice a f6 c, .bool true]) ∧ Below w.heap.size w w' ∧ w'.ownsRow w.heap.size 41 5 (.slice a f6 c) f6 (flatP (l5J 6 l (m.take p)))) := fun w h h2 => by
      have := implJoinOf_any (some ⟨lb, 0, none⟩) l.length lc l (some ⟨mb, 0, none⟩) p mc (m.take p) 6 w (by omega) hok h (by omega) hpok h2
      unfold PairsB at this
      rw [g6, hBp 6 rfl, hf6] at this
      exact this
    rw [hn6, hf6] at hless
    have HSub := Lib.hid hsub
    have HN1 := Lib.hid hn1
    have HF1 := Lib.hid hf1
    have z1 : ((m.length : Int) == 0) = false := by rw [beq_eq_false_iff_ne]; omega
    have z2 : (m.length == 0) = false := by rw [beq_eq_false_iff_ne]; omega
    have hW : IntKind.i64.wrap ((m.length : Int) - 1) = (p : Int) := by rw [IntWalk.i64_in _ (by omega)]; omega
    have hpc : (p : Int) ≤ (mc : Int) := by omega
    have hp0 : (0 : Int) ≤ (p : Int) := by omega
    have hle1 : decide ((n6 : Int) ≤ (f6 : Int)) = true := by simpa using hless
    have hle2 : decide (n6 ≤ f6) = true := by simpa using hless
    clear hn1 hn6 hf1 hf6 e1 e6 g1 g6 hB hBp hq hqp hsub hr hpok hm0 hp2
    generalize l5J 1 l m = F at *
    generalize l5J 6 l m = A at *
    generalize l5J 1 l (m.take p) = E at *
    generalize l5J 6 l (m.take p) = A2 at *
    go_wp2_with fail
    refine (CI1 w1 L M).mono ?_
    rintro e w2 ⟨pa, pc, rfl, hb, hO⟩
    replace B := B.trans (hb.mono B.size)
    replace L := (L.below hb (Nat.le_refl _)).more hb.size
    replace M := (M.below hb (Nat.le_refl _)).more hb.size
    clear hb
    have P := Rd.of_own hO
    clear hO
    go_wp2_with fail
    refine (CS1 w2 L M).mono ?_
    rintro e w3 ⟨qa, qc, rfl, hb, hO⟩
    replace B := B.trans (hb.mono B.size)
    replace L := (L.below hb (Nat.le_refl _)).more hb.size
    replace M := (M.below hb (Nat.le_refl _)).more hb.size
    replace P := (P.below hb (Nat.le_refl _)).more hb.size
    clear hb
    have Q := Rd.of_own hO
    clear hO
    go_wp2_with fail
    refine (samePairs_same pa qa n1 pc qc F w3 hl1 P Q).mono ?_
    rintro e w4 ⟨rfl, hb⟩
    replace B := B.trans (hb.mono B.size)
    replace L := (L.below hb (Nat.le_refl _)).more hb.size
    replace M := (M.below hb (Nat.le_refl _)).more hb.size
    replace P := (P.below hb (Nat.le_refl _)).more hb.size
    replace Q := (Q.below hb (Nat.le_refl _)).more hb.size
    clear hb
    clear Q
    go_wp2_with fail
    refine (DI1 w4 L (M.first (Nat.le_of_lt hp1))).mono ?_
    rintro e w5 ⟨ra, rc, rfl, hb, hO⟩
    replace B := B.trans (hb.mono B.size)
    replace L := (L.below hb (Nat.le_refl _)).more hb.size
    replace M := (M.below hb (Nat.le_refl _)).more hb.size
    replace P := (P.below hb (Nat.le_refl _)).more hb.size
    clear hb
    have R := Rd.of_own hO
    clear hO
    go_wp2_with fail
    refine (CI6 w5 L M).mono ?_
    rintro e w6 ⟨sa, sc, rfl, hb, hO⟩
    replace B := B.trans (hb.mono B.size)
    replace L := (L.below hb (Nat.le_refl _)).more hb.size
    replace M := (M.below hb (Nat.le_refl _)).more hb.size
    replace P := (P.below hb (Nat.le_refl _)).more hb.size
    replace R := (R.below hb (Nat.le_refl _)).more hb.size
    clear hb
    clear hO
    go_wp2_with fail
    refine (DI6 w6 L (M.first (Nat.le_of_lt hp1))).mono ?_
    rintro e w7 ⟨ta, tc, rfl, hb, hO⟩
    replace B := B.trans (hb.mono B.size)
    replace L := (L.below hb (Nat.le_refl _)).more hb.size
    replace M := (M.below hb (Nat.le_refl _)).more hb.size
    replace P := (P.below hb (Nat.le_refl _)).more hb.size
    replace R := (R.below hb (Nat.le_refl _)).more hb.size
    clear hb
    clear hO CI1 CS1 CI6 DI1 DI6
    clear L
    clear M
    go_wp2_with fail
    go_loopw [16, 17] (fun q i wr => ∃ k j : Nat, j ≤ n1 ∧ k ≤ f1 ∧ i = .int .i64 j ∧ q = .int .i64 k ∧ Hid ((E.drop k).Sublist (F.drop j)) ∧ Below w7.heap.size w7 wr) (fun _ i _ => n1 - (intOf i).toNat)
    case atStart => exact ⟨0, 0, Nat.zero_le _, Nat.zero_le _, rfl, rfl, Lib.hid HSub.out, Below.refl _ _⟩
    case round =>
      obtain ⟨k, j, hj, hk, rfl, rfl, HS, hb⟩ := hrel
      by_cases hgo : j < n1 ∧ k < f1
      · obtain ⟨hlt, hkt⟩ := hgo
        obtain ⟨b1, o1, x, rfl, hB1, hx, c0, c1, c2, c3, c4⟩ := (P.below hb (Nat.le_refl _)).pair hlt
        obtain ⟨b2, o2, y, rfl, hB2, hy, d0, d1, d2, d3, d4⟩ := (R.below hb (Nat.le_refl _)).pair hkt
        have hst := HS.out
        obtain ⟨hx1, hx2⟩ := List.getElem?_eq_some_iff.1 hx
        obtain ⟨hy1, hy2⟩ := List.getElem?_eq_some_iff.1 hy
        rw [List.drop_eq_getElem_cons hx1, List.drop_eq_getElem_cons hy1, hx2, hy2] at hst
        obtain ⟨st1, st2⟩ := sub_step hst
        have heq := pair_eql x y
        cases hs : x.same y
        · have HS2 := Lib.hid (show (E.drop k).Sublist (F.drop (j + 1)) by
            rw [List.drop_eq_getElem_cons hy1, hy2]
            exact st2 fun e => by rw [PairV.same_iff.2 e] at hs; cases hs)
          rw [hs] at heq
          clear hst hx hy hx1 hx2 hy1 hy2 st1 st2 hs HS
          go_wp2_with fail
          go_quiet (fail)
          have hb1 := hb.trans ((show Below wr.heap.size wr (wr.drewN nq) from below_drewN (Below.refl _ _) nq).mono hb.size)
          generalize wr.drewN nq = w1 at *
          clear c0 c1 c2 c3 c4 d0 d1 d2 d3 d4 hb heq
          go_wp2_with fail
          go_roundw
          case rel => exact ⟨k, j + 1, by omega, by omega, by go_num, rfl, HS2, hb1⟩
          case measure => simp [intOf]; omega
        · have HS2 := Lib.hid (show (E.drop (k + 1)).Sublist (F.drop (j + 1)) from st1 (PairV.same_iff.1 hs))
          rw [hs] at heq
          clear hst hx hy hx1 hx2 hy1 hy2 st1 st2 hs HS
          go_wp2_with fail
          go_quiet (fail)
          have hb1 := hb.trans ((show Below wr.heap.size wr (wr.drewN nq) from below_drewN (Below.refl _ _) nq).mono hb.size)
          generalize wr.drewN nq = w1 at *
          clear c0 c1 c2 c3 c4 d0 d1 d2 d3 d4 hb heq
          go_wp2_with fail
          go_roundw
          case rel => exact ⟨k + 1, j + 1, by omega, by omega, by go_num, by go_num, HS2, hb1⟩
          case measure => simp [intOf]; omega
      · have hkf : k = f1 := by
          rcases Nat.lt_or_ge k f1 with h | h
          · have hj2 : j = n1 := by omega
            have h2 := HS.out
            rw [List.drop_of_length_le (show F.length ≤ j by rw [HN1.out]; omega)] at h2
            have h3 := List.eq_nil_of_sublist_nil h2
            have h4 := congrArg List.length h3
            rw [List.length_drop, HF1.out] at h4
            simp at h4
            omega
          · omega
        have hd : decide (j < n1) = true ∧ decide ((j : Int) < (n1 : Int)) = true ∨ decide (j < n1) = false ∧ decide ((j : Int) < (n1 : Int)) = false := by
          rcases Nat.lt_or_ge j n1 with h | h
          · left; simp; omega
          · right; simp; omega
        have hk1 : decide (k < f1) = false := by simp; omega
        have hk2 : decide ((k : Int) < (f1 : Int)) = false := by simp; omega
        have hk3 : ((k : Int) == (f1 : Int)) = true := by simp; omega
        have hk4 : (k == f1) = true := by simp; omega
        have B9 := B.trans (hb.mono B.size)
        clear hgo HS hkf
        rcases hd with ⟨hd1, hd2⟩ | ⟨hd1, hd2⟩
        all_goals
          go_wp2_with fail
          go_ret
          exact ⟨rfl, B9⟩
end Go.Proofs.Ytbcdpgjjfllgjaa
