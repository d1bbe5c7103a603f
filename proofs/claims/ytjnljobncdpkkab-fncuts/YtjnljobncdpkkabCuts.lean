/-
  laws.FnCuts returns true for every code. No conditions.
-/
import Derived.Test.YtjnljobncdpkkabCutsTrue
import Derived.Test.YtjnljobncdpkkabRangePartedFns
import Derived.Test.YtjnljobncdpkkabOpenBytes
namespace Go.Proofs.Ytjnljobncdpkkab
open Go.RowKit

theorem any_take_succ {l : List RowV} {k : Nat} {r : RowV} (f : RowV → Bool) (h : l[k]? = some r) : (l.take (k + 1)).any f = ((l.take k).any f || f r) := by
  obtain ⟨hk, e⟩ := List.getElem?_eq_some_iff.1 h
  rw [List.take_succ_eq_append_getElem hk, e, List.any_append]
  simp
set_option maxRecDepth 100000 in
set_option maxHeartbeats 8000000 in
theorem walk_Cuts (a : Option Addr) (len cap : Nat) (xs : List Value) (w : World) (hI : IsCode w a len cap xs) :
    Calls Try.prog 4 #[.slice a len cap] w fun e w' => e = .returned (.bool true) ∧ Below w.heap.size w w' := by
  have hI0 := hI.by_
  obtain ⟨hlc, hcm, _, _⟩ := hI
  go_enter Try.func4, Try.ntmps4
  go_wp2_with fail
  refine (big_any a len cap w (by omega)).mono ?_
  rintro e w0 ⟨rfl, rfl⟩
  by_cases hbig : 1048576 < len
  · have hd : decide (1048576 < len) = true := by simpa using hbig
    rw [hd]
    go_wp2_with fail
    go_ret
    exact ⟨rfl, Below.refl _ _⟩
  have hd : decide (1048576 < len) = false := by simpa using hbig
  rw [hd]
  go_wp2_with fail
  refine (drawCutsOf_any a len cap w (by omega) hI0).mono ?_
  rintro e w1 ⟨l, lb, lc, z, hll, hok, rfl, hz0, hz1, L1, B1⟩
  clear hI0
  go_wp2_with fail
  refine (implCutsOf_any _ l.length lc l z w1 (by omega) hok L1).mono ?_
  rintro e w2 hC
  obtain ⟨ca, cc, rfl, hb2, hO2⟩ := hC.own
  have B2 := B1.trans (hb2.mono B1.size)
  have C2 := Rd.of_own hO2
  have L2 := (L1.below hb2 (Nat.le_refl _)).more hb2.size
  clear L1 hO2 hb2 B1 hC
  go_wp2_with fail
  refine (specCutsOf_any _ l.length lc l z w2 (by omega) hok L2).mono ?_
  rintro e w3 hC
  obtain ⟨ta, tc, rfl, hb3, hO3⟩ := hC.own
  have B3 := B2.trans (hb3.mono B2.size)
  have T3 := Rd.of_own hO3
  have C3 := (C2.below hb3 (Nat.le_refl _)).more hb3.size
  have L3 := (L2.below hb3 (Nat.le_refl _)).more hb3.size
  clear L2 C2 hO3 hb3 B2 hC
  have hle := cutS_le l z
  have hmx := cutS_max z hok
  go_wp2_with fail
  refine (sameTexts_same ca ta _ cc tc (cutS l z) w3 (by omega) C3 T3).mono ?_
  rintro e w4 ⟨rfl, hb4⟩
  have B4 := B3.trans (hb4.mono B3.size)
  have T4 := (T3.below hb4 (Nat.le_refl _)).more hb4.size
  have C4 := (C3.below hb4 (Nat.le_refl _)).more hb4.size
  have L4 := (L3.below hb4 (Nat.le_refl _)).more hb4.size
  clear L3 C3 T3 hb4 B3
  cases hq : (rowsOk l && inP z)
  · go_wp2_with fail
    refine (sameTexts_same ca ta _ cc tc (cutS l z) w4 (by omega) C4 T4).mono ?_
    rintro e w5 ⟨rfl, hb5⟩
    have B5 := B4.trans (hb5.mono B4.size)
    clear T4 C4 L4 hb5 B4
    go_wp2_with fail
    go_ret
    exact ⟨rfl, B5⟩
  have HK := Lib.hid (fun s (hs : s ∈ cutS l z) => cutS_key hq hs)
  have HL := Lib.hid (fun j p s (hp : (cutS l z)[j]? = some p) (hs : (cutS l z)[j + 1]? = some s) => cutS_less hq hp hs)
  have HB := Lib.hid (cutS_ok hq)
  have hlt := cutS_lt hq
  have hrk : rowsOk l = true := by
    cases h3 : rowsOk l
    · rw [h3, Bool.false_and] at hq; cases hq
    · rfl
  have HR := Lib.hid hrk
  clear hrk hq T4
  generalize cutS l z = ss at *
  go_wp2_with fail
  go_loopw [9] (fun i wr => ∃ q : Nat, q ≤ ss.length ∧ i = .int .i64 q ∧ Below w4.heap.size w4 wr) (fun i _ => ss.length - (intOf i).toNat)
  case atStart => exact ⟨0, Nat.zero_le _, rfl, Below.refl _ _⟩
  case round =>
    obtain ⟨q, hq, rfl, hb⟩ := hrel
    by_cases hqn : q < ss.length
    · obtain ⟨cb, co, s, hca, hB1, hs, c0⟩ := C4.str hqn
      have Hs := Lib.hid hs
      clear hs
      subst hca
      go_wp2_with fail
      go_loopw [10, 11] (fun v i wr => ∃ (b : Bool) (k : Nat), k ≤ l.length ∧ v = .bool b ∧ i = .int .i64 k ∧ Hid (b = (l.take k).any fun r => r.key.toList == s.toList) ∧ Below w4.heap.size w4 wr) (fun _ i _ => l.length - (intOf i).toNat)
      case atStart => exact ⟨false, 0, Nat.zero_le _, rfl, rfl, Lib.hid rfl, hb⟩
      case round =>
        obtain ⟨b, k, hk, rfl, rfl, Hb, hb⟩ := hrel
        by_cases hkn : k < l.length
        · obtain ⟨b2, o2, r, ha2, hB2, hr, d0, d1, d2⟩ := (L4.below hb (Nat.le_refl _)).row hkn
          obtain ⟨e1, e2⟩ : lb = b2 ∧ 0 = o2 := by injection ha2 with e; injection e with e1 e2; exact ⟨e1, e2⟩
          subst e1; subst e2
          have c1 := (hb.cell (p := ⟨cb, co + q, none⟩) hB1).trans c0
          have Hr := Lib.hid hr
          clear hr ha2 d1 d2
          simp only [Nat.zero_add] at d0
          go_wp2_with fail
          cases b
          · have Hn := Lib.hid (show (r.key.toList == s.toList) = (l.take (k + 1)).any fun r => r.key.toList == s.toList by rw [any_take_succ _ Hr.out, ← Hb.out, Bool.false_or])
            go_quiet (fail)
            generalize (r.key.toList == s.toList) = e at *
            have hb1 := below_drewN hb nq
            generalize wr.drewN nq = w5 at *
            clear d0 c1 hb Hb
            go_wp2_with fail
            go_roundw
            case rel => exact ⟨e, k + 1, by omega, rfl, by go_num, Hn, hb1⟩
            case measure => simp [intOf]; omega
          · have Hn := Lib.hid (show true = (l.take (k + 1)).any fun r => r.key.toList == s.toList by rw [any_take_succ _ Hr.out, ← Hb.out, Bool.true_or])
            go_quiet (fail)
            have hb1 := below_drewN hb nq
            generalize wr.drewN nq = w5 at *
            clear d0 c1 hb Hb
            go_wp2_with fail
            go_roundw
            case rel => exact ⟨true, k + 1, by omega, rfl, by go_num, Hn, hb1⟩
            case measure => simp [intOf]; omega
        · obtain rfl : b = true := by
            rw [Hb.out, List.take_of_length_le (by omega)]
            obtain ⟨r, hr, e⟩ := HK.out s (List.mem_of_getElem? Hs.out)
            exact List.any_eq_true.2 ⟨r, hr, by rw [e]; exact beq_self_eq_true _⟩
          have c1 := (hb.cell (p := ⟨cb, co + q, none⟩) hB1).trans c0
          clear Hb
          match hqq : q, hq, hqn, c0, c1, Hs with
          | 0, hq, hqn, c0, c1, Hs =>
            have Hqq := Lib.hid hqq
            clear hqq
            go_wp2_with fail
            go_quiet (fail)
            have hb1 := below_drewN hb nq
            generalize wr.drewN nq = w5 at *
            clear c1 hb
            go_wp2_with fail
            go_roundw
            case rel => exact ⟨1, by omega, by go_num, hb1⟩
            case measure => simp [intOf]; have := Hqq.out; omega
          | q + 1, hq, hqn, c0, c1, Hs =>
            have Hqq := Lib.hid hqq
            clear hqq
            obtain ⟨cb2, co2, p, hca, hB2, hp, p0⟩ := C4.str (k := q) (by omega)
            obtain ⟨e1, e2⟩ : cb = cb2 ∧ co = co2 := by injection hca with e; injection e with e1 e2; exact ⟨e1, e2⟩
            subst e1; subst e2
            have p1 := (hb.cell (p := ⟨cb, co + q, none⟩) hB1).trans p0
            have hlt2 := HL.out q p s hp Hs.out
            clear hp hca
            go_wp2_with fail
            go_quiet (fail)
            have hb1 := below_drewN hb nq
            generalize wr.drewN nq = w5 at *
            clear c1 p1 p0 hb
            go_wp2_with fail
            go_roundw
            case rel => exact ⟨q + 1 + 1, by omega, by go_num, hb1⟩
            case measure => simp [intOf]; have := Hqq.out; omega
    · go_wp2_with fail
      have B5 := B4.trans (hb.mono B4.size)
      have L5 := (L4.below hb (Nat.le_refl _)).more hb.size
      have C5 := (C4.below hb (Nat.le_refl _)).more hb.size
      refine (implRangeParted_any _ l.length lc l ca ss.length cc ss wr (by omega) hok L5 (by omega) hmx C5).mono ?_
      rintro e w6 ⟨pa, pc, vs, rfl, hb6, _⟩
      have B6 := B5.trans (hb6.mono B5.size)
      have hpb : rangePartedB l ss = true := by unfold rangePartedB; rw [HR.out, HB.out]; rfl
      rw [hpb]
      have hd2 : decide ((ss.length : Int) < z) = true := by simpa using hlt.1
      clear B5 L5 C5 hb6 hpb
      generalize (rangePartedS l ss).length = pn at *
      go_wp2_with fail
      go_ret
      exact ⟨rfl, B6⟩
end Go.Proofs.Ytjnljobncdpkkab
