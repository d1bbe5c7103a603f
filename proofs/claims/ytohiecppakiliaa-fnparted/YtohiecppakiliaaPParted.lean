/-
  Rows.FnPartedSaid: laws.FnParted returns true for every input, and each argument reads afterwards as it read before. No conditions.
-/
import Derived.Test.YtohiecppakiliaaDrawRows
import Derived.Test.YtohiecppakiliaaPartedFns
import Derived.Test.YtohiecppakiliaaHashImpl
import Derived.Test.YtohiecppakiliaaOpenBytes
import Derived.Test.YtohiecppakiliaaSameParts
import Derived.Test.YtohiecppakiliaaSame
import Derived.Laws.StructEq
import Derived.Test.YtohiecppakiliaaOpen
namespace Go.Proofs.Ytohiecppakiliaa
open Go.RowKit
set_option maxRecDepth 100000 in
theorem drawParted_cap (a : Option Addr) (len cap : Nat) (w : World) (hl : len ≤ 1048576) (h : IsBy w w.heap.size a len) :
    Calls Try.prog 27 #[.slice a len cap] w fun e w' => ∃ (l : List RowV) (t : Int) (b c : Nat), l.length ≤ 12 ∧ (∀ r ∈ l, r.Ok) ∧ l.length ≤ c ∧ e = .returned (.tuple #[.slice (some ⟨b, 0, none⟩) l.length c, .int .i64 t]) ∧ Rd w' w'.heap.size 3 (some ⟨b, 0, none⟩) l.length (flat l) ∧ Below w.heap.size w w' := by
  go_enter Try.func27, Try.ntmps27
  go_wp2_with fail
  refine (l1Open_any a len cap w hl h).mono ?_
  rintro e w1 ⟨rfl, hR1, hb1⟩
  go_wp2_with fail
  refine (rows_lit w.heap.size len 12 _ _ hR1 (by omega) (by omega) (by omega)).mono ?_
  rintro e w2 ⟨l, b, c, hll, hok, rfl, hO, hD⟩
  have hlt := hR1.lt
  have hcap := own_cap hO
  go_wp2_with fail
  refine (off_any w.heap.size len 1 5 _ hD.rdr (by omega) (by omega) (by omega)).mono ?_
  rintro e w3 ⟨z, hz0, hz1, rfl, hD3⟩
  have hO3 := Rd.of_own (hD3.own hO hlt)
  have hb3 := below_drew hb1 (hD.trans hD3)
  clear hO
  go_wp2_with fail
  go_ret2
  exact ⟨l, z, b, c, hll, hok, hcap, rfl, hO3, hb3⟩
theorem partsP_yes {l : List RowV} {N : Int} (h : partedB l N = true) : partedS l N = partsL (partF N.toNat) N.toNat l := if_pos h
theorem partsP_no {l : List RowV} {N : Int} (h : partedB l N = false) : partedS l N = [] := if_neg (by rw [h]; simp)
theorem partedB_in {l : List RowV} {N : Int} (h : partedB l N = true) : 1 ≤ N ∧ N ≤ 8 := by
  unfold partedB inP at h
  simp only [Bool.and_eq_true, decide_eq_true_eq] at h
  exact h.2
theorem partsP_rows (l : List RowV) (N : Int) : rowsIn (partedS l N) ≤ l.length := by
  cases h : partedB l N
  · rw [partsP_no h]; exact Nat.zero_le _
  · have := partedB_in h
    rw [partsP_yes h, rowsIn_partsL _ _ _ (fun r _ => (partF_int (show 0 < N.toNat by omega) r).2)]; exact Nat.le_refl _
theorem partsP_len (l : List RowV) (N : Int) : (partedS l N).length ≤ 8 := by
  cases h : partedB l N
  · rw [partsP_no h]; exact Nat.zero_le _
  · have := partedB_in h
    rw [partsP_yes h, partsL_length]; omega
end Go.Proofs.Ytohiecppakiliaa

namespace Go.Proofs.Ytohiecppakiliaa
open Go.RowKit

theorem specHashOf_no (s : ByteArray) (w : World) (hs : s.size ≤ maxLen) (h : ¬ s.size ≤ 12) :
    Calls Try.prog 36 #[.string s] w fun e w' => e = .returned (.int .i64 (-1)) ∧ w = w' := by
  unfold maxLen at hs
  go_enter Try.func36, Try.ntmps36
  go_wp2
  go_ret
  exact ⟨rfl, rfl⟩
theorem specHashOf_yes (s : ByteArray) (w : World) (h : s.size ≤ 12) :
    Calls Try.prog 36 #[.string s] w fun e w' => e = .returned (.int .i64 (fnv s.data.toList)) ∧ w = w' := by
  go_enter Try.func36, Try.ntmps36
  go_wp2_with (go_at_call 68; refine (l2Hash_any s _ (by unfold maxLen; omega)).mono ?_; rintro e w' ⟨rfl, rfl⟩)
  go_ret
  exact ⟨rfl, rfl⟩
end Go.Proofs.Ytohiecppakiliaa

namespace Go.Proofs.Ytohiecppakiliaa
open Go.RowKit

theorem specPartOf_any (s : ByteArray) (n : Int) (w : World) (hs : s.size ≤ maxLen) :
    Calls Try.prog 34 #[.string s, .int .i64 n] w fun e w' => e = .returned (.int .i64 (partOf s n)) ∧ w = w' := by
  have hz := fnv_bd s.data.toList
  obtain ⟨hz0, hz1⟩ := hz
  by_cases h : s.size ≤ 12
  · by_cases h1 : 1 ≤ n
    · by_cases h2 : n ≤ 8
      · have E := Lib.hid (show partOf s n = fnv s.data.toList % n from if_pos ⟨h, h1, h2⟩)
        have hd : decide (n ≤ 8) = true := by simpa using h2
        have hd1 : decide (1 ≤ n) = true := by simpa using h1
        go_enter Try.func34, Try.ntmps34
        go_wp2_with (first | (go_at_call 68; refine (l2Hash_any s _ hs).mono ?_; rintro e w' ⟨rfl, rfl⟩) | go_in)
        go_ret
        exact ⟨ret_int E.out.symm, rfl⟩
      · have E := Lib.hid (show partOf s n = -1 from if_neg (by omega))
        have hd : decide (n ≤ 8) = false := by simpa using h2
        have hd1 : decide (1 ≤ n) = true := by simpa using h1
        go_enter Try.func34, Try.ntmps34
        go_wp2
        go_ret
        exact ⟨ret_int E.out.symm, rfl⟩
    · have E := Lib.hid (show partOf s n = -1 from if_neg (by omega))
      have hd1 : decide (1 ≤ n) = false := by simpa using h1
      go_enter Try.func34, Try.ntmps34
      go_wp2
      go_ret
      exact ⟨ret_int E.out.symm, rfl⟩
  · have E := Lib.hid (show partOf s n = -1 from if_neg (by omega))
    unfold maxLen at hs
    go_enter Try.func34, Try.ntmps34
    go_wp2
    go_ret
    exact ⟨ret_int E.out.symm, rfl⟩
end Go.Proofs.Ytohiecppakiliaa

namespace Go.Proofs.Ytohiecppakiliaa
open Go.RowKit
set_option maxRecDepth 100000 in
theorem drawPartOf_any (a : Option Addr) (len cap : Nat) (w : World) (hl : len ≤ 1048576) (h : IsBy w w.heap.size a len) :
    Calls Try.prog 30 #[.slice a len cap] w fun e w' => ∃ (s : ByteArray) (z : Int), s.size ≤ 5 ∧ e = .returned (.tuple #[.string s, .int .i64 z]) ∧ Below w.heap.size w w' := by
  go_enter Try.func30, Try.ntmps30
  go_wp2_with fail
  refine (l1Open_any a len cap w hl h).mono ?_
  rintro e w1 ⟨rfl, hR1, hb1⟩
  go_wp2_with fail
  refine (key_any w.heap.size len _ hR1).mono ?_
  rintro e w2 ⟨s, hs, rfl, hD⟩
  go_wp2_with fail
  refine (off_any w.heap.size len 1 8 _ hD.rdr (by omega) (by omega) (by omega)).mono ?_
  rintro e w3 ⟨z, hz0, hz1, rfl, hD3⟩
  have hb3 := below_drew hb1 (hD.trans hD3)
  go_wp2_with fail
  go_ret2
  exact ⟨s, z, hs, rfl, hb3⟩
set_option maxRecDepth 100000 in
theorem drawHashOf_any (a : Option Addr) (len cap : Nat) (w : World) (hl : len ≤ 1048576) (h : IsBy w w.heap.size a len) :
    Calls Try.prog 31 #[.slice a len cap] w fun e w' => ∃ (s : ByteArray), s.size ≤ 13 ∧ e = .returned (.string s) ∧ Below w.heap.size w w' := by
  go_enter Try.func31, Try.ntmps31
  go_wp2_with fail
  refine (l1Open_any a len cap w hl h).mono ?_
  rintro e w1 ⟨rfl, hR1, hb1⟩
  go_wp2_with fail
  refine (bytes_lit w.heap.size len 13 _ _ hR1 (by omega) (by omega) (by omega)).mono ?_
  rintro e w2 ⟨s, hs, rfl, hD⟩
  have hb3 := below_drew hb1 hD
  go_wp2_with fail
  go_ret
  exact ⟨s, hs, rfl, hb3⟩
theorem hash_both (s : ByteArray) (hs : s.size ≤ maxLen) : ∃ z : Int, (∀ w, Calls Try.prog 35 #[.string s] w fun e w' => e = .returned (.int .i64 z) ∧ w = w') ∧ (∀ w, Calls Try.prog 36 #[.string s] w fun e w' => e = .returned (.int .i64 z) ∧ w = w') := by
  by_cases h : s.size ≤ 12
  · exact ⟨_, fun w => implHashOf_yes s w h, fun w => specHashOf_yes s w h⟩
  · exact ⟨_, fun w => implHashOf_no s w hs h, fun w => specHashOf_no s w hs h⟩
theorem IsBy.on2 {w w' : World} {a : Option Addr} {n : Nat} (h : IsBy w w.heap.size a n) (hb : Below w.heap.size w w') : IsBy w' w'.heap.size a n := by
  obtain ⟨xs, h1, h2⟩ := h
  exact ⟨xs, (h1.below hb (Nat.le_refl _)).more hb.size, h2⟩
def posF (f : RowV → Nat) (l : List RowV) (q i : Nat) : Nat := ((l.take i).filter (fun r => f r == q)).length
theorem take_hit {f : RowV → Nat} {l : List RowV} {q i : Nat} {r : RowV} (hr : l[i]? = some r) (h : (f r == q) = true) : (l.take (i + 1)).filter (fun r => f r == q) = (l.take i).filter (fun r => f r == q) ++ [r] := by
  obtain ⟨hk, rfl⟩ := List.getElem?_eq_some_iff.1 hr
  rw [List.take_succ_eq_append_getElem hk, List.filter_append]; simp [h]
theorem take_miss {f : RowV → Nat} {l : List RowV} {q i : Nat} {r : RowV} (hr : l[i]? = some r) (h : (f r == q) = false) : (l.take (i + 1)).filter (fun r => f r == q) = (l.take i).filter (fun r => f r == q) := by
  obtain ⟨hk, rfl⟩ := List.getElem?_eq_some_iff.1 hr
  rw [List.take_succ_eq_append_getElem hk, List.filter_append]; simp [h]
theorem posF_hit {f : RowV → Nat} {l : List RowV} {q i : Nat} {r : RowV} (hr : l[i]? = some r) (h : (f r == q) = true) : posF f l q (i + 1) = posF f l q i + 1 := by
  unfold posF; rw [take_hit hr h, List.length_append]; rfl
theorem posF_miss {f : RowV → Nat} {l : List RowV} {q i : Nat} {r : RowV} (hr : l[i]? = some r) (h : (f r == q) = false) : posF f l q (i + 1) = posF f l q i := by
  unfold posF; rw [take_miss hr h]
theorem posF_get {f : RowV → Nat} {l : List RowV} {q i : Nat} {r : RowV} (hr : l[i]? = some r) (h : (f r == q) = true) : (l.filter (fun r => f r == q))[posF f l q i]? = some r := by
  unfold posF
  obtain ⟨hi, e⟩ := List.getElem?_eq_some_iff.1 hr
  have e2 : l.filter (fun r => f r == q) = (l.take i).filter (fun r => f r == q) ++ (l.drop i).filter (fun r => f r == q) := by rw [← List.filter_append, List.take_append_drop]
  rw [e2, List.getElem?_append_right (Nat.le_refl _), Nat.sub_self, List.drop_eq_getElem_cons hi, e, List.filter_cons, if_pos h]
  rfl
theorem posF_all {f : RowV → Nat} {l : List RowV} {q i : Nat} (hi : l.length ≤ i) : posF f l q i = (l.filter (fun r => f r == q)).length := by
  unfold posF
  rw [List.take_of_length_le hi]
theorem partOf_row {M : Nat} {r : RowV} (h1 : 1 ≤ M) (h8 : M ≤ 8) (hs : r.key.size ≤ 12) : partOf r.key (M : Int) = (partF M r : Int) := by
  have := (partF_int (M := M) (by omega) r).1
  rw [← this]
  exact if_pos ⟨hs, by omega, by omega⟩
set_option maxRecDepth 100000 in
set_option maxHeartbeats 4000000 in
theorem walk_Parted (a : Option Addr) (len cap : Nat) (xs : List Value) (w : World) (hI : IsCode w a len cap xs) :
    Calls Try.prog 6 #[.slice a len cap] w fun e w' => e = .returned (.bool true) ∧ Below w.heap.size w w' := by
  have hI0 := hI.by_
  obtain ⟨hlc, hcm, _, _⟩ := hI
  go_enter Try.func6, Try.ntmps6
  go_wp2_with fail
  refine (big_any a len cap w (by omega)).mono ?_
  rintro e w0 ⟨rfl, rfl⟩
  by_cases hbig : 1048576 < len
  · have hd : decide (1048576 < len) = true := by simpa using hbig
    rw [hd]
    go_wp2_with fail
    go_ret
    exact ⟨rfl, Below.refl _ _⟩
  have hd : decide (1048576 < len) = false := by simpa using hbig
  rw [hd]
  go_wp2_with fail
  refine (drawParted_cap a len cap w (by omega) hI0).mono ?_
  rintro e w1 ⟨l, N, lb, lc, hll, hok, hlcap, rfl, L, hb⟩
  have B := hb
  clear hb
  go_wp2_with fail
  refine (implParted_any _ l.length lc l N w1 (by omega) hok L).mono ?_
  rintro e w2 ⟨pa, pc, pv, rfl, hb, P⟩
  replace B := B.trans (hb.mono B.size)
  replace L := (L.below hb (Nat.le_refl _)).more hb.size
  clear hb
  replace P := P.rd
  go_wp2_with fail
  refine (specParted_any _ l.length lc l N w2 (by omega) hok L).mono ?_
  rintro e w3 ⟨ta, tc, tv, rfl, hb, T⟩
  replace B := B.trans (hb.mono B.size)
  replace L := (L.below hb (Nat.le_refl _)).more hb.size
  replace P := (P.below hb (Nat.le_refl _)).more hb.size
  clear hb
  replace T := T.rd
  go_wp2_with fail
  refine (drawPartOf_any a len cap w3 (by omega) (hI0.on2 B)).mono ?_
  rintro e w4 ⟨ks, kz, hks, rfl, hb⟩
  replace B := B.trans (hb.mono B.size)
  replace L := (L.below hb (Nat.le_refl _)).more hb.size
  replace P := (P.below hb (Nat.le_refl _)).more hb.size
  replace T := (T.below hb (Nat.le_refl _)).more hb.size
  clear hb
  go_wp2_with fail
  refine (drawHashOf_any a len cap w4 (by omega) (hI0.on2 B)).mono ?_
  rintro e w5 ⟨hs, hhs, rfl, hb⟩
  replace B := B.trans (hb.mono B.size)
  replace L := (L.below hb (Nat.le_refl _)).more hb.size
  replace P := (P.below hb (Nat.le_refl _)).more hb.size
  replace T := (T.below hb (Nat.le_refl _)).more hb.size
  clear hb
  have hr1 := partsP_rows l N
  have hr2 := partsP_len l N
  obtain ⟨hz, HI, HS⟩ := hash_both hs (by unfold maxLen; omega)
  have PI := fun w => implPartOf_any ks kz w (by unfold maxLen; omega)
  have PS := fun w => specPartOf_any ks kz w (by unfold maxLen; omega)
  generalize partOf ks kz = kp at *
  have hn1 : (kp != kp) = false := by simp
  have hn2 : (hz != hz) = false := by simp
  have hq1 : (kp == kp) = true := by simp
  have hq2 : (hz == hz) = true := by simp
  go_wp2_with fail
  refine (sameParts_same pa ta _ pc tc (partedS l N) w5 (by omega) (by omega) P T).mono ?_
  rintro e w6 ⟨rfl, hb⟩
  replace B := B.trans (hb.mono B.size)
  replace L := (L.below hb (Nat.le_refl _)).more hb.size
  replace P := (P.below hb (Nat.le_refl _)).more hb.size
  replace T := (T.below hb (Nat.le_refl _)).more hb.size
  clear hb
  go_wp2_with fail
  refine (PI _).mono ?_
  rintro e wz ⟨rfl, rfl⟩
  go_wp2_with fail
  refine (PS _).mono ?_
  rintro e wz ⟨rfl, rfl⟩
  go_wp2_with fail
  refine (HI _).mono ?_
  rintro e wz ⟨rfl, rfl⟩
  go_wp2_with fail
  refine (HS _).mono ?_
  rintro e wz ⟨rfl, rfl⟩
  cases hq : partedB l N
  · clear L
    go_wp2_with fail
    refine (sameParts_same pa ta _ pc tc (partedS l N) w6 (by omega) (by omega) P T).mono ?_
    rintro e w7 ⟨rfl, hb⟩
    replace B := B.trans (hb.mono B.size)
    replace P := (P.below hb (Nat.le_refl _)).more hb.size
    replace T := (T.below hb (Nat.le_refl _)).more hb.size
    clear hb
    go_wp2_with fail
    refine (PI _).mono ?_
    rintro e wz ⟨rfl, rfl⟩
    go_wp2_with fail
    refine (PS _).mono ?_
    rintro e wz ⟨rfl, rfl⟩
    go_wp2_with fail
    refine (HI _).mono ?_
    rintro e wz ⟨rfl, rfl⟩
    go_wp2_with fail
    refine (HS _).mono ?_
    rintro e wz ⟨rfl, rfl⟩
    go_wp2_with fail
    go_ret
    exact ⟨rfl, B⟩
  have hin := partedB_in hq
  obtain ⟨M, rfl⟩ : ∃ M : Nat, N = (M : Int) := ⟨N.toNat, by omega⟩
  have hM1 : 1 ≤ M := by omega
  have hM8 : M ≤ 8 := by omega
  clear hin
  have hro : rowsOk l = true := by unfold partedB at hq; exact (Bool.and_eq_true _ _ ▸ hq).1
  have HP := Lib.hid (show partedS l (M : Int) = partsL (partF M) M l from partsP_yes hq)
  have HPl := Lib.hid (show (partedS l (M : Int)).length = M by rw [HP.out, partsL_length])
  rw [HPl.out]
  rw [HPl.out, HP.out] at P
  have Q := Lib.hid hro
  clear T hr1 hr2 HPl HP hq hro PI PS HI HS
  go_wp2_with fail
  go_loopw [12] (fun i wr => ∃ q : Nat, q ≤ M ∧ i = .int .i64 q ∧ Below w6.heap.size w6 wr) (fun i _ => M - (intOf i).toNat)
  case atStart => exact ⟨0, Nat.zero_le _, rfl, Below.refl _ _⟩
  case round =>
    obtain ⟨q, hqM, rfl, hb⟩ := hrel
    by_cases hqn : q < M
    · obtain ⟨b3, o3, a3, c3, r3, rfl, hB3, hr3, d3, R3⟩ := (P.below hb (Nat.le_refl _)).at_ hqn
      have hl3 : (l.filter fun r => partF M r == q) = r3 := by
        rw [partsL_get hqn] at hr3
        exact Option.some.inj hr3
      have hle3 : r3.length ≤ 12 := by rw [← hl3]; have := List.length_filter_le (fun r => partF M r == q) l; omega
      have H3 := Lib.hid hl3
      clear hl3 hr3
      go_wp2_with fail
      go_loopw [13, 14] (fun v i wx => ∃ (j k : Nat), j ≤ l.length ∧ i = .int .i64 j ∧ v = .int .i64 k ∧ k ≤ j ∧ Hid (posF (partF M) l q j = k) ∧ Below w6.heap.size w6 wx) (fun _ i _ => l.length - (intOf i).toNat)
      case atStart => exact ⟨0, 0, Nat.zero_le _, rfl, rfl, Nat.le_refl _, Lib.hid rfl, hb⟩
      case round =>
        obtain ⟨j, k, hj, rfl, rfl, hkj, HK, hb2⟩ := hrel
        obtain ⟨b3', o3', a3', c3', r3', e3, hB3', hr3', d3', R3'⟩ := (P.below hb2 (Nat.le_refl _)).at_ hqn
        cases e3
        obtain rfl : r3 = r3' := by
          rw [partsL_get hqn] at hr3'
          rw [← H3.out]; exact Option.some.inj hr3'
        clear hr3' d3 R3
        by_cases hlt : j < l.length
        · obtain ⟨b1, o1, r, e1, hB1, hr, c0, c1, c2⟩ := (L.below hb2 (Nat.le_refl _)).row hlt
          cases e1
          simp only [Nat.zero_add] at c0 c1 c2
          have Hr := Lib.hid hr
          have hpo := partOf_row hM1 hM8 (rowsOk_key Q.out (List.mem_of_getElem? hr))
          clear hr
          obtain ⟨key, tag, val⟩ := r
          have C := fun w => implPartOf_any key (M : Int) w (by have := rowsOk_key Q.out (List.mem_of_getElem? Hr.out); unfold maxLen; simp only at this; omega)
          simp only at hpo
          rw [hpo] at C
          clear hpo
          cases hd : (partF M ⟨key, tag, val⟩ == q)
          · have M1 := Lib.hid (posF_miss Hr.out hd)
            have hne : ((partF M ⟨key, tag, val⟩ : Int) != (q : Int)) = true := by have := beq_eq_false_iff_ne.1 hd; simp; omega
            clear hd
            generalize partF M ⟨key, tag, val⟩ = pf at *
            go_wp2_with fail
            refine (C _).mono ?_
            rintro e wz ⟨rfl, rfl⟩
            clear c0 c1 c2 C d3' R3'
            go_wp2_with fail
            exact ⟨⟨j + 1, k, by omega, by go_num, rfl, by omega, Lib.hid (by rw [M1.out]; exact HK.out), hb2⟩, by simp [intOf]; omega⟩
          · have M1 := Lib.hid (posF_hit Hr.out hd)
            have G := posF_get Hr.out hd
            rw [HK.out, H3.out] at G
            have hkl : k < r3.length := (List.getElem?_eq_some_iff.1 G).1
            obtain ⟨b2, o2, r2, rfl, hB2, hr2, g0, g1, g2⟩ := R3'.row hkl
            obtain rfl : (⟨key, tag, val⟩ : RowV) = r2 := by rw [hr2] at G; injection G with h; exact h.symm
            clear hr2 G
            have he : partF M ⟨key, tag, val⟩ = q := beq_iff_eq.1 hd
            rw [he] at C
            clear hd he
            have hne : ((k : Int) == (r3.length : Int)) = false := by simp; omega
            go_wp2_with fail
            refine (C _).mono ?_
            rintro e wz ⟨rfl, rfl⟩
            clear C
            go_wp2_with fail
            go_quiet (fail)
            have Bq := hb2.trans ((below_drewN (Below.refl wr.heap.size wr) nq).mono hb2.size)
            generalize wr.drewN nq = w10 at *
            clear c0 c1 c2 g0 g1 g2 hne d3'
            go_wp2_with fail
            go_roundw
            case rel =>
              first
                | exact ⟨j + 1, k + 1, by omega, by go_num, by go_num, by omega, Lib.hid (by rw [M1.out, HK.out]), Bq⟩
                | ((repeat apply Exists.intro); exact ⟨⟨j + 1, k + 1, by omega, by go_num, by go_num, by omega, Lib.hid (by rw [M1.out, HK.out]), Bq⟩, rfl⟩)
            case measure => simp [intOf]; omega
        · obtain rfl : j = l.length := by omega
          have HE := HK.out
          rw [posF_all (Nat.le_refl _), H3.out] at HE
          subst HE
          go_wp2_with fail
          exact ⟨⟨q + 1, by omega, by go_num, hb2⟩, by simp [intOf]; omega⟩
    · go_wp2_with fail
      go_ret
      exact ⟨rfl, B.trans (hb.mono B.size)⟩
end Go.Proofs.Ytohiecppakiliaa

namespace Go.Proofs.Ytohiecppakiliaa
open Go.ChangeShapes Go.WideShapes Go.ChangeAt Go.RowKit Go.Joins
open Go.ChangeMaps (open_string shut_string)
namespace Parted

set_option maxRecDepth 100000 in
theorem lifted (os : Os) (started : os.Started) (H : Type) (enc : TypeId × Value → H) :
    ReturnsInHanded {} Try.checked os 6 .any (Rows.fnPartedSpec.pre6 enc Try.prog Try.f6 Rows.fnPartedRow.domain false) (Rows.fnPartedSpec.post enc Try.prog Try.f6 false true false false) := by
  refine returnsInHanded_of_change (C := Try.checked) own started (by kernel_rfl) Try.func6
    (ChangeSpec.witness6 (enc := enc) (C := Try.checked) false ⟨#[], #[.slice none 0 0], []⟩ 8 (by kernel_rfl) (by kernel_rfl) (by kernel_rfl) (by kernel_rfl)) ?_
  intro W base args ds gs before hval0 hW _ _
  have hval : ∀ (j : Nat) t v, Try.f6.params[j]? = some t → args[j]? = some v → Value.okWide Try.prog W .any base t v := hval0
  have hW' := hW
  obtain ⟨p, q, hA0, hV, rfl, _, _⟩ := hW
  have hA : DataW.TrodAll enc Try.prog W 0 (fun _ => true) true Try.f6.params.toList args.toList ds p := hA0
  rw [Try.params6] at hA hval
  obtain ⟨v0, vs0, d0, ds0, p0, q0, hargs, rfl, rfl, h0, r0⟩ := trodAll_cons hA
  obtain ⟨rfl, rfl, rfl⟩ := trodAll_nil r0
  obtain rfl : args = #[v0] := by cases args; simp_all
  obtain ⟨rfl, rfl⟩ := trodVars_none hV
  have k0 := h0
  have lt0 : ∀ x ∈ p0, x.block < W.heap.size := by obtain ⟨m, hm⟩ := k0; exact DataW.trod_lt m _ _ _ hm
  obtain ⟨a0, len0, cap0, z0, rfl, w0⟩ := open_Bytes (hval 0 22 v0 rfl rfl) h0
  clear hA0 hval0
  refine (walk_Parted a0 len0 cap0 z0 W w0).mono fun e W' ⟨he, bel⟩ => ?_
  subst he
  exact ⟨_, rfl, _, _, _, [], _, [], hW', trodAll_mk1 (shut_bool Try.underlying4 _), (trodAll_cons_mk (Below.trod laidOut (by kernel_rfl) (of_decide_eq_true (by kernel_rfl)) k0 bel lt0) trodAll_mk0), rfl, bel.frame _, fun h => by cases h⟩

theorem over : Rows.fnPartedRow.holds Try.pinned (OpenSpec.ofChange Rows.fnPartedSpec) :=
  OpenClaim.holds_of_wide 6 Try.f6 rfl rfl rfl rfl rfl rfl rfl ⟨rfl, rfl, rfl, rfl, rfl⟩ rfl rfl rfl rfl rfl (by kernel_rfl) Try.func6 (by kernel_rfl)
    (of_decide_eq_true (by kernel_rfl)) (by unfold Func.isWrapper; first | (rw [if_pos (by decide +kernel)]; kernel_rfl) | (rw [if_neg (by decide +kernel)]; exact ⟨rfl, rfl⟩))
    (fun os started H enc _ => lifted os started H enc)
end Parted
theorem fnParted_holds : Rows.FnPartedSaid := Parted.over
end Go.Proofs.Ytohiecppakiliaa
