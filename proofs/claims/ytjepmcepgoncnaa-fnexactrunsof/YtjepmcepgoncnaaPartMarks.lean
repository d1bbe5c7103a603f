/-
  Lists of parts in memory: laws.eqPartS, laws.markPartS and laws.heldPartS by their contracts. Conditions: at most 1048576 rows in all.
-/
import Derived.Test.YtjepmcepgoncnaaPartMem
import Derived.Test.YtjepmcepgoncnaaMarkRows
namespace Go.Proofs.Ytjepmcepgoncnaa
open Go.RowKit

/-- The marks of parts, the first of them K. -/
def marksP (K : Nat) : List (List RowV) → List (List RowV)
  | [] => []
  | r :: ps => marksR K r.length :: marksP (K + 3 * r.length) ps
theorem marksP_length (K : Nat) (ps : List (List RowV)) : (marksP K ps).length = ps.length := by
  induction ps generalizing K with
  | nil => rfl
  | cons r ps ih => simp [marksP, ih]
theorem marksR_length (K j : Nat) : (marksR K j).length = j := by simp [marksR]
theorem marksP_get {ps : List (List RowV)} {i K : Nat} {rs : List RowV} (h : ps[i]? = some rs) : (marksP K ps)[i]? = some (marksR (K + 3 * rowsIn (ps.take i)) rs.length) := by
  induction ps generalizing i K with
  | nil => simp at h
  | cons r ps ih =>
    cases i with
    | zero => simp at h; subst h; simp [marksP, rowsIn]
    | succ i =>
      have := ih (i := i) (K := K + 3 * r.length) (by simpa using h)
      simp only [marksP, List.getElem?_cons_succ, List.take_succ_cons, rowsIn]
      rw [this]
      congr 2
      omega
theorem marksP_rowsIn (K : Nat) (ps : List (List RowV)) : rowsIn (marksP K ps) = rowsIn ps := by
  induction ps generalizing K with
  | nil => rfl
  | cons r ps ih => simp [marksP, rowsIn, ih, marksR_length]

theorem eqPart_same (a b : Option Addr) (ca cb : Nat) (rs : List RowV) (w : World) (hm : rs.length ≤ 1048576) (hA : Rd w w.heap.size 3 a rs.length (flat rs)) (hB : Rd w w.heap.size 3 b rs.length (flat rs)) :
    Calls Try.prog 93 #[.agg #[.slice a rs.length ca], .agg #[.slice b rs.length cb]] w fun e w' => e = .returned (.bool true) ∧ Below w.heap.size w w' := by
  have hb2 := bl2 w (.cells #[.slice a rs.length ca] 103) (.cells #[.slice b rs.length cb] 103)
  go_enter Try.func93, Try.ntmps93
  go_wp2_with fail
  refine (eqRowS_same a b rs.length ca cb rs _ hm ((hA.below hb2 (Nat.le_refl _)).more hb2.size) ((hB.below hb2 (Nat.le_refl _)).more hb2.size)).mono ?_
  rintro e w1 ⟨rfl, hb1⟩
  go_wp2_with fail
  go_ret
  exact ⟨rfl, hb2.trans (hb1.mono hb2.size)⟩
set_option maxRecDepth 100000 in
set_option maxHeartbeats 1000000 in
theorem eqPartS_same (a b : Option Addr) (n ca cb : Nat) (ps : List (List RowV)) (w : World) (hm : n ≤ 1048576) (hr : rowsIn ps ≤ 1048576) (hA : PRd w w.heap.size a n ps) (hB : PRd w w.heap.size b n ps) :
    Calls Try.prog 45 #[.slice a n ca, .slice b n cb] w fun e w' => e = .returned (.bool true) ∧ Below w.heap.size w w' := by
  go_enter Try.func45, Try.ntmps45
  go_wp2
  go_loopw [5] (fun i wr => ∃ k : Nat, k ≤ n ∧ i = .int .i64 k ∧ Below w.heap.size w wr) (fun i _ => n - (intOf i).toNat)
  case atStart => exact ⟨0, Nat.zero_le _, rfl, Below.refl _ _⟩
  case round =>
    obtain ⟨k, hk, rfl, hb⟩ := hrel
    by_cases hlt : k < n
    · obtain ⟨b1, o1, a1, c1, rs, rfl, hB1, hr1, d1, R1⟩ := (hA.below hb (Nat.le_refl _)).at_ hlt
      obtain ⟨b2, o2, a2, c2, rs', rfl, hB2, hr2, d2, R2⟩ := (hB.below hb (Nat.le_refl _)).at_ hlt
      obtain rfl : rs = rs' := by rw [hr1] at hr2; injection hr2
      have hl := rowsIn_at hr1
      have R1' := (R1.more hb.size)
      have R2' := (R2.more hb.size)
      clear hr1 hr2 R1 R2
      go_wp2_with fail
      refine wp_region_still_tail 8 (by kernel_rfl) (by kernel_rfl) ?_
      simp only [List.take_succ_cons, List.take_zero, List.drop_succ_cons, List.drop_zero]
      change wpStill _ _ wr.drew _ _ _
      repeat still_step
      refine wpStill_nil ?_
      change wpList _ _ _ _ _ wr.drew
      go_wp2_with fail
      refine (eqPart_same a1 a2 c1 c2 rs _ (by omega) R1'.drew' R2'.drew').mono ?_
      rintro e w1 ⟨rfl, hb1⟩
      clear d1 d2
      go_wp2_with fail
      go_roundw
      case rel => exact ⟨k + 1, by omega, by go_num, hb.drew.trans (hb1.mono hb.size)⟩
      case measure => simp [intOf]; omega
    · go_wp2_with fail
      go_ret
      exact ⟨rfl, hb⟩
set_option maxRecDepth 100000 in
set_option maxHeartbeats 1000000 in
theorem markPartS_any (a : Option Addr) (n cap lo hi : Nat) (vs : List Value) (ps : List (List RowV)) (w : World) (hm : n ≤ 1048576) (hr : rowsIn ps ≤ 1048576) (hO : POwn w lo a n cap vs ps) (hB : Bnd hi vs) :
    Calls Try.prog 46 #[.slice a n cap, .int .i64 1] w fun e w' => e = .returned (.int .i64 (1 + 3 * rowsIn ps : Nat)) ∧ POwn w' lo a n cap vs (marksP 1 ps) ∧ Since lo hi w w' := by
  have hl := Lib.hid hO.len
  have HM := Lib.hid (marksP_length 1 ps)
  go_enter Try.func46, Try.ntmps46
  go_wp2
  go_loopw [1, 5] (fun q i wr => ∃ (j K : Nat), j ≤ n ∧ i = .int .i64 j ∧ q = .int .i64 K ∧ 1 ≤ K ∧ K ≤ 4194304 ∧ Hid (K = 1 + 3 * rowsIn (ps.take j)) ∧ POwn wr lo a n cap vs (part2 (marksP 1 ps) ps j) ∧ Since lo hi w wr) (fun _ i _ => n - (intOf i).toNat)
  case atStart => exact ⟨0, 1, Nat.zero_le _, rfl, rfl, by omega, by omega, Lib.hid (by simp [rowsIn]), by rw [part2_zero]; exact hO, Since.refl _ _ _⟩
  case round =>
    obtain ⟨j, K, hj, rfl, rfl, hK1, hK2, HK, hP, hS⟩ := hrel
    clear hO
    by_cases hlt : j < n
    · obtain ⟨b, off, a', c', rs, rfl, hB1, hr1, d1, _⟩ := hP.rd.at_ hlt
      have hpj : ps[j]? = some rs := by
        have := part2_get (P := []) (S := []) (A := marksP 1 ps) (B := ps) (n := n) (i := j) (a := 0) (x := ps[j]'(by rw [hl.out]; exact hlt)) (HM.out.trans hl.out) hlt (List.getElem?_eq_getElem _) rfl
        simp only [List.nil_append, List.append_nil, Nat.zero_add] at this
        rw [hr1] at this
        injection this with this
        rw [List.getElem?_eq_getElem (by rw [hl.out]; exact hlt), this]
      have hrl := rowsIn_at hpj
      obtain ⟨va, vc, rs2, hv1, hv2, hv3⟩ := hP.fam.at_ (i := j) (by rw [part2_length (HM.out.trans hl.out) hl.out (by omega)]; exact hlt)
      obtain rfl : rs = rs2 := by rw [hr1] at hv2; injection hv2
      obtain ⟨g0, hg0, hga, hgb⟩ := own_form hP.outer (show 0 < n by omega)
      obtain ⟨rfl, rfl⟩ : b = g0 ∧ off = 0 := by injection hg0 with e; injection e with e1 e2; exact ⟨e1, e2⟩
      rw [Nat.zero_add] at d1
      have hvv : Value.slice va rs.length vc = .slice a' rs.length c' := by
        have h1 := hP.outer.cellAt j (by omega)
        rw [hv1, d1] at h1
        injection h1 with h1; exact h1.symm
      rw [hvv] at hv1 hv3
      have HP := Lib.hid hpj
      have HK2 := Lib.hid (show K + 3 * rs.length = 1 + 3 * rowsIn (ps.take (j + 1)) by rw [rowsIn_take_succ hpj, HK.out]; omega)
      have hle : K + 3 * rs.length ≤ 4194304 := by
        have h1 := rowsIn_take_le ps (j + 1)
        have h2 := HK2.out
        omega
      have HG := Lib.hid (marksP_get (K := 1) hpj)
      rw [← HK.out] at HG
      clear hr1 hpj hv2 hvv hg0
      go_wp2_with fail
      refine (markRowS_any a' rs.length c' K lo _ _ (by omega) hK1 (by omega) hv3).mono ?_
      rintro e w1 ⟨rfl, hM, hg1⟩
      have hF := hP.fam.set (rs' := marksR K rs.length) hv1 hg1 (by rw [marksR_length]; exact hM) (.inl rfl)
      have hself : vs.set j (.slice a' rs.length c') = vs := by
        apply List.ext_getElem?
        intro i
        by_cases e : j = i
        · subst e; rw [List.getElem?_set_self (List.getElem?_eq_some_iff.1 hv1).1, hv1]
        · rw [List.getElem?_set_ne e]
      have hset : (part2 (marksP 1 ps) ps j).set j (marksR K rs.length) = part2 (marksP 1 ps) ps (j + 1) := by
        have := part2_set (P := []) (S := []) (A := marksP 1 ps) (B := ps) (n := n) (i := j) (a := 0) (HM.out.trans hl.out) hl.out hlt HG.out rfl
        simpa using this
      rw [hself, hset] at hF
      have hP2 : POwn w1 lo (some ⟨b, 0, none⟩) n cap vs (part2 (marksP 1 ps) ps (j + 1)) := ⟨own_other hP.outer hg1 (fun g hg he => hP.out _ (List.mem_of_getElem? hv1) g he hg), hF, hP.out⟩
      have hS2 := hS.trans (Since.of_gb hg1 (fun g e => ⟨(own_ge hv3 g e).1, hB _ (List.mem_of_getElem? hv1) g e⟩))
      clear hF hself hset hM hg1 hP hS hv1 hv3 d1
      go_wp2_with fail
      go_roundw
      case rel => exact ⟨j + 1, K + 3 * rs.length, by omega, by go_num, by go_num, by omega, hle, HK2, hP2, hS2⟩
      case measure => simp [intOf]; omega
    · obtain rfl : j = n := by omega
      rw [part2_all (HM.out.trans hl.out) hl.out] at hP
      have hK := HK.out
      rw [List.take_of_length_le (Nat.le_of_eq hl.out)] at hK
      have HK' := Lib.hid hK
      clear hK HK
      go_wp2_with fail
      go_ret
      exact ⟨ret_int (by rw [HK'.out]), hP, hS⟩
set_option maxRecDepth 100000 in
set_option maxHeartbeats 1000000 in
theorem heldPartS_any (a : Option Addr) (n cap : Nat) (ps : List (List RowV)) (w : World) (hm : n ≤ 1048576) (hr : rowsIn ps ≤ 1048576) (hR : PRd w w.heap.size a n (marksP 1 ps)) :
    Calls Try.prog 47 #[.slice a n cap, .int .i64 1] w fun e w' => e = .returned (.int .i64 (1 + 3 * rowsIn ps : Nat)) ∧ Below w.heap.size w w' := by
  have hl := Lib.hid ((marksP_length 1 ps).symm.trans hR.len)
  go_enter Try.func47, Try.ntmps47
  go_wp2
  go_loopw [1, 5] (fun q i wr => ∃ (j K : Nat), j ≤ n ∧ i = .int .i64 j ∧ q = .int .i64 K ∧ 1 ≤ K ∧ K ≤ 4194304 ∧ Hid (K = 1 + 3 * rowsIn (ps.take j)) ∧ Below w.heap.size w wr) (fun _ i _ => n - (intOf i).toNat)
  case atStart => exact ⟨0, 1, Nat.zero_le _, rfl, rfl, by omega, by omega, Lib.hid (by simp [rowsIn]), Below.refl _ _⟩
  case round =>
    obtain ⟨j, K, hj, rfl, rfl, hK1, hK2, HK, hb⟩ := hrel
    by_cases hlt : j < n
    · obtain ⟨b, off, a', c', ms, rfl, hB1, hr1, d1, R1⟩ := (hR.below hb (Nat.le_refl _)).at_ hlt
      have hpj : ps[j]? = some (ps[j]'(by rw [hl.out]; exact hlt)) := List.getElem?_eq_getElem _
      generalize ps[j]'(by rw [hl.out]; exact hlt) = rs at hpj
      have hms : ms = marksR K rs.length := by
        have := marksP_get (K := 1) hpj
        rw [hr1, ← HK.out] at this
        injection this
      subst hms
      rw [marksR_length] at d1 R1
      have hrl := rowsIn_at hpj
      have HK2 := Lib.hid (show K + 3 * rs.length = 1 + 3 * rowsIn (ps.take (j + 1)) by rw [rowsIn_take_succ hpj, HK.out]; omega)
      have hle : K + 3 * rs.length ≤ 4194304 := by
        have h1 := rowsIn_take_le ps (j + 1)
        have h2 := HK2.out
        omega
      have R1' := R1.more hb.size
      clear hr1 hpj R1
      go_wp2_with fail
      refine (heldRowS_any a' rs.length c' K _ (by omega) hK1 (by omega) R1').mono ?_
      rintro e w1 ⟨rfl, hb1⟩
      clear d1
      go_wp2_with fail
      go_roundw
      case rel => exact ⟨j + 1, K + 3 * rs.length, by omega, by go_num, by go_num, by omega, hle, HK2, hb.trans (hb1.mono hb.size)⟩
      case measure => simp [intOf]; omega
    · obtain rfl : j = n := by omega
      have hK := HK.out
      rw [List.take_of_length_le (Nat.le_of_eq hl.out)] at hK
      have HK' := Lib.hid hK
      clear hK HK
      go_wp2_with fail
      go_ret
      exact ⟨ret_int (by rw [HK'.out]), hb⟩
end Go.Proofs.Ytjepmcepgoncnaa
