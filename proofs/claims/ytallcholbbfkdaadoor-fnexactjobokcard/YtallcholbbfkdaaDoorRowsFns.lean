/-
  laws.szRowS, laws.toRowS, laws.eqRow, laws.eqRowS, impl.RowsOk and spec.RowsOk by their contracts. Conditions: those of each statement.
-/
import Derived.Test.YtallcholbbfkdaaDoorRowOk
namespace Go.Proofs.YtallcholbbfkdaaDoor
open Go.RowKit

def RowV.ok (r : RowV) : Bool := okB r.key r.tag r.val
def rowsOk (rs : List RowV) : Bool := decide (rs.length ≤ 120) && rs.all RowV.ok
/-- The first k rows are valid. -/
def OkTo (rs : List RowV) (k : Nat) : Prop := ∀ j r, j < k → rs[j]? = some r → r.ok = true
theorem OkTo.zero (rs : List RowV) : OkTo rs 0 := fun j _ h => absurd h (by omega)
theorem OkTo.succ {rs : List RowV} {k : Nat} {r : RowV} (h : OkTo rs k) (hr : rs[k]? = some r) (ho : r.ok = true) : OkTo rs (k + 1) := fun j r' hj hr' => by
  rcases Nat.lt_or_ge j k with h1 | h1
  · exact h j r' h1 hr'
  · obtain rfl : j = k := by omega
    rw [hr] at hr'; injection hr' with e; rw [← e]; exact ho
theorem OkTo.all {rs : List RowV} {k : Nat} (h : OkTo rs k) (hk : rs.length ≤ k) : rs.all RowV.ok = true := by
  rw [List.all_eq_true]
  intro r hr
  obtain ⟨j, hj, e⟩ := List.mem_iff_getElem.1 hr
  exact h j r (by omega) (by rw [List.getElem?_eq_getElem hj, e])
theorem rowsOk_no {rs : List RowV} {k : Nat} {r : RowV} (hr : rs[k]? = some r) (ho : r.ok = false) : rowsOk rs = false := by
  unfold rowsOk
  have : rs.all RowV.ok = false := by
    rw [Bool.eq_false_iff]
    intro h
    have := List.all_eq_true.1 h r (List.mem_of_getElem? hr)
    rw [ho] at this; cases this
  rw [this, Bool.and_false]
theorem rowsOk_long {rs : List RowV} (h : ¬ rs.length ≤ 120) : rowsOk rs = false := by simp [rowsOk, h]
theorem rowsOk_all {rs : List RowV} {k : Nat} (h : OkTo rs k) (hk : rs.length ≤ k) : rowsOk rs = decide (rs.length ≤ 120) := by
  unfold rowsOk; rw [h.all hk, Bool.and_true]
theorem RowV.Ok.of {rs : List RowV} {k : Nat} {r : RowV} (h : ∀ r ∈ rs, r.Ok) (hr : rs[k]? = some r) : r.Ok := h r (List.mem_of_getElem? hr)

set_option maxRecDepth 100000 in
set_option maxHeartbeats 1000000 in
theorem specRowsOk_any (a : Option Addr) (len cap : Nat) (rs : List RowV) (w : World) (hm : len ≤ 1048576) (hok : ∀ r ∈ rs, r.Ok) (hR : Rd w w.heap.size 3 a len (flat rs)) :
    Calls Tryd.prog 38 #[.slice a len cap] w fun e w' => e = .returned (.bool (rowsOk rs)) ∧ Below w.heap.size w w' := by
  have hl := Lib.hid hR.rows_length
  go_enter Tryd.func38, Tryd.ntmps38
  go_wp2
  go_loopw [3] (fun i wr => ∃ k : Nat, k ≤ len ∧ i = .int .i64 k ∧ Below w.heap.size w wr ∧ OkTo rs k) (fun i _ => len - (intOf i).toNat)
  case atStart => exact ⟨0, Nat.zero_le _, rfl, Below.refl _ _, OkTo.zero _⟩
  case round =>
    obtain ⟨k, hk, rfl, hb, ho⟩ := hrel
    by_cases hlt : k < len
    · obtain ⟨b, off, r, rfl, hB, hr, c0, c1, c2⟩ := (hR.below hb (Nat.le_refl _)).row hlt
      have Hr := Lib.hid hr
      have hro := RowV.Ok.of hok hr
      clear hr
      obtain ⟨key, tag, val⟩ := r
      obtain ⟨hkk, _, hvv⟩ := hro
      cases hq : okB key tag val
      case false =>
        have E := Lib.hid (show rowsOk rs = false from rowsOk_no Hr.out hq)
        have hq' := Lib.hid hq
        clear hq
        go_wp2_with fail
        refine (specRowOk_b key val tag false _ hkk hvv hq'.out).mono ?_
        rintro e w1 ⟨rfl, hb1⟩
        go_wp2_with fail
        go_ret
        exact ⟨ret_bool E.out.symm, hb.trans (hb1.mono hb.size)⟩
      have hq' := Lib.hid hq
      have O := ho.succ Hr.out hq
      clear hq ho
      go_wp2_with fail
      refine (specRowOk_b key val tag true _ hkk hvv hq'.out).mono ?_
      rintro e w1 ⟨rfl, hb1⟩
      clear c0 c1 c2
      go_wp2_with fail
      go_roundw
      case rel => exact ⟨k + 1, by omega, by go_num, hb.trans (hb1.mono hb.size), O⟩
      case measure => simp [intOf]; omega
    · have hkl : k = len := by omega
      have E := Lib.hid (show rowsOk rs = decide (len ≤ 120) by rw [rowsOk_all ho (by rw [hl.out]; omega), hl.out])
      clear hkl
      go_wp2_with fail
      go_ret
      exact ⟨ret_bool (by rw [E.out, decide_eq_decide]; omega), hb⟩

set_option maxRecDepth 100000 in
set_option maxHeartbeats 1000000 in
theorem implRowsOk_any (a : Option Addr) (len cap : Nat) (rs : List RowV) (w : World) (hm : len ≤ 1048576) (hok : ∀ r ∈ rs, r.Ok) (hR : Rd w w.heap.size 3 a len (flat rs)) :
    Calls Tryd.prog 58 #[.slice a len cap] w fun e w' => e = .returned (.bool (rowsOk rs)) ∧ Below w.heap.size w w' := by
  have hl := Lib.hid hR.rows_length
  by_cases h120 : len ≤ 120
  case neg =>
    have E := Lib.hid (show rowsOk rs = false from rowsOk_long (by rw [hl.out]; exact h120))
    go_enter Tryd.func58, Tryd.ntmps58
    go_wp2
    go_ret
    exact ⟨ret_bool E.out.symm, Below.refl _ _⟩
  have hd : decide ((120 : Int) < (len : Int)) = false := by simp; omega
  go_enter Tryd.func58, Tryd.ntmps58
  go_wp2
  go_loopw [10] (fun i wr => ∃ k : Nat, k ≤ len ∧ i = .int .i64 k ∧ Below w.heap.size w wr ∧ OkTo rs k) (fun i _ => len - (intOf i).toNat)
  case atStart => exact ⟨0, Nat.zero_le _, rfl, Below.refl _ _, OkTo.zero _⟩
  case round =>
    obtain ⟨k, hk, rfl, hb, ho⟩ := hrel
    by_cases hlt : k < len
    · obtain ⟨b, off, r, rfl, hB, hr, c0, c1, c2⟩ := (hR.below hb (Nat.le_refl _)).row hlt
      have Hr := Lib.hid hr
      have hro := RowV.Ok.of hok hr
      clear hr
      obtain ⟨key, tag, val⟩ := r
      obtain ⟨hkk, _, hvv⟩ := hro
      cases hq : okB key tag val
      case false =>
        have E := Lib.hid (show rowsOk rs = false from rowsOk_no Hr.out hq)
        have hq' := Lib.hid hq
        clear hq
        go_wp2_with fail
        refine (implRowOk_b key val tag false _ hkk hvv hq'.out).mono ?_
        rintro e w1 ⟨rfl, hb1⟩
        go_wp2_with fail
        go_ret
        exact ⟨ret_bool E.out.symm, (hb.alloc hb.size _).trans (hb1.mono (by have := hb.size; simp; omega))⟩
      have hq' := Lib.hid hq
      have O := ho.succ Hr.out hq
      clear hq ho
      go_wp2_with fail
      refine (implRowOk_b key val tag true _ hkk hvv hq'.out).mono ?_
      rintro e w1 ⟨rfl, hb1⟩
      clear c0 c1 c2
      go_wp2_with fail
      go_roundw
      case rel => exact ⟨k + 1, by omega, by go_num, (hb.alloc hb.size _).trans (hb1.mono (by have := hb.size; simp; omega)), O⟩
      case measure => simp [intOf]; omega
    · have E := Lib.hid (show rowsOk rs = true by rw [rowsOk_all ho (by rw [hl.out]; omega), hl.out]; simpa using h120)
      go_wp2_with fail
      go_ret
      exact ⟨ret_bool E.out.symm, hb⟩
end Go.Proofs.YtallcholbbfkdaaDoor
