/-
  Valid totals as plain values; spec.l1In and impl.totalOk by their contracts. Conditions: those of each statement.
-/
import Derived.Test.YtpnbbedfbglekaaTotMem
import Derived.Test.YtpnbbedfbglekaaResVar
import Derived.Lib.QuietBelow
namespace Go.Proofs.Ytpnbbedfbglekaa
open Go.RowKit

def totOkB (k : ByteArray) (n : Int) : Bool := decide (k.size ≤ 12 ∧ 0 ≤ n ∧ n ≤ 999999999999)
/-- The total at place j is valid, and its key is greater than the one ahead of it. -/
def okAt (ts : List TotV) (j : Nat) : Bool := match ts[j]? with
  | none => false
  | some t => totOkB t.key t.n && (decide (j = 0) || match ts[j - 1]? with
    | none => false
    | some s => Op.bytesLess s.key.toList t.key.toList)
def totsOk (ts : List TotV) : Bool := decide (ts.length ≤ 120) && (List.range ts.length).all (okAt ts)
def OkT (ts : List TotV) (k : Nat) : Prop := ∀ j, j < k → okAt ts j = true
theorem OkT.succ {ts : List TotV} {k : Nat} (h : OkT ts k) (hk : okAt ts k = true) : OkT ts (k + 1) := fun j hj => by
  rcases Nat.lt_or_ge j k with h1 | h1
  · exact h j h1
  · obtain rfl : j = k := by omega
    exact hk
theorem totsOk_no {ts : List TotV} {k : Nat} (hk : k < ts.length) (h : okAt ts k = false) : totsOk ts = false := by
  unfold totsOk
  have : (List.range ts.length).all (okAt ts) = false := by
    rw [Bool.eq_false_iff]
    intro ha
    have := List.all_eq_true.1 ha k (List.mem_range.2 hk)
    rw [h] at this; cases this
  rw [this, Bool.and_false]
theorem totsOk_all {ts : List TotV} {k : Nat} (h : OkT ts k) (hk : ts.length ≤ k) : totsOk ts = decide (ts.length ≤ 120) := by
  unfold totsOk
  rw [List.all_eq_true.2 (fun j hj => h j (by have := List.mem_range.1 hj; omega)), Bool.and_true]
theorem okAt_bad {ts : List TotV} {k : Nat} {t : TotV} (hr : ts[k]? = some t) (h : totOkB t.key t.n = false) : okAt ts k = false := by
  simp [okAt, hr, h]
theorem okAt_first {ts : List TotV} {t : TotV} (hr : ts[0]? = some t) (h : totOkB t.key t.n = true) : okAt ts 0 = true := by
  simp [okAt, hr, h]
theorem okAt_next {ts : List TotV} {k : Nat} {s t : TotV} (hk : 0 < k) (hs : ts[k - 1]? = some s) (hr : ts[k]? = some t) (h : totOkB t.key t.n = true) : okAt ts k = Op.bytesLess s.key.toList t.key.toList := by
  have : k ≠ 0 := by omega
  simp [okAt, hr, hs, h, this]
theorem totOkB_parts {k : ByteArray} {n : Int} (h : totOkB k n = true) : k.size ≤ 12 ∧ 0 ≤ n ∧ n ≤ 999999999999 := of_decide_eq_true h

theorem drewN_below0 (w : World) : ∀ n {B : Nat}, B ≤ w.heap.size → Below B w (w.drewN n)
  | 0, _, _ => Below.refl _ _
  | n + 1, _, h => (drewN_below0 w n h).drew
set_option maxRecDepth 100000 in
theorem l1In_tot (n : Int) (b : Bool) (w : World) (h : decide (0 ≤ n ∧ n ≤ 999999999999) = b) :
    Calls Try.prog 61 #[.int .i64 n, .int .i64 0, .int .i64 999999999999] w fun e w' => e = .returned (.bool b) ∧ w = w' := by
  subst h
  by_cases h1 : 0 ≤ n
  · have d1 : decide (0 ≤ n) = true := by simpa using h1
    by_cases h2 : n ≤ 999999999999
    · have d2 : decide (n ≤ 999999999999) = true := by simpa using h2
      have E := Lib.hid (show decide (0 ≤ n ∧ n ≤ 999999999999) = true from decide_eq_true ⟨h1, h2⟩)
      go_enter Try.func61, Try.ntmps61
      go_wp2
      go_ret
      first | exact ⟨rfl, rfl⟩ | exact ⟨ret_bool E.out.symm, rfl⟩
    · have d2 : decide (n ≤ 999999999999) = false := by simpa using h2
      have E := Lib.hid (show decide (0 ≤ n ∧ n ≤ 999999999999) = false from decide_eq_false (fun h => h2 h.2))
      go_enter Try.func61, Try.ntmps61
      go_wp2
      go_ret
      first | exact ⟨rfl, rfl⟩ | exact ⟨ret_bool E.out.symm, rfl⟩
  · have d1 : decide (0 ≤ n) = false := by simpa using h1
    have E := Lib.hid (show decide (0 ≤ n ∧ n ≤ 999999999999) = false from decide_eq_false (fun h => h1 h.1))
    go_enter Try.func61, Try.ntmps61
    go_wp2
    go_ret
    first | exact ⟨rfl, rfl⟩ | exact ⟨ret_bool E.out.symm, rfl⟩
set_option maxRecDepth 100000 in
theorem totalOk_b (k : ByteArray) (n : Int) (b : Bool) (w : World) (hk : k.size ≤ maxLen) (h : totOkB k n = b) :
    Calls Try.prog 117 #[.agg #[.string k, .int .i64 n]] w fun e w' => e = .returned (.bool b) ∧ Below w.heap.size w w' := by
  subst h
  unfold maxLen at hk
  by_cases h0 : k.size ≤ 12
  case neg =>
    have d0 : decide ((k.size : Int) ≤ 12) = false := by simp; omega
    have E := Lib.hid (show totOkB k n = false from decide_eq_false (fun h => h0 h.1))
    go_enter Try.func117, Try.ntmps117
    go_wp2_with (go_at_call 89; go_in)
    go_ret
    exact ⟨ret_bool E.out.symm, bl1 _ _⟩
  have d0 : decide ((k.size : Int) ≤ 12) = true := by simp; omega
  by_cases h1 : 0 ≤ n
  case neg =>
    have d1 : decide (0 ≤ n) = false := by simpa using h1
    have E := Lib.hid (show totOkB k n = false from decide_eq_false (fun h => h1 h.2.1))
    go_enter Try.func117, Try.ntmps117
    go_wp2_with (go_at_call 89; go_in)
    go_ret
    exact ⟨ret_bool E.out.symm, bl1 _ _⟩
  have d1 : decide (0 ≤ n) = true := by simpa using h1
  by_cases h2 : n ≤ 999999999999
  case neg =>
    have d2 : decide (n ≤ 999999999999) = false := by simpa using h2
    have E := Lib.hid (show totOkB k n = false from decide_eq_false (fun h => h2 h.2.2))
    go_enter Try.func117, Try.ntmps117
    go_wp2_with (go_at_call 89; go_in)
    go_ret
    exact ⟨ret_bool E.out.symm, bl1 _ _⟩
  have d2 : decide (n ≤ 999999999999) = true := by simpa using h2
  have E := Lib.hid (show totOkB k n = true from decide_eq_true ⟨h0, h1, h2⟩)
  go_enter Try.func117, Try.ntmps117
  go_wp2_with (go_at_call 89; go_in)
  go_ret
  exact ⟨ret_bool E.out.symm, bl1 _ _⟩
end Go.Proofs.Ytpnbbedfbglekaa
