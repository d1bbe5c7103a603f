/-
  impl.leadingRows by its contract: how many rows at the head have the key. Conditions: at most 1048576 rows.
-/
import Derived.Test.YtallcholbbfkdaaDoorRowsFns
import Derived.Test.YtallcholbbfkdaaDoorCutsMath
import Derived.Laws.StructEq
import Derived.Deep.RegionHeld3
namespace Go.Proofs.YtallcholbbfkdaaDoor
open Go.RowKit
/-- The rows at the head that have the key. -/
def leadL (key : ByteArray) (rs : List RowV) : List RowV := rs.takeWhile (fun r => r.key.toList == key.toList)
def leadN (key : ByteArray) (rs : List RowV) : Nat := (leadL key rs).length
theorem leadN_le (key : ByteArray) (rs : List RowV) : leadN key rs ≤ rs.length := by
  unfold leadN leadL
  exact (List.takeWhile_prefix _).length_le
/-- The first k rows have the key. -/
def LeadTo (key : ByteArray) (rs : List RowV) (k : Nat) : Prop := ∀ j r, j < k → rs[j]? = some r → (r.key.toList == key.toList) = true
theorem LeadTo.succ {key : ByteArray} {rs : List RowV} {k : Nat} {r : RowV} (h : LeadTo key rs k) (hr : rs[k]? = some r) (ho : (r.key.toList == key.toList) = true) : LeadTo key rs (k + 1) := fun j r' hj hr' => by
  rcases Nat.lt_or_ge j k with h1 | h1
  · exact h j r' h1 hr'
  · obtain rfl : j = k := by omega
    rw [hr] at hr'; injection hr' with e; rw [← e]; exact ho
theorem lead_stop {key : ByteArray} : ∀ {rs : List RowV} {k : Nat}, LeadTo key rs k → k ≤ rs.length → (∀ r, rs[k]? = some r → (r.key.toList == key.toList) = false) → leadN key rs = k
  | [], k, _, hk, _ => by simp at hk; subst hk; rfl
  | x :: rs, 0, _, _, hs => by
    have := hs x rfl
    simp [leadN, leadL, this]
  | x :: rs, k + 1, h, hk, hs => by
    have h0 := h 0 x (by omega) rfl
    have := lead_stop (rs := rs) (k := k) (fun j r hj hr => h (j + 1) r (by omega) (by simpa using hr)) (by simpa using hk) (fun r hr => hs r (by simpa using hr))
    unfold leadN leadL at *
    rw [List.takeWhile_cons, h0]
    simp [this]
set_option maxRecDepth 100000 in
theorem leadingRows_any (a : Option Addr) (len cap : Nat) (rs : List RowV) (key : ByteArray) (w : World) (hm : len ≤ 1048576) (hR : Rd w w.heap.size 3 a len (flat rs)) :
    Calls Tryd.prog 128 #[.slice a len cap, .string key] w fun e w' => e = .returned (.int .i64 (leadN key rs)) ∧ w = w' := by
  have hl := Lib.hid hR.rows_length
  go_enter Tryd.func128, Tryd.ntmps128
  go_wp2_with fail
  go_loopw [5] (fun i wr => ∃ k : Nat, k ≤ len ∧ i = .int .i64 k ∧ LeadTo key rs k ∧ w = wr) (fun i _ => len - (intOf i).toNat)
  case atStart => exact ⟨0, Nat.zero_le _, rfl, fun j _ h => absurd h (by omega), rfl⟩
  case round =>
    obtain ⟨k, hk, rfl, hT, rfl⟩ := hrel
    by_cases hlt : k < len
    · obtain ⟨b, off, r, rfl, hB, hr, c0, c1, c2⟩ := hR.row hlt
      have Hr := Lib.hid hr
      clear hr
      cases hd : (r.key.toList == key.toList)
      · have E := Lib.hid (lead_stop hT (by rw [hl.out]; omega) (fun r' hr' => by rw [Hr.out] at hr'; injection hr' with e; rw [← e]; exact hd))
        have hd2 : (r.key == key) = false := by rw [beq_toListBytes]; exact hd
        obtain ⟨rk, rt, rv⟩ := r
        go_wp2_with fail
        go_ret
        exact ⟨ret_int (by rw [E.out]), rfl⟩
      · have T := Lib.hid (hT.succ Hr.out hd)
        have hd2 : (r.key == key) = true := by rw [beq_toListBytes]; exact hd
        obtain ⟨rk, rt, rv⟩ := r
        go_wp2_with fail
        go_roundw
        case rel => exact ⟨k + 1, by omega, by go_num, T.out, trivial⟩
        case measure => simp [intOf]; omega
    · obtain rfl : k = len := by omega
      have E := Lib.hid (lead_stop hT (by rw [hl.out]; omega) (fun r' hr' => by rw [List.getElem?_eq_none (by rw [hl.out]; omega)] at hr'; cases hr'))
      go_wp2_with fail
      go_ret
      exact ⟨ret_int (by rw [E.out]), rfl⟩
theorem drewN_below (w : World) : ∀ n, Below w.heap.size w (w.drewN n)
  | 0 => Below.refl _ _
  | n + 1 => (drewN_below w n).drew
theorem run_min_str {P : Program} (w : World) (ts : Array TypeId) (t : TypeId) (x y : ByteArray) (b : Bool) (h : Op.bytesLess y.toList x.toList = b) : (Builtin.min_ ts t #[.string x, .string y]).run P w = .ok (.string (if b = true then y else x)) w := by
  subst h
  have ext : ∀ {a b : ByteArray}, a.toList = b.toList → a = b := fun h => by
    rw [ByteArray.toList_eq, ByteArray.toList_eq] at h
    exact ByteArray.ext (Array.toList_inj.1 h)
  cases h : Op.bytesLess y.toList x.toList
  · simp [Builtin.min_, Builtin.min2, Op.stringOp, asBool]
    intro h1 h2
    rcases bl_total h with e | e
    · exact absurd e.symm h2
    · rw [e] at h1; cases h1
  · simp [Builtin.min_, Builtin.min2, Op.stringOp, asBool]
    rintro (h1 | h1)
    · rw [bl_asymm h] at h1; cases h1
    · exact ext h1
end Go.Proofs.YtallcholbbfkdaaDoor
