/-
  impl.RowOk and spec.RowOk return the same bool; laws.szRow and laws.toRow by their contracts. Conditions: texts have at most maxLen bytes.
-/
import Derived.Test.YtallcholbbfkdaaDoorPlain
import Derived.Deep.QuietTactic
import Derived.BigQuiet
namespace Go.Proofs.YtallcholbbfkdaaDoor
open Go.RowKit

def szV (k v : ByteArray) (left : Int) : Int := if left < k.size + v.size then -1 else left - k.size - v.size
def okB (k : ByteArray) (t : Int) (v : ByteArray) : Bool := decide (k.size ≤ 12 ∧ v.size ≤ 12 ∧ 0 ≤ t ∧ t ≤ 3)
theorem bl1 (w : World) (a : Obj) : Below w.heap.size w (w.alloc a) := (Below.refl _ _).alloc (Nat.le_refl _) _
theorem bl2 (w : World) (a b : Obj) : Below w.heap.size w ((w.alloc a).alloc b) := (bl1 w a).alloc (by simp) _
theorem bl3 (w : World) (a b c : Obj) : Below w.heap.size w (((w.alloc a).alloc b).alloc c) := (bl2 w a b).alloc (by simp; omega) _

theorem szRow_any (k v : ByteArray) (t : Int) (left : Int) (w : World) (hk : k.size ≤ maxLen) (hv : v.size ≤ maxLen) (h1 : left ≤ 1048576) (h0 : 0 ≤ left) :
    Calls Tryd.prog 37 #[.agg #[.string k, .int .i64 t, .string v], .int .i64 left] w fun e w' => e = .returned (.int .i64 (szV k v left)) ∧ Below w.heap.size w w' := by
  unfold maxLen at hk hv
  by_cases ha : left < k.size
  · have E := Lib.hid (show szV k v left = -1 from if_pos (by omega))
    go_enter Tryd.func37, Tryd.ntmps37
    go_wp2
    go_ret
    exact ⟨ret_int E.out.symm, (Below.refl _ _).alloc (Nat.le_refl _) _⟩
  · by_cases hb : left < k.size + v.size
    · have E := Lib.hid (show szV k v left = -1 from if_pos (by omega))
      go_enter Tryd.func37, Tryd.ntmps37
      go_wp2
      go_ret
      exact ⟨ret_int E.out.symm, (Below.refl _ _).alloc (Nat.le_refl _) _⟩
    · have E := Lib.hid (show szV k v left = left - k.size - v.size from if_neg (by omega))
      go_enter Tryd.func37, Tryd.ntmps37
      go_wp2
      go_ret
      exact ⟨ret_int E.out.symm, (Below.refl _ _).alloc (Nat.le_refl _) _⟩
theorem toRow_any (k v : ByteArray) (t : Int) (w : World) :
    Calls Tryd.prog 40 #[.agg #[.string k, .int .i64 t, .string v]] w fun e w' => e = .returned (.agg #[.string k, .int .i64 t, .string v]) ∧ Below w.heap.size w w' := by
  go_enter Tryd.func40, Tryd.ntmps40
  go_wp2
  exact bodyPost_ret (v := .agg #[.string k, .int .i64 t, .string v]) (by simp [results, Tryd.results40, go_sem]) rfl ⟨rfl, bl3 _ _ _ _⟩
theorem specRowOk_any (k v : ByteArray) (t : Int) (w : World) (hk : k.size ≤ maxLen) (hv : v.size ≤ maxLen) :
    Calls Tryd.prog 65 #[.agg #[.string k, .int .i64 t, .string v]] w fun e w' => e = .returned (.bool (okB k t v)) ∧ Below w.heap.size w w' := by
  unfold maxLen at hk hv
  by_cases h1 : k.size ≤ 12
  case neg =>
    have E := Lib.hid (show okB k t v = false from decide_eq_false (by omega))
    have d1 : decide ((k.size : Int) ≤ 12) = false := by simp; omega
    go_enter Tryd.func65, Tryd.ntmps65
    go_wp2
    go_ret
    exact ⟨ret_bool E.out.symm, bl1 _ _⟩
  by_cases h2 : v.size ≤ 12
  case neg =>
    have E := Lib.hid (show okB k t v = false from decide_eq_false (by omega))
    have d1 : decide ((k.size : Int) ≤ 12) = true := by simp; omega
    have d2 : decide ((v.size : Int) ≤ 12) = false := by simp; omega
    go_enter Tryd.func65, Tryd.ntmps65
    go_wp2
    go_ret
    exact ⟨ret_bool E.out.symm, bl1 _ _⟩
  by_cases h3 : 0 ≤ t
  case neg =>
    have E := Lib.hid (show okB k t v = false from decide_eq_false (by omega))
    have d1 : decide ((k.size : Int) ≤ 12) = true := by simp; omega
    have d2 : decide ((v.size : Int) ≤ 12) = true := by simp; omega
    have d3 : decide (0 ≤ t) = false := by simpa using h3
    go_enter Tryd.func65, Tryd.ntmps65
    go_wp2
    go_ret
    exact ⟨ret_bool E.out.symm, bl1 _ _⟩
  by_cases h4 : t ≤ 3
  case neg =>
    have E := Lib.hid (show okB k t v = false from decide_eq_false (by omega))
    have d1 : decide ((k.size : Int) ≤ 12) = true := by simp; omega
    have d2 : decide ((v.size : Int) ≤ 12) = true := by simp; omega
    have d3 : decide (0 ≤ t) = true := by simpa using h3
    have d4 : decide (t ≤ 3) = false := by simpa using h4
    go_enter Tryd.func65, Tryd.ntmps65
    go_wp2
    go_ret
    exact ⟨ret_bool E.out.symm, bl1 _ _⟩
  have E := Lib.hid (show okB k t v = true from decide_eq_true ⟨h1, h2, h3, h4⟩)
  have d1 : decide ((k.size : Int) ≤ 12) = true := by simp; omega
  have d2 : decide ((v.size : Int) ≤ 12) = true := by simp; omega
  have d3 : decide (0 ≤ t) = true := by simpa using h3
  have d4 : decide (t ≤ 3) = true := by simpa using h4
  go_enter Tryd.func65, Tryd.ntmps65
  go_wp2
  go_ret
  exact ⟨ret_bool E.out.symm, bl1 _ _⟩
theorem implRowOk_any (k v : ByteArray) (t : Int) (w : World) (hk : k.size ≤ maxLen) (hv : v.size ≤ maxLen) :
    Calls Tryd.prog 85 #[.agg #[.string k, .int .i64 t, .string v]] w fun e w' => e = .returned (.bool (okB k t v)) ∧ Below w.heap.size w w' := by
  unfold maxLen at hk hv
  by_cases h1 : k.size ≤ 12
  case neg =>
    have E := Lib.hid (show okB k t v = false from decide_eq_false (by omega))
    have d1 : decide ((k.size : Int) ≤ 12) = false := by simp; omega
    go_enter Tryd.func85, Tryd.ntmps85
    go_wp2
    go_ret
    exact ⟨ret_bool E.out.symm, bl1 _ _⟩
  by_cases h2 : v.size ≤ 12
  case neg =>
    have E := Lib.hid (show okB k t v = false from decide_eq_false (by omega))
    have d1 : decide ((k.size : Int) ≤ 12) = true := by simp; omega
    have d2 : decide ((v.size : Int) ≤ 12) = false := by simp; omega
    go_enter Tryd.func85, Tryd.ntmps85
    go_wp2
    go_ret
    exact ⟨ret_bool E.out.symm, bl1 _ _⟩
  by_cases h3 : 0 ≤ t
  case neg =>
    have E := Lib.hid (show okB k t v = false from decide_eq_false (by omega))
    have d1 : decide ((k.size : Int) ≤ 12) = true := by simp; omega
    have d2 : decide ((v.size : Int) ≤ 12) = true := by simp; omega
    have d3 : decide (0 ≤ t) = false := by simpa using h3
    go_enter Tryd.func85, Tryd.ntmps85
    go_wp2
    go_ret
    exact ⟨ret_bool E.out.symm, bl1 _ _⟩
  by_cases h4 : t ≤ 3
  case neg =>
    have E := Lib.hid (show okB k t v = false from decide_eq_false (by omega))
    have d1 : decide ((k.size : Int) ≤ 12) = true := by simp; omega
    have d2 : decide ((v.size : Int) ≤ 12) = true := by simp; omega
    have d3 : decide (0 ≤ t) = true := by simpa using h3
    have d4 : decide (t ≤ 3) = false := by simpa using h4
    go_enter Tryd.func85, Tryd.ntmps85
    go_wp2
    go_ret
    exact ⟨ret_bool E.out.symm, bl1 _ _⟩
  have E := Lib.hid (show okB k t v = true from decide_eq_true ⟨h1, h2, h3, h4⟩)
  have d1 : decide ((k.size : Int) ≤ 12) = true := by simp; omega
  have d2 : decide ((v.size : Int) ≤ 12) = true := by simp; omega
  have d3 : decide (0 ≤ t) = true := by simpa using h3
  have d4 : decide (t ≤ 3) = true := by simpa using h4
  go_enter Tryd.func85, Tryd.ntmps85
  go_wp2
  go_ret
  exact ⟨ret_bool E.out.symm, bl1 _ _⟩

theorem szV_bd (k v : ByteArray) (left : Int) (h0 : 0 ≤ left) (h1 : left ≤ 1048576) : szV k v left = -1 ∨ (0 ≤ szV k v left ∧ szV k v left ≤ 1048576) := by
  unfold szV; split <;> omega
theorem szV_le (k v : ByteArray) (left : Int) (h0 : 0 ≤ left) (_h1 : left ≤ 1048576) : szV k v left = -1 ∨ (0 ≤ szV k v left ∧ szV k v left ≤ left) := by
  unfold szV; split <;> omega
theorem specRowOk_b (k v : ByteArray) (t : Int) (b : Bool) (w : World) (hk : k.size ≤ maxLen) (hv : v.size ≤ maxLen) (h : okB k t v = b) :
    Calls Tryd.prog 65 #[.agg #[.string k, .int .i64 t, .string v]] w fun e w' => e = .returned (.bool b) ∧ Below w.heap.size w w' := h ▸ specRowOk_any k v t w hk hv
theorem implRowOk_b (k v : ByteArray) (t : Int) (b : Bool) (w : World) (hk : k.size ≤ maxLen) (hv : v.size ≤ maxLen) (h : okB k t v = b) :
    Calls Tryd.prog 85 #[.agg #[.string k, .int .i64 t, .string v]] w fun e w' => e = .returned (.bool b) ∧ Below w.heap.size w w' := h ▸ implRowOk_any k v t w hk hv
end Go.Proofs.YtallcholbbfkdaaDoor
