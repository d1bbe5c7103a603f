/-
  impl.compareRows by its contract: negative just where the one row precedes the other. No conditions.
-/
import Derived.Test.YtallcholbbfkdaaDoorRowOk
import Derived.Test.YtallcholbbfkdaaDoorL1Less
import Derived.StillTailTactics
namespace Go.Proofs.YtallcholbbfkdaaDoor
open Go.RowKit

/-- The three cells of a row at the head of block B. -/
def At3 (w : World) (B : Nat) (x y z : Value) : Prop := w.cell? ⟨B, 0, none⟩ = some x ∧ w.cell? ⟨B, 1, none⟩ = some y ∧ w.cell? ⟨B, 2, none⟩ = some z
theorem At3.keep {w w' : World} {B : Nat} {x y z : Value} (h : At3 w B x y z) (hb : Below w.heap.size w w') (hB : B < w.heap.size) : At3 w' B x y z :=
  ⟨(hb.cell (p := ⟨B, 0, none⟩) hB).trans h.1, (hb.cell (p := ⟨B, 1, none⟩) hB).trans h.2.1, (hb.cell (p := ⟨B, 2, none⟩) hB).trans h.2.2⟩
theorem At3.new (w : World) (x y z : Value) (t : TypeId) : At3 (w.alloc (.cells #[x, y, z] t)) w.heap.size x y z := by
  simp [At3, go_sem]
def cmpS (a b : ByteArray) : Int := if Op.bytesLess a.toList b.toList = true then -1 else if (!a.toList == b.toList) = true then 1 else 0
def cmpI (a b : Int) : Int := if a < b then -1 else if b < a then 1 else 0
def or3 (x y z : Int) : Int := if x ≠ 0 then x else if y ≠ 0 then y else z
theorem bytesLess_irrefl : ∀ l : List UInt8, Op.bytesLess l l = false
  | [] => rfl
  | a :: x => by simp [Op.bytesLess, bytesLess_irrefl x]
theorem cmpS_neg (a b : ByteArray) : decide (cmpS a b < 0) = Op.bytesLess a.toList b.toList := by
  unfold cmpS; cases Op.bytesLess a.toList b.toList <;> simp; split <;> omega
theorem or3_less (k : ByteArray) (t : Int) (v k2 : ByteArray) (t2 : Int) (v2 : ByteArray) : decide (or3 (cmpS k k2) (cmpI t t2) (cmpS v v2) < 0) = lessB k t v k2 t2 v2 := by
  unfold lessB or3
  by_cases h : k.toList = k2.toList
  · have e : cmpS k k2 = 0 := by simp [cmpS, h, bytesLess_irrefl]
    simp only [e, h]
    by_cases ht : t = t2
    · have e2 : cmpI t t2 = 0 := by unfold cmpI; subst ht; simp
      simp only [e2, ne_eq, not_true_eq_false, if_false, cmpS_neg]
      simp [ht]
    · by_cases hl : t < t2
      · have e2 : cmpI t t2 = -1 := by unfold cmpI; rw [if_pos hl]
        simp [e2, ht, hl]
      · have e2 : cmpI t t2 = 1 := by unfold cmpI; rw [if_neg hl, if_pos (by omega)]
        simp [e2, ht, hl]
  · have e : cmpS k k2 ≠ 0 := by
      unfold cmpS; cases Op.bytesLess k.toList k2.toList <;> simp [h]
    simp only [e, ne_eq, not_false_eq_true, if_true, cmpS_neg]
    simp [h]
theorem cmpS_bd (a b : ByteArray) : -1 ≤ cmpS a b ∧ cmpS a b ≤ 1 := by unfold cmpS; split <;> (try split) <;> omega
theorem cmpI_bd (a b : Int) : -1 ≤ cmpI a b ∧ cmpI a b ≤ 1 := by unfold cmpI; split <;> (try split) <;> omega

theorem compareS_any (a b : ByteArray) (w : World) :
    Calls Tryd.prog 88 #[.string a, .string b] w fun e w' => e = .returned (.int .i64 (cmpS a b)) ∧ w' = w := by
  by_cases h : Op.bytesLess a.toList b.toList = true
  · have E := Lib.hid (show cmpS a b = -1 from if_pos h)
    go_enter Tryd.func88, Tryd.ntmps88
    go_wp2
    go_ret
    exact ⟨ret_int E.out.symm, rfl⟩
  · replace h : Op.bytesLess a.toList b.toList = false := by simpa using h
    by_cases h2 : (!a.toList == b.toList) = true
    · have E := Lib.hid (show cmpS a b = 1 by simp only [cmpS, h, h2]; rfl)
      go_enter Tryd.func88, Tryd.ntmps88
      go_wp2
      go_ret
      exact ⟨ret_int E.out.symm, rfl⟩
    · replace h2 : (!a.toList == b.toList) = false := by simpa using h2
      have E := Lib.hid (show cmpS a b = 0 by simp only [cmpS, h, h2]; rfl)
      go_enter Tryd.func88, Tryd.ntmps88
      go_wp2
      go_ret
      exact ⟨ret_int E.out.symm, rfl⟩
theorem compareI_any (a b : Int) (w : World) :
    Calls Tryd.prog 89 #[.int .i64 a, .int .i64 b] w fun e w' => e = .returned (.int .i64 (cmpI a b)) ∧ w' = w := by
  by_cases h : a < b
  · have E := Lib.hid (show cmpI a b = -1 from if_pos h)
    go_enter Tryd.func89, Tryd.ntmps89
    go_wp2
    go_ret
    exact ⟨ret_int E.out.symm, rfl⟩
  · by_cases h2 : b < a
    · have E := Lib.hid (show cmpI a b = 1 by unfold cmpI; rw [if_neg h, if_pos h2])
      go_enter Tryd.func89, Tryd.ntmps89
      go_wp2
      go_ret
      exact ⟨ret_int E.out.symm, rfl⟩
    · have E := Lib.hid (show cmpI a b = 0 by unfold cmpI; rw [if_neg h, if_neg h2])
      go_enter Tryd.func89, Tryd.ntmps89
      go_wp2
      go_ret
      exact ⟨ret_int E.out.symm, rfl⟩

def orRel (x y z : Int) (k : Nat) : Prop := (1 ≤ k → x = 0) ∧ (2 ≤ k → y = 0) ∧ (3 ≤ k → z = 0)
theorem or_any (b : Nat) (x y z : Int) (w : World) (h0 : w.cell? ⟨b, 0, none⟩ = some (.int .i64 x)) (h1 : w.cell? ⟨b, 1, none⟩ = some (.int .i64 y)) (h2 : w.cell? ⟨b, 2, none⟩ = some (.int .i64 z)) :
    Calls Tryd.prog 87 #[.slice (some ⟨b, 0, none⟩) 3 3] w fun e w' => e = .returned (.int .i64 (or3 x y z)) ∧ w = w' := by
  go_enter Tryd.func87, Tryd.ntmps87
  go_wp2
  go_loop [8] (fun i => ∃ k : Nat, k ≤ 3 ∧ i = .int .i64 k ∧ orRel x y z k) (fun i => 3 - (intOf i).toNat)
  case atStart => exact ⟨0, by omega, rfl, by simp [orRel]⟩
  case round =>
    obtain ⟨k, hk, rfl, hr⟩ := hrel
    rcases (show k = 0 ∨ k = 1 ∨ k = 2 ∨ k = 3 by omega) with rfl | rfl | rfl | rfl
    · by_cases hx : x = 0
      · have R : orRel x y z 1 := by simp [orRel, hx]
        have hb : (x != 0) = false := by simpa using hx
        clear hx hr
        go_wp2
        go_round
        case rel => exact ⟨1, by omega, by go_num, R⟩
        case measure => simp [intOf]
      · have E := Lib.hid (show or3 x y z = x by simp [or3, hx])
        have hb : (x != 0) = true := by simpa using hx
        go_wp2
        go_ret
        exact ⟨ret_int E.out.symm, rfl⟩
    · obtain ⟨r0, _, _⟩ := hr
      have hx := r0 (by omega)
      by_cases hy : y = 0
      · have R : orRel x y z 2 := by simp [orRel, hx, hy]
        have hb : (y != 0) = false := by simpa using hy
        clear hx hy r0
        go_wp2
        go_round
        case rel => exact ⟨2, by omega, by go_num, R⟩
        case measure => simp [intOf]
      · have E := Lib.hid (show or3 x y z = y by simp [or3, hx, hy])
        have hb : (y != 0) = true := by simpa using hy
        clear hx r0
        go_wp2
        go_ret
        exact ⟨ret_int E.out.symm, rfl⟩
    · obtain ⟨r0, r1, _⟩ := hr
      have hx := r0 (by omega)
      have hy := r1 (by omega)
      by_cases hz : z = 0
      · have R : orRel x y z 3 := by simp [orRel, hx, hy, hz]
        have hb : (z != 0) = false := by simpa using hz
        clear hx hy hz r0 r1
        go_wp2
        go_round
        case rel => exact ⟨3, by omega, by go_num, R⟩
        case measure => simp [intOf]
      · have E := Lib.hid (show or3 x y z = z by simp [or3, hx, hy])
        have hb : (z != 0) = true := by simpa using hz
        clear hx hy r0 r1
        go_wp2
        go_ret
        exact ⟨ret_int E.out.symm, rfl⟩
    · obtain ⟨r0, r1, r2⟩ := hr
      have E := Lib.hid (show or3 x y z = 0 by simp [or3, r0 (by omega), r1 (by omega), r2 (by omega)])
      clear r0 r1 r2
      go_wp2
      go_ret
      exact ⟨ret_int E.out.symm, rfl⟩

set_option maxRecDepth 100000 in
theorem compareRows_any (k v : ByteArray) (t : Int) (k2 v2 : ByteArray) (t2 : Int) (w : World) :
    Calls Tryd.prog 60 #[.agg #[.string k, .int .i64 t, .string v], .agg #[.string k2, .int .i64 t2, .string v2]] w fun e w' => e = .returned (.int .i64 (or3 (cmpS k k2) (cmpI t t2) (cmpS v v2))) ∧ Below w.heap.size w w' := by
  have c1 := (At3.new w (.string k) (.int .i64 t) (.string v) 68).keep (bl1 _ (.cells #[.string k2, .int .i64 t2, .string v2] 68)) (by simp)
  have c2 := At3.new (w.alloc (.cells #[.string k, .int .i64 t, .string v] 68)) (.string k2) (.int .i64 t2) (.string v2) 68
  have hb := bl2 w (.cells #[.string k, .int .i64 t, .string v] 68) (.cells #[.string k2, .int .i64 t2, .string v2] 68)
  simp only [World.size_alloc] at c2
  go_enter Tryd.func60, Tryd.ntmps60
  go_wp2_with fail
  generalize (w.alloc (.cells #[.string k, .int .i64 t, .string v] 68)).alloc (.cells #[.string k2, .int .i64 t2, .string v2] 68) = W at *
  obtain ⟨x0, x1, x2⟩ := c1
  obtain ⟨y0, y1, y2⟩ := c2
  refine wp_region_still_tail 15 (by kernel_rfl) (by kernel_rfl) ?_
  simp only [List.take_succ_cons, List.take_zero, List.drop_succ_cons, List.drop_zero]
  change wpStill _ _ W.drew _ _ _
  repeat still_step
  still_call (compareS_any k k2 _)
  repeat still_step
  still_call (compareI_any t t2 _)
  repeat still_step
  still_call (compareS_any v v2 _)
  repeat still_step
  refine wpStill_nil ?_
  change wpList _ _ _ _ _ W.drew
  go_wp2_with fail
  refine (or_any _ (cmpS k k2) (cmpI t t2) (cmpS v v2) _ (by simp [go_sem]) (by simp [go_sem]) (by simp [go_sem])).mono ?_
  rintro e w1 ⟨rfl, rfl⟩
  go_wp2_with fail
  go_ret
  exact ⟨rfl, (hb.alloc hb.size _).drew⟩

end Go.Proofs.YtallcholbbfkdaaDoor
