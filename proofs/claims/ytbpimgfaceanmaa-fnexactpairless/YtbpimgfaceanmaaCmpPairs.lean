/-
  impl.comparePairs and spec.l5Less by their contracts: the order of pairs. No conditions.
-/
import Derived.Test.YtbpimgfaceanmaaCmpRows
import Derived.Test.YtbpimgfaceanmaaPairText
namespace Go.Proofs.Ytbpimgfaceanmaa
open Go.RowKit

def cmpB (a b : Bool) : Int := if a = b then 0 else if b then -1 else 1
set_option maxRecDepth 100000 in
theorem compareB_any (a b : Bool) (w : World) :
    Calls Try.prog 89 #[.bool a, .bool b] w fun e w' => e = .returned (.int .i64 (cmpB a b)) ∧ w' = w := by
  cases a <;> cases b
  all_goals
    go_enter Try.func89, Try.ntmps89
    go_wp2
    go_ret
    exact ⟨rfl, rfl⟩

/-- The first of some numbers that is not 0. -/
def orL : List Int → Int
  | [] => 0
  | x :: l => if x ≠ 0 then x else orL l
theorem orL_zero : ∀ (l : List Int) (k : Nat), (∀ x ∈ l.take k, x = 0) → orL l = orL (l.drop k)
  | l, 0, _ => by simp
  | [], k + 1, _ => by simp
  | x :: l, k + 1, h => by
    have h0 : x = 0 := h x (by simp)
    simp only [orL, h0, ne_eq, not_true_eq_false, if_false, List.drop_succ_cons]
    exact orL_zero l k fun y hy => h y (by simp [hy])
set_option maxRecDepth 100000 in
theorem orN_any (b n : Nat) (xs : List Int) (w : World) (hn : xs.length = n) (hm : n ≤ 100) (hc : ∀ j x, xs[j]? = some x → w.cell? ⟨b, j, none⟩ = some (.int .i64 x)) :
    Calls Try.prog 87 #[.slice (some ⟨b, 0, none⟩) n n] w fun e w' => e = .returned (.int .i64 (orL xs)) ∧ w = w' := by
  go_enter Try.func87, Try.ntmps87
  go_wp2
  go_loop [8] (fun i => ∃ k : Nat, k ≤ n ∧ i = .int .i64 k ∧ ∀ x ∈ xs.take k, x = 0) (fun i => n - (intOf i).toNat)
  case atStart => exact ⟨0, by omega, rfl, by simp⟩
  case round =>
    obtain ⟨k, hk, rfl, hr⟩ := hrel
    by_cases hlt : k < n
    · have c := hc k (xs[k]'(by omega)) (List.getElem?_eq_getElem (by omega))
      have HD := Lib.hid (orL_zero xs k hr)
      have HC := Lib.hid (show xs.drop k = xs[k]'(by omega) :: xs.drop (k + 1) from List.drop_eq_getElem_cons (by omega))
      have HT := Lib.hid (show ∀ y ∈ xs.take (k + 1), y = xs[k]'(by omega) ∨ y ∈ xs.take k by
        intro y hy
        rw [List.take_succ_eq_append_getElem (by omega)] at hy
        rcases List.mem_append.1 hy with h | h
        · exact Or.inr h
        · exact Or.inl (by simpa using h))
      have HR := Lib.hid hr
      generalize xs[k]'(by omega) = x at *
      clear hc hr
      by_cases hx : x = 0
      · have hb : (x != 0) = false := by simpa using hx
        have R := Lib.hid (show ∀ y ∈ xs.take (k + 1), y = 0 from fun y hy => (HT.out y hy).elim (fun e => e.trans hx) (HR.out y))
        clear hx HT HR
        go_wp2
        go_round
        case rel => exact ⟨k + 1, by omega, by go_num, R.out⟩
        case measure => simp [intOf]; omega
      · have hb : (x != 0) = true := by simpa using hx
        have E := Lib.hid (show orL xs = x by rw [HD.out, HC.out]; simp [orL, hx])
        go_wp2
        go_ret
        exact ⟨ret_int E.out.symm, rfl⟩
    · have E := Lib.hid (show orL xs = 0 by rw [orL_zero xs k hr, List.drop_eq_nil_of_le (by omega)]; rfl)
      clear hc hr
      go_wp2
      go_ret
      exact ⟨ret_int E.out.symm, rfl⟩

set_option maxRecDepth 100000 in
theorem comparePairs_any (k l r : ByteArray) (x y : Bool) (k2 l2 r2 : ByteArray) (x2 y2 : Bool) (w : World) :
    Calls Try.prog 59 #[.agg #[.string k, .string l, .string r, .bool x, .bool y], .agg #[.string k2, .string l2, .string r2, .bool x2, .bool y2]] w fun e w' => e = .returned (.int .i64 (orL [cmpS k k2, cmpB x x2, cmpS l l2, cmpB y y2, cmpS r r2])) ∧ Below w.heap.size w w' := by
  have c1 := (At5.new w (.string k) (.string l) (.string r) (.bool x) (.bool y) 33).keep (bl1 _ (.cells #[.string k2, .string l2, .string r2, .bool x2, .bool y2] 33)) (by simp)
  have c2 := At5.new (w.alloc (.cells #[.string k, .string l, .string r, .bool x, .bool y] 33)) (.string k2) (.string l2) (.string r2) (.bool x2) (.bool y2) 33
  have hb := bl2 w (.cells #[.string k, .string l, .string r, .bool x, .bool y] 33) (.cells #[.string k2, .string l2, .string r2, .bool x2, .bool y2] 33)
  simp only [World.size_alloc] at c2
  go_enter Try.func59, Try.ntmps59
  go_wp2_with fail
  generalize (w.alloc (.cells #[.string k, .string l, .string r, .bool x, .bool y] 33)).alloc (.cells #[.string k2, .string l2, .string r2, .bool x2, .bool y2] 33) = W at *
  obtain ⟨u0, u1, u2, u3, u4⟩ := c1
  obtain ⟨v0, v1, v2, v3, v4⟩ := c2
  refine wp_region_still_tail 25 (by kernel_rfl) (by kernel_rfl) ?_
  simp only [List.take_succ_cons, List.take_zero, List.drop_succ_cons, List.drop_zero]
  change wpStill _ _ W.drew _ _ _
  repeat still_step
  still_call (compareS_any k k2 _)
  repeat still_step
  still_call (compareB_any x x2 _)
  repeat still_step
  still_call (compareS_any l l2 _)
  repeat still_step
  still_call (compareB_any y y2 _)
  repeat still_step
  still_call (compareS_any r r2 _)
  repeat still_step
  refine wpStill_nil ?_
  change wpList _ _ _ _ _ W.drew
  go_wp2_with fail
  refine (orN_any _ 5 [cmpS k k2, cmpB x x2, cmpS l l2, cmpB y y2, cmpS r r2] _ rfl (by omega) (fun j z hz => ?_)).mono ?_
  · rcases j with _ | _ | _ | _ | _ | j <;> simp at hz <;> subst hz <;> simp [go_sem]
  rintro e w1 ⟨rfl, rfl⟩
  go_wp2_with fail
  go_ret
  exact ⟨rfl, (hb.alloc hb.size _).drew⟩
def lessP (k l r : ByteArray) (x y : Bool) (k2 l2 r2 : ByteArray) (x2 y2 : Bool) : Bool :=
  if (!k.toList == k2.toList) = true then Op.bytesLess k.toList k2.toList else if (!x == x2) = true then x2 else if (!l.toList == l2.toList) = true then Op.bytesLess l.toList l2.toList else if (!y == y2) = true then y2 else Op.bytesLess r.toList r2.toList
theorem cmpS_zero (a b : ByteArray) (h : a.toList = b.toList) : cmpS a b = 0 := by simp [cmpS, h, bytesLess_irrefl]
theorem cmpS_ne (a b : ByteArray) (h : a.toList ≠ b.toList) : cmpS a b ≠ 0 := by
  unfold cmpS; cases Op.bytesLess a.toList b.toList <;> simp [h]
theorem cmpB_self (x : Bool) : cmpB x x = 0 := if_pos rfl
theorem orL_less (k l r : ByteArray) (x y : Bool) (k2 l2 r2 : ByteArray) (x2 y2 : Bool) : decide (orL [cmpS k k2, cmpB x x2, cmpS l l2, cmpB y y2, cmpS r r2] < 0) = lessP k l r x y k2 l2 r2 x2 y2 := by
  unfold lessP
  by_cases h1 : k.toList = k2.toList
  case neg => simp [orL, cmpS_ne _ _ h1, cmpS_neg, h1]
  by_cases h2 : x = x2
  case neg => simp only [orL, cmpS_zero _ _ h1, h1]; cases x <;> cases x2 <;> simp_all [cmpB]
  subst h2
  by_cases h3 : l.toList = l2.toList
  case neg => simp [orL, cmpS_zero _ _ h1, cmpB_self, cmpS_ne _ _ h3, cmpS_neg, h1, h3]
  by_cases h4 : y = y2
  case neg => simp only [orL, cmpS_zero _ _ h1, cmpB_self, cmpS_zero _ _ h3, h1, h3]; cases y <;> cases y2 <;> simp_all [cmpB]
  subst h4
  by_cases h5 : r.toList = r2.toList
  · simp [orL, cmpS_zero _ _ h1, cmpB_self, cmpS_zero _ _ h3, cmpS_zero _ _ h5, h1, h3, h5, bytesLess_irrefl]
  · simp [orL, cmpS_zero _ _ h1, cmpB_self, cmpS_zero _ _ h3, cmpS_ne _ _ h5, cmpS_neg, h1, h3]
set_option maxRecDepth 100000 in
theorem l5Less_any (k l r : ByteArray) (x y : Bool) (k2 l2 r2 : ByteArray) (x2 y2 : Bool) (w : World) :
    Calls Try.prog 58 #[.agg #[.string k, .string l, .string r, .bool x, .bool y], .agg #[.string k2, .string l2, .string r2, .bool x2, .bool y2]] w fun e w' => e = .returned (.bool (lessP k l r x y k2 l2 r2 x2 y2)) ∧ Below w.heap.size w w' := by
  by_cases h1 : (!k.toList == k2.toList) = true
  case pos =>
    have E := Lib.hid (show lessP k l r x y k2 l2 r2 x2 y2 = _ from if_pos h1)
    go_enter Try.func58, Try.ntmps58
    go_wp2
    go_ret
    exact ⟨ret_bool E.out.symm, bl2 _ _ _⟩
  replace h1 : (!k.toList == k2.toList) = false := by simpa using h1
  by_cases h2 : (!x == x2) = true
  case pos =>
    have E := Lib.hid (show lessP k l r x y k2 l2 r2 x2 y2 = x2 by simp only [lessP, h1, h2]; rfl)
    go_enter Try.func58, Try.ntmps58
    go_wp2
    go_ret
    exact ⟨ret_bool E.out.symm, bl2 _ _ _⟩
  replace h2 : (!x == x2) = false := by simpa using h2
  by_cases h3 : (!l.toList == l2.toList) = true
  case pos =>
    have E := Lib.hid (show lessP k l r x y k2 l2 r2 x2 y2 = Op.bytesLess l.toList l2.toList by simp only [lessP, h1, h2, h3]; rfl)
    go_enter Try.func58, Try.ntmps58
    go_wp2
    go_ret
    exact ⟨ret_bool E.out.symm, bl2 _ _ _⟩
  replace h3 : (!l.toList == l2.toList) = false := by simpa using h3
  by_cases h4 : (!y == y2) = true
  case pos =>
    have E := Lib.hid (show lessP k l r x y k2 l2 r2 x2 y2 = y2 by simp only [lessP, h1, h2, h3, h4]; rfl)
    go_enter Try.func58, Try.ntmps58
    go_wp2
    go_ret
    exact ⟨ret_bool E.out.symm, bl2 _ _ _⟩
  replace h4 : (!y == y2) = false := by simpa using h4
  have E := Lib.hid (show lessP k l r x y k2 l2 r2 x2 y2 = Op.bytesLess r.toList r2.toList by simp only [lessP, h1, h2, h3, h4]; rfl)
  go_enter Try.func58, Try.ntmps58
  go_wp2
  go_ret
  exact ⟨ret_bool E.out.symm, bl2 _ _ _⟩
end Go.Proofs.Ytbpimgfaceanmaa
