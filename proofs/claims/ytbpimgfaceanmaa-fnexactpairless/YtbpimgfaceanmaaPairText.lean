/-
  impl.PairText and spec.PairText return the same string. Conditions: the three texts together have at most 1048576 bytes.
-/
import Derived.Test.YtbpimgfaceanmaaPairMem
import Derived.StillTailTactics
namespace Go.Proofs.Ytbpimgfaceanmaa
open Go.RowKit

def sideS (s : ByteArray) (b : Bool) : ByteArray := if b then ⟨#[61]⟩ ++ s else ⟨#[45]⟩
theorem sideS_size (s : ByteArray) (b : Bool) : (sideS s b).size ≤ s.size + 1 := by
  cases b
  · show 1 ≤ _; omega
  · simp [sideS]; show 1 + _ ≤ _; omega

set_option maxRecDepth 100000 in
theorem implSide_any (s : ByteArray) (b : Bool) (w : World) (hs : s.size ≤ 1048576) :
    Calls Try.prog 57 #[.string s, .bool b] w fun e w' => e = .returned (.string (sideS s b)) ∧ w' = w := by
  cases b
  · go_enter Try.func57, Try.ntmps57
    go_wp2
    go_ret
    exact ⟨rfl, rfl⟩
  · go_enter Try.func57, Try.ntmps57
    go_wp2
    go_ret
    exact ⟨rfl, rfl⟩
set_option maxRecDepth 100000 in
theorem specSide_any (s : ByteArray) (b : Bool) (w : World) (hs : s.size ≤ 1048576) :
    Calls Try.prog 56 #[.string s, .bool b] w fun e w' => e = .returned (.string (sideS s b)) ∧ w' = w := by
  cases b
  · go_enter Try.func56, Try.ntmps56
    go_wp2
    go_ret
    exact ⟨rfl, rfl⟩
  · go_enter Try.func56, Try.ntmps56
    go_wp2
    go_ret
    exact ⟨rfl, rfl⟩

def pairS (k l r : ByteArray) (x y : Bool) : ByteArray := k ++ ⟨#[32]⟩ ++ sideS l x ++ ⟨#[32]⟩ ++ sideS r y
/-- The five cells of a pair at the head of block B. -/
def At5 (w : World) (B : Nat) (a b c d e : Value) : Prop := w.cell? ⟨B, 0, none⟩ = some a ∧ w.cell? ⟨B, 1, none⟩ = some b ∧ w.cell? ⟨B, 2, none⟩ = some c ∧ w.cell? ⟨B, 3, none⟩ = some d ∧ w.cell? ⟨B, 4, none⟩ = some e
theorem At5.keep {w w' : World} {B : Nat} {a b c d e : Value} (h : At5 w B a b c d e) (hb : Below w.heap.size w w') (hB : B < w.heap.size) : At5 w' B a b c d e :=
  ⟨(hb.cell (p := ⟨B, 0, none⟩) hB).trans h.1, (hb.cell (p := ⟨B, 1, none⟩) hB).trans h.2.1, (hb.cell (p := ⟨B, 2, none⟩) hB).trans h.2.2.1, (hb.cell (p := ⟨B, 3, none⟩) hB).trans h.2.2.2.1, (hb.cell (p := ⟨B, 4, none⟩) hB).trans h.2.2.2.2⟩
theorem At5.new (w : World) (a b c d e : Value) (t : TypeId) : At5 (w.alloc (.cells #[a, b, c, d, e] t)) w.heap.size a b c d e := by
  simp [At5, go_sem]
set_option maxRecDepth 100000 in
theorem implPairText_any (k l r : ByteArray) (x y : Bool) (w : World) (hs : k.size + l.size + r.size ≤ 1048576) :
    Calls Try.prog 22 #[.agg #[.string k, .string l, .string r, .bool x, .bool y]] w fun e w' => e = .returned (.string (pairS k l r x y)) ∧ Below w.heap.size w w' := by
  have h1 := sideS_size l x
  have h2 := sideS_size r y
  have hb := bl1 w (.cells #[.string k, .string l, .string r, .bool x, .bool y] 33)
  have c := At5.new w (.string k) (.string l) (.string r) (.bool x) (.bool y) 33
  go_enter Try.func22, Try.ntmps22
  go_wp2_with fail
  generalize w.alloc (.cells #[.string k, .string l, .string r, .bool x, .bool y] 33) = W at *
  obtain ⟨x0, x1, x2, x3, x4⟩ := c
  refine wp_region_still_tail 16 (by kernel_rfl) (by kernel_rfl) ?_
  simp only [List.take_succ_cons, List.take_zero, List.drop_succ_cons, List.drop_zero]
  change wpStill _ _ W.drew _ _ _
  have z1 : ¬ 9223372036854775807 < k.size + 1 := by omega
  have z2 : ¬ 9223372036854775807 < k.size + 1 + (sideS l x).size := by omega
  have z3 : ¬ 9223372036854775807 < k.size + 1 + (sideS l x).size + 1 := by omega
  have z4 : ¬ 9223372036854775807 < k.size + 1 + (sideS l x).size + 1 + (sideS r y).size := by omega
  repeat still_step
  still_call (implSide_any l x _ (by omega))
  repeat still_step
  still_call (implSide_any r y _ (by omega))
  repeat still_step
  refine wpStill_nil ?_
  change wpList _ _ _ _ _ W.drew
  go_wp2_with fail
  go_ret
  exact ⟨rfl, hb.drew⟩
set_option maxRecDepth 100000 in
theorem specPairText_any (k l r : ByteArray) (x y : Bool) (w : World) (hs : k.size + l.size + r.size ≤ 1048576) :
    Calls Try.prog 20 #[.agg #[.string k, .string l, .string r, .bool x, .bool y]] w fun e w' => e = .returned (.string (pairS k l r x y)) ∧ Below w.heap.size w w' := by
  have h1 := sideS_size l x
  have h2 := sideS_size r y
  have hb := bl1 w (.cells #[.string k, .string l, .string r, .bool x, .bool y] 33)
  have c := At5.new w (.string k) (.string l) (.string r) (.bool x) (.bool y) 33
  go_enter Try.func20, Try.ntmps20
  go_wp2_with fail
  generalize w.alloc (.cells #[.string k, .string l, .string r, .bool x, .bool y] 33) = W at *
  obtain ⟨x0, x1, x2, x3, x4⟩ := c
  refine wp_region_still_tail 16 (by kernel_rfl) (by kernel_rfl) ?_
  simp only [List.take_succ_cons, List.take_zero, List.drop_succ_cons, List.drop_zero]
  change wpStill _ _ W.drew _ _ _
  have z1 : ¬ 9223372036854775807 < k.size + 1 := by omega
  have z2 : ¬ 9223372036854775807 < k.size + 1 + (sideS l x).size := by omega
  have z3 : ¬ 9223372036854775807 < k.size + 1 + (sideS l x).size + 1 := by omega
  have z4 : ¬ 9223372036854775807 < k.size + 1 + (sideS l x).size + 1 + (sideS r y).size := by omega
  repeat still_step
  still_call (specSide_any l x _ (by omega))
  repeat still_step
  still_call (specSide_any r y _ (by omega))
  repeat still_step
  refine wpStill_nil ?_
  change wpList _ _ _ _ _ W.drew
  go_wp2_with fail
  go_ret
  exact ⟨rfl, hb.drew⟩
end Go.Proofs.Ytbpimgfaceanmaa
