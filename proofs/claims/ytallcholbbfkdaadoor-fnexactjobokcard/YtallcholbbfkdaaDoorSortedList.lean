
/-
  slices.Clone, slices.SortStableFunc, impl.sortedListOf, impl.Sorted and spec.Sorted at rows by their contracts. Condition: at most 1048576 rows.
-/
import Derived.Test.YtallcholbbfkdaaDoorStable
import Derived.Lib.SliceRun
import Derived.Laws.EntriesVeiled
namespace Go.Proofs.YtallcholbbfkdaaDoor
open Go.RowKit

set_option maxRecDepth 100000 in
set_option maxHeartbeats 1000000 in
theorem insertion_none (a : Option Addr) (cap : Nat) (cf : Value) (w : World) :
    Calls Tryd.prog 125 #[.slice a 0 cap, .int .i64 0, .int .i64 0, cf] w fun e w' => e = .returned (.tuple #[]) ∧ Below w.heap.size w w' := by
  go_enter Tryd.func125, Tryd.ntmps125
  go_wp2
  go_loopw [8] (fun vi wr => vi = .int .i64 1 ∧ Below w.heap.size w wr) (fun _ _ => 0)
  case atStart => exact ⟨rfl, Below.refl _ _⟩
  case round =>
    obtain ⟨rfl, hb⟩ := hrel
    go_wp2_with fail
    go_end0
    exact ⟨rfl, hb⟩
set_option maxRecDepth 100000 in
set_option maxHeartbeats 1000000 in
theorem stable_none (a : Option Addr) (cap : Nat) (cf : Value) (w : World) :
    Calls Tryd.prog 114 #[.slice a 0 cap, .int .i64 0, cf] w fun e w' => e = .returned (.tuple #[]) ∧ Below w.heap.size w w' := by
  go_enter Tryd.func114, Tryd.ntmps114
  go_wp2
  go_loopw [7, 8] (fun va vb wr => va = .int .i64 0 ∧ vb = .int .i64 20 ∧ Below w.heap.size w wr) (fun _ _ _ => 0)
  case atStart => exact ⟨rfl, rfl, Below.refl _ _⟩
  case round =>
    obtain ⟨rfl, rfl, hb⟩ := hrel
    go_wp2_with fail
    refine (insertion_none a cap cf _).mono ?_
    rintro e w1 ⟨rfl, hb1⟩
    have hb2 := hb.trans (hb1.mono hb.size)
    go_wp2_with fail
    go_loopw [6] (fun vk wr => vk = .int .i64 20 ∧ Below w.heap.size w wr) (fun _ _ => 0)
    case atStart => exact ⟨rfl, hb2⟩
    case round =>
      obtain ⟨rfl, hb⟩ := hrel
      go_wp2_with fail
      go_end0
      exact ⟨rfl, hb⟩
/-- A slice that is owned and its rows, sorted in place. -/
theorem sortStable_any (a : Option Addr) (N cap base : Nat) (D : List RowV) (w : World) (hN : N ≤ 1048576) (hO : w.ownsRow base 68 3 (.slice a N cap) N (flat D)) :
    Calls Tryd.prog 86 #[.slice a N cap, .func (.func 60) #[] #[]] w fun e w' => e = .returned (.tuple #[]) ∧ w'.ownsRow base 68 3 (.slice a N cap) N (flat (sortL D)) ∧ w.grownBy w' (Value.slice a N cap).ownBlock := by
  by_cases h0 : 0 < N
  · obtain ⟨g, rfl, _, _⟩ := own_form hO h0
    have C := stable_any g cap N base D w hN hO
    go_enter Tryd.func86, Tryd.ntmps86
    go_wp2_with fail
    refine C.mono ?_
    rintro e w1 ⟨rfl, hH, hg⟩
    go_wp2_with fail
    go_end0
    exact ⟨rfl, hH, hg⟩
  · obtain rfl : N = 0 := by omega
    have hD : D = [] := by have := hO.1; rw [flat_length] at this; exact List.length_eq_zero_iff.1 (by omega)
    subst hD
    go_enter Tryd.func86, Tryd.ntmps86
    go_wp2_with fail
    refine (stable_none a cap _ _).mono ?_
    rintro e w1 ⟨rfl, hb⟩
    have hO1 := own_below hO hb
    go_wp2_with fail
    go_end0
    exact ⟨rfl, hO1, gb_of_below hb _⟩
set_option maxRecDepth 100000 in
set_option maxHeartbeats 1000000 in
theorem clone_any (a : Option Addr) (n cap : Nat) (rs : List RowV) (w : World) (hm : n ≤ 1048576) (hR : Rd w w.heap.size 3 a n (flat rs)) :
    Calls Tryd.prog 69 #[.slice a n cap] w fun e w' => ∃ b c, e = .returned (.slice b n c) ∧ w'.ownsRow w.heap.size 68 3 (.slice b n c) n (flat rs) ∧ Below w.heap.size w w' := by
  obtain ⟨i0, hi, hz0, hz1, hz2⟩ := info_parts infoRow
  have q22 : ∀ (w : World) (a : Option Addr) (n c n' c' : Nat), (binOp .eql 27 (.slice a n c) (.slice none n' c')).run Tryd.prog w = .ok (.bool a.isNone) w := fun w a n c n' c' => Lib.run_eql_slice_nil w _ _ a n c n' c' Tryd.underlying27
  cases a with
  | none =>
    obtain rfl : n = 0 := by
      rcases Nat.eq_zero_or_pos n with h | h
      · exact h
      · obtain ⟨b, off, e, _⟩ := hR.2 h; cases e
    have hrs : rs = [] := List.length_eq_zero_iff.1 hR.rows_length
    subst hrs
    go_enter Tryd.func69, Tryd.ntmps69
    go_wp2_with fail
    go_ret
    exact ⟨none, 0, rfl, World.ownsRow_nil _ _ _ _, Below.refl _ _⟩
  | some x =>
    have hl := Lib.hid hR.rows_length
    have hcell : ∀ j u, (flat rs)[j]? = some u → w.cell? (x.add j) = some u := fun j u hu => by
      have hj := (List.getElem?_eq_some_iff.1 hu).1
      rw [flat_length, hl.out] at hj
      obtain ⟨b, off, e, _, hc⟩ := hR.2 (by omega)
      obtain rfl : x = ⟨b, off, none⟩ := by injection e
      rw [addr_add3]; exact hc j u hu
    have Hc := Lib.hid hcell
    clear hcell
    go_enter Tryd.func69, Tryd.ntmps69
    go_wp2_with (at_builtin; refine wpList_append_own _ rfl _ _ 27 rfl w.heap.size 68 i0 (.agg #[.string ⟨#[]⟩, .int .i64 0, .string ⟨#[]⟩]) 3 40 Tryd.underlying27 hi hz0 hz1 hz2 rfl (by decide) _ _ _ rfl (own_new w) x n cap (flat rs) rfl ?c0 ?c1 ?c2 ?c3 ?c4 ?c5 ?_)
    case c0 => rw [flat_length, hl.out]
    case c1 =>
      intro j u hj
      have := Hc.out j u hj
      rw [World.cell?_alloc_some _ _ _ (by rw [this]; rfl)]
      exact this
    case c2 => exact flat_one _
    case c3 => unfold maxLen; omega
    case c4 => omega
    case c5 => simp
    intro v' w2 hO2 hg2 _
    obtain ⟨a', cap', rfl⟩ := own_slice' hO2
    have hb2 : Below w.heap.size w w2 := ((Below.refl w.heap.size w).alloc (Nat.le_refl _) _).grown hg2 (by simp) (fun q e => by simp [Value.ownBlock] at e; omega)
    clear hg2
    go_wp2_with fail
    go_ret
    exact ⟨a', cap', rfl, hO2, hb2⟩
set_option maxRecDepth 100000 in
set_option maxHeartbeats 1000000 in
theorem sortedListOf_any (a : Option Addr) (n cap : Nat) (rs : List RowV) (w : World) (hm : n ≤ 1048576) (hR : Rd w w.heap.size 3 a n (flat rs)) :
    Calls Tryd.prog 59 #[.slice a n cap, .func (.func 60) #[] #[]] w fun e w' => ∃ b c, e = .returned (.agg #[.func (.func 60) #[] #[], .slice b n c]) ∧ w'.ownsRow w.heap.size 68 3 (.slice b n c) n (flat (sortL rs)) ∧ Below w.heap.size w w' := by
  have C := fun (w1 : World) (hb : Below w.heap.size w w1) => clone_any a n cap rs w1 hm ((hR.below hb (Nat.le_refl _)).more hb.size)
  go_enter Tryd.func59, Tryd.ntmps59
  go_wp2_with fail
  refine (C _ (bl1 _ _)).mono ?_
  have hX0 : (w.alloc (.cells #[.nilFunc, .slice none 0 0] 92)).ownsRow w.heap.size 92 2 (.slice (some ⟨w.heap.size, 0, none⟩) 1 1) 1 [.nilFunc, .slice none 0 0] := World.ownsRow_lit (base := w.heap.size) (size := 2) w #[.nilFunc, .slice none 0 0] 1 (Nat.le_refl _) (by decide) rfl
  have hb0 := bl1 w (.cells #[.nilFunc, .slice none 0 0] 92)
  have hs0 : w.heap.size < (w.alloc (.cells #[.nilFunc, .slice none 0 0] 92)).heap.size := by simp
  generalize w.alloc (.cells #[.nilFunc, .slice none 0 0] 92) = w0 at *
  rintro e w1 ⟨b, c, rfl, hO1, hb1⟩
  have hX1 := own_below hX0 hb1
  have hB1 := hb0.trans (hb1.mono hb0.size)
  clear hX0 hb1 C hb0
  go_wp2_with fail
  refine (sortStable_any b n c _ rs _ hm hO1).mono ?_
  rintro e w2 ⟨rfl, hO2, hg2⟩
  have hX2 : w2.ownsRow w.heap.size 92 2 (.slice (some ⟨w.heap.size, 0, none⟩) 1 1) 1 [.nilFunc, .slice none 0 0] := hX1.kept hg2 (by
    right
    intro he
    have := (own_ge hO1 w.heap.size he.symm).1
    omega)
  have hB2 := hB1.trans (gb_below hg2 hB1.size (fun g e => by have := (own_ge hO1 g e).1; omega))
  have e0 : w2.cell? ⟨w.heap.size, 0, none⟩ = some .nilFunc := hX2.cellAt 0 (by omega)
  have e1 : w2.cell? ⟨w.heap.size, 1, none⟩ = some (.slice none 0 0) := hX2.cellAt 1 (by omega)
  have f0 := hX2.frozenAt 0
  have f1 := hX2.frozenAt 1
  have hO3 : w2.ownsRow w.heap.size 68 3 (.slice b n c) n (flat (sortL rs)) := own_base' hO2 (Nat.le_of_lt hs0)
  have hO4 : ((w2.setCell ⟨w.heap.size, 0, none⟩ (.func (.func 60) #[] #[])).setCell ⟨w.heap.size, 1, none⟩ (.slice b n c)).ownsRow w.heap.size 68 3 (.slice b n c) n (flat (sortL rs)) := hO3.kept (gb_store (gb_store (World.grownBy.refl w2 (some w.heap.size)) 0 _) 1 _) (by
    cases hv : (Value.slice b n c).ownBlock with
    | none => exact .inl rfl
    | some g =>
      right
      intro he
      have h1 := (own_ge hO2 g hv).1
      have h2 : g = w.heap.size := by simpa using he
      omega)
  have hB4 : Below w.heap.size w ((w2.setCell ⟨w.heap.size, 0, none⟩ (.func (.func 60) #[] #[])).setCell ⟨w.heap.size, 1, none⟩ (.slice b n c)) := (hB2.setCell (p := ⟨w.heap.size, 0, none⟩) (Nat.le_refl _) _).setCell (p := ⟨w.heap.size, 1, none⟩) (Nat.le_refl _) _
  clear hg2 hO1 hO2 hX1 hX2 hB1 hO3
  go_wp2_with fail
  exact bodyPost_ret (v := .agg #[.func (.func 60) #[] #[], .slice b n c]) (by simp [results, Tryd.results59, go_sem, e0, e1]) rfl ⟨b, c, rfl, hO4, hB4⟩
theorem field_items (f v : Value) (w : World) : Sem.run Tryd.prog (Instr.field 92 (.agg #[f, v]) 1) w = .ok v w := by
  simp [Instr.field, go_sem, asAgg]
def sortedR (rs : List RowV) : List RowV := if rowsOk rs = true then sortL rs else []
/-- What Sorted returns: the rows, sorted, in new memory, or nothing. -/
def SortedOut (rs : List RowV) (w : World) (e : Ending) (w' : World) : Prop := ∃ a c, e = .returned (.tuple #[.slice a (sortedR rs).length c, .bool (rowsOk rs)]) ∧ Below w.heap.size w w' ∧ w'.ownsRow w.heap.size 68 3 (.slice a (sortedR rs).length c) (sortedR rs).length (flat (sortedR rs))
set_option maxRecDepth 100000 in
set_option maxHeartbeats 1000000 in
theorem implSorted_any (a : Option Addr) (n cap : Nat) (rs : List RowV) (w : World) (hm : n ≤ 1048576) (hok : ∀ r ∈ rs, r.Ok) (hR : Rd w w.heap.size 3 a n (flat rs)) :
    Calls Tryd.prog 32 #[.slice a n cap] w (SortedOut rs w) := by
  have C1 := implRowsOk_any a n cap rs w hm hok hR
  have hl := Lib.hid hR.rows_length
  have E := Lib.hid (show ∀ b, rowsOk rs = b → sortedR rs = if b = true then sortL rs else [] from fun b h => by unfold sortedR; rw [h])
  have F := Lib.hid (show rowsOk rs = rowsOk rs from rfl)
  unfold SortedOut
  go_enter Tryd.func32, Tryd.ntmps32
  generalize hp : rowsOk rs = p at *
  cases p
  · rw [E.out false rfl]
    clear E F hp
    go_wp2_with fail
    refine C1.mono ?_
    rintro e w1 ⟨rfl, hb1⟩
    go_wp2_with fail
    go_ret2
    exact ⟨none, 0, rfl, hb1, World.ownsRow_nil _ _ _ _⟩
  · rw [E.out true rfl, if_pos rfl, sortL_length, hl.out]
    clear E F hp
    go_wp2_with fail
    refine C1.mono ?_
    rintro e w1 ⟨rfl, hb1⟩
    have R1 := (hR.below hb1 (Nat.le_refl _)).more hb1.size
    go_wp2_with fail
    refine (sortedListOf_any a n cap rs _ hm R1).mono ?_
    rintro e w2 ⟨b, c, rfl, hO, hb2⟩
    have hO2 := own_base' hO hb1.size
    have hfd := field_items (.func (.func 60) #[] #[]) (.slice b n c)
    go_wp2_with fail
    go_ret2
    exact ⟨b, c, rfl, hb1.trans (hb2.mono hb1.size), hO2⟩
abbrev sortedS (rs : List RowV) : List RowV := sortedR rs
abbrev sortedB (rs : List RowV) : Bool := rowsOk rs
theorem sortedS_le (rs : List RowV) : (sortedS rs).length ≤ 1048576 := by
  show (sortedR rs).length ≤ 1048576
  unfold sortedR
  split
  · rename_i h
    rw [sortL_length]
    have h2 : rs.length ≤ 120 := by
      unfold rowsOk at h
      rw [Bool.and_eq_true] at h
      exact of_decide_eq_true h.1
    omega
  · simp
theorem SortedOut.own {rs : List RowV} {w w' : World} {e : Ending} (h : SortedOut rs w e w') : ∃ a c, e = .returned (.tuple #[.slice a (sortedS rs).length c, .bool (sortedB rs)]) ∧ Below w.heap.size w w' ∧ w'.ownsRow w.heap.size 68 3 (.slice a (sortedS rs).length c) (sortedS rs).length (flat (sortedS rs)) := h
end Go.Proofs.YtallcholbbfkdaaDoor
