/-
  laws.FnSorted returns true for every code. No conditions.
-/
import Derived.Test.YtgdbpckobngmjaaLowA
import Derived.Test.YtgdbpckobngmjaaAlike
import Derived.Test.YtgdbpckobngmjaaSortedList
import Derived.Test.YtgdbpckobngmjaaSortedOkFns
namespace Go.Proofs.Ytgdbpckobngmjaa
open Go.RowKit

theorem IsBy.keep' {w w' : World} {a : Option Addr} {n : Nat} (h : IsBy w w.heap.size a n) (hb : Below w.heap.size w w') : IsBy w' w'.heap.size a n := by
  obtain ⟨xs, h1, h2⟩ := h
  exact ⟨xs, (h1.below hb (Nat.le_refl _)).more hb.size, h2⟩
theorem sortL_ok {rs : List RowV} (h : ∀ r ∈ rs, r.Ok) : ∀ r ∈ sortL rs, r.Ok := fun r hr => h r ((sortL_perm' rs).mem_iff.1 hr)
theorem rowsOk_perm {a b : List RowV} (p : a.Perm b) : rowsOk a = rowsOk b := by
  unfold rowsOk
  rw [p.length_eq, p.all_eq]
set_option maxRecDepth 100000 in
theorem drawSortedOk_any (a : Option Addr) (len cap : Nat) (w : World) (hl : len ≤ 1048576) (h : IsBy w w.heap.size a len) :
    Calls Try.prog 94 #[.slice a len cap] w fun e w' => ∃ (l : List RowV) (b : Option Addr) (c : Nat), l.length ≤ 6 ∧ (∀ r ∈ l, r.Ok) ∧ e = .returned (.slice b l.length c) ∧ w'.ownsRow w.heap.size 68 3 (.slice b l.length c) l.length (flat l) ∧ Below w.heap.size w w' := by
  go_enter Try.func94, Try.ntmps94
  go_wp2_with fail
  refine (l1Open_any a len cap w hl h).mono ?_
  rintro e w1 ⟨rfl, hR1, hb1⟩
  go_wp2_with fail
  refine (rows_lit w.heap.size len 6 _ _ hR1 (by omega) (by omega) (by omega)).mono ?_
  rintro e w2 ⟨l, b, c, hll, hok, rfl, hO, hD⟩
  have hlt := hR1.lt
  go_wp2_with fail
  refine (once_lit w.heap.size len 2 _ _ hD.rdr (by omega) (by omega) (by omega)).mono ?_
  rintro e w3 ⟨q, rfl, hD3⟩
  have hO3 := hD3.own hO hlt
  have hb3 := below_drew hb1 (hD.trans hD3)
  cases q
  · have hO4 := own_base' hO3 hb1.size
    clear hO hO3
    go_wp2_with fail
    go_ret
    exact ⟨l, _, c, hll, hok, rfl, hO4, hb3⟩
  · go_wp2_with fail
    refine (l3Sort_any _ l.length c l _ (by omega) (Rd.of_own hO3)).mono ?_
    rintro e w4 ⟨b4, c4, rfl, hO4, hb4⟩
    have hO5 : w4.ownsRow w.heap.size 68 3 (.slice b4 (sortL l).length c4) (sortL l).length (flat (sortL l)) := by
      rw [sortL_length]; exact own_base' hO4 hb3.size
    have hb5 := hb3.trans (hb4.mono hb3.size)
    have E := Lib.hid (sortL_length l)
    clear hO hO3 hO4
    go_wp2_with fail
    go_ret
    rw [← E.out]
    exact ⟨sortL l, b4, c4, by rw [E.out]; exact hll, sortL_ok hok, rfl, hO5, hb5⟩
end Go.Proofs.Ytgdbpckobngmjaa
