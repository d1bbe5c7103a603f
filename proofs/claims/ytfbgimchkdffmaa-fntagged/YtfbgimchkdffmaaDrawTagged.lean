/-
  spec.DrawTagged by its contract: some rows and a number. Conditions: a code of at most 1048576 bytes.
-/
import Derived.Test.YtfbgimchkdffmaaDrawRows
namespace Go.Proofs.Ytfbgimchkdffmaa
open Go.RowKit
set_option maxRecDepth 100000 in
theorem drawTagged_any (a : Option Addr) (len cap : Nat) (w : World) (hl : len ≤ 1048576) (h : IsBy w w.heap.size a len) :
    Calls Try.prog 45 #[.slice a len cap] w fun e w' => ∃ (l : List RowV) (t : Int) (b c : Nat), l.length ≤ 9 ∧ (∀ r ∈ l, r.Ok) ∧ (Lit.int .i64 t).wf = true ∧ e = .returned (.tuple #[.slice (some ⟨b, 0, none⟩) l.length c, .int .i64 t]) ∧ w'.ownsRow w.heap.size 61 3 (.slice (some ⟨b, 0, none⟩) l.length c) l.length (flat l) ∧ Below w.heap.size w w' := by
  go_enter Try.func45, Try.ntmps45
  go_wp2_with fail
  refine (l1Open_any a len cap w hl h).mono ?_
  rintro e w1 ⟨rfl, hR1, hb1⟩
  go_wp2_with fail
  refine (rows_lit w.heap.size len 9 _ _ hR1 (by omega) (by omega) (by omega)).mono ?_
  rintro e w2 ⟨l, b, c, hll, hok, rfl, hO, hD⟩
  have hlt := hR1.lt
  go_wp2_with fail
  refine (off_any w.heap.size len 0 3 _ hD.rdr (by omega) (by omega) (by omega)).mono ?_
  rintro e w3 ⟨z, hz0, hz1, rfl, hD3⟩
  have hO3 := hD3.own hO hlt
  have hb3 := below_drew hb1 (hD.trans hD3)
  have hO4 := own_base' hO3 hb1.size
  have hwf := Lib.hid (int_wf hz0 hz1)
  clear hO hO3
  go_wp2_with fail
  go_ret2
  exact ⟨l, z, b, c, hll, hok, hwf.out, rfl, hO4, hb3⟩
end Go.Proofs.Ytfbgimchkdffmaa
