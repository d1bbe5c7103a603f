/-
  spec.DrawKeyCode and DrawReadKeyCode by their contracts: some texts. Condition: a code of at most 1048576 bytes.
-/
import Derived.Test.YtgeepfoknhhcjaaDoorHurt
import Derived.Test.YtgeepfoknhhcjaaDoorKeyPieces
namespace Go.Proofs.YtgeepfoknhhcjaaDoor
open Go.RowKit

set_option maxRecDepth 100000 in
theorem drawKeyCode_any (a : Option Addr) (len cap : Nat) (w : World) (hl : len ≤ 1048576) (h : IsBy w w.heap.size a len) :
    Calls Tryd.prog 12 #[.slice a len cap] w fun e w' => ∃ s : ByteArray, s.size ≤ 13 ∧ e = .returned (.string s) ∧ Below w.heap.size w w' := by
  go_enter Tryd.func12, Tryd.ntmps12
  go_wp2_with fail
  refine (l1Open_any a len cap w hl h).mono ?_
  rintro e w1 ⟨rfl, hR1, hb1⟩
  go_wp2_with fail
  refine (bytes_lit _ len 13 _ _ hR1 (by omega) (by omega) (by omega)).mono ?_
  rintro e w2 ⟨s, hs, rfl, hD⟩
  have b9 := below_drew hb1 hD
  go_wp2_with fail
  go_ret
  exact ⟨s, hs, rfl, b9⟩
set_option maxRecDepth 100000 in
theorem drawReadKeyCode_any (a : Option Addr) (len cap : Nat) (w : World) (hl : len ≤ 1048576) (h : IsBy w w.heap.size a len) :
    Calls Tryd.prog 14 #[.slice a len cap] w fun e w' => ∃ s : ByteArray, s.size ≤ 100 ∧ e = .returned (.string s) ∧ Below w.heap.size w w' := by
  go_enter Tryd.func14, Tryd.ntmps14
  go_wp2_with fail
  refine (l1Open_any a len cap w hl h).mono ?_
  rintro e w1 ⟨rfl, hR1, hb1⟩
  go_wp2_with fail
  refine (bytes_lit _ len 6 _ _ hR1 (by omega) (by omega) (by omega)).mono ?_
  rintro e w2 ⟨s, hs, rfl, hD⟩
  go_wp2_with fail
  refine (specKeyCode_any s _ (by unfold maxLen; omega)).mono ?_
  rintro e w3 ⟨rfl, rfl⟩
  have hk := keyCode_bd s
  generalize keyCode s = c at *
  go_wp2_with fail
  refine (once_lit _ len 2 _ _ hD.rdr (by omega) (by omega) (by omega)).mono ?_
  rintro e w4 ⟨q, rfl, hD4⟩
  replace hD := hD.trans hD4
  clear hD4
  cases q
  · go_wp2_with fail
    refine (bytes_lit _ len 3 _ _ hD.rdr (by omega) (by omega) (by omega)).mono ?_
    rintro e w5 ⟨u, hu, rfl, hD5⟩
    have b9 := below_drew hb1 (hD.trans hD5)
    have hz : (c ++ u).size ≤ 100 := by rw [ByteArray.size_append]; omega
    go_wp2_with fail
    go_ret
    exact ⟨_, hz, rfl, b9⟩
  · go_wp2_with fail
    refine (hurt_any _ len c _ hD.rdr (by omega)).mono ?_
    rintro e w5 ⟨u, hu, rfl, hD5⟩
    have b9 := below_drew hb1 (hD.trans hD5)
    go_wp2_with fail
    go_ret
    exact ⟨u, by omega, rfl, b9⟩
end Go.Proofs.YtgeepfoknhhcjaaDoor
