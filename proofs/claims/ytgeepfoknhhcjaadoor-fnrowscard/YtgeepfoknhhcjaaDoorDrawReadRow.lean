/-
  spec.DrawReadRow by its contract: some text. Conditions: a code of at most 1048576 bytes; the variable internal/bytealg.MaxLen holds some int.
-/
import Derived.Test.YtgeepfoknhhcjaaDoorHurt
import Derived.Test.YtgeepfoknhhcjaaDoorRowLong
namespace Go.Proofs.YtgeepfoknhhcjaaDoor
open Go.RowKit

theorem Drew.cell0 {w w' : World} {g n : Nat} {u : Value} (h : Drew w w' g n) (hm : w.cell? ⟨0, 0, none⟩ = some u) (hg : 0 < g) : w'.cell? ⟨0, 0, none⟩ = some u :=
  (World.cell?_of_block (a := ⟨0, 0, none⟩) (h.2.block 0 (World.block_lt_of_cell? w _ hm) (by intro e; injection e with e; omega))).trans hm
set_option maxRecDepth 100000 in
theorem drawReadRow_any (a : Option Addr) (len cap : Nat) (w : World) (hl : len ≤ 1048576) (h : IsBy w w.heap.size a len) (m : Int) (hm : w.cell? ⟨0, 0, none⟩ = some (.int .i64 m)) :
    Calls Tryd.prog 22 #[.slice a len cap] w fun e w' => ∃ s : ByteArray, s.size ≤ 200 ∧ e = .returned (.string s) ∧ Below w.heap.size w w' := by
  have hg0 := World.block_lt_of_cell? w _ hm
  go_enter Tryd.func22, Tryd.ntmps22
  go_wp2_with fail
  refine (l1Open_any a len cap w hl h).mono ?_
  rintro e w1 ⟨rfl, hR1, hb1⟩
  replace hm := hold_max hm hb1
  go_wp2_with fail
  refine (row_small _ len _ hR1).mono ?_
  rintro e w2 ⟨r, hr, rfl, hD⟩
  replace hm := hD.cell0 hm (by omega)
  go_wp2_with fail
  refine (specRowBytes_any r.key r.val r.tag m _ hr.1.1 hr.1.2.2 hm).mono ?_
  rintro e w3 ⟨rfl, hb3⟩
  replace hD := hD.and hb3
  have hk := rowBytes_bd r.key r.tag r.val
  clear hb3
  generalize rowBytes r.key r.tag r.val = c at *
  go_wp2_with fail
  refine (once_lit _ len 2 _ _ hD.rdr (by omega) (by omega) (by omega)).mono ?_
  rintro e w4 ⟨q, rfl, hD4⟩
  replace hD := hD.trans hD4
  clear hD4
  cases q
  · go_wp2_with fail
    refine (bytes_lit _ len 3 _ _ hD.rdr (by omega) (by omega) (by omega)).mono ?_
    rintro e w5 ⟨u, hu, rfl, hD5⟩
    have b9 := below_drew hb1 (hD.trans hD5)
    have hz : (c ++ u).size ≤ 200 := by rw [ByteArray.size_append]; omega
    go_wp2_with fail
    go_ret
    exact ⟨_, hz, rfl, b9⟩
  · go_wp2_with fail
    refine (hurt_any _ len c _ hD.rdr (by omega)).mono ?_
    rintro e w5 ⟨u, hu, rfl, hD5⟩
    have b9 := below_drew hb1 (hD.trans hD5)
    go_wp2_with fail
    go_ret
    exact ⟨u, by omega, rfl, b9⟩
end Go.Proofs.YtgeepfoknhhcjaaDoor
