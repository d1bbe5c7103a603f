/-
  spec.DrawRowBytes by its contract: some row. Condition: a code of at most 1048576 bytes.
-/
import Derived.Test.YtgeepfoknhhcjaaDoorRowVar
namespace Go.Proofs.YtgeepfoknhhcjaaDoor
open Go.RowKit

set_option maxRecDepth 100000 in
theorem drawRowBytes_any (a : Option Addr) (len cap : Nat) (w : World) (hl : len ≤ 1048576) (h : IsBy w w.heap.size a len) :
    Calls Tryd.prog 19 #[.slice a len cap] w fun e w' => ∃ r : RowV, (r.Ok ∧ r.key.size ≤ 14 ∧ r.val.size ≤ 14) ∧ e = .returned (.agg #[.string r.key, .int .i64 r.tag, .string r.val]) ∧ Below w.heap.size w w' := by
  have hb0 := bl1 w (.cells #[.string ⟨#[]⟩, .int .i64 0, .string ⟨#[]⟩] 29)
  have V := Vb.new w noRow 29
  have h' := h.far hb0
  go_enter Tryd.func19, Tryd.ntmps19
  go_wp2_with fail
  simp only [noRow] at V
  generalize w.alloc (.cells #[.string ⟨#[]⟩, .int .i64 0, .string ⟨#[]⟩] 29) = w0 at *
  have hg := V.lt
  refine (drawRowOk_any a len cap w0 hl h').mono ?_
  rintro e w1 ⟨r, hr, rfl, hb1⟩
  replace V := V.keep hb1
  have ⟨y0, y1, y2⟩ := V.cells
  have ⟨f0, f1, f2⟩ := V.frozen
  have hld := (V.put r).load
  have b4 := hb0.trans (hb1.mono (Nat.le_of_lt hg))
  have b5 := ((b4.setCell (p := ⟨w.heap.size, 0, none⟩) (Nat.le_refl _) (.string r.key)).setCell (p := ⟨w.heap.size, 1, none⟩) (Nat.le_refl _) (.int .i64 r.tag)).setCell (p := ⟨w.heap.size, 2, none⟩) (Nat.le_refl _) (.string r.val)
  simp only at y0 y1 y2
  clear V
  go_wp2_with fail
  refine bodyPost_ret (v := .agg #[.string r.key, .int .i64 r.tag, .string r.val]) ?_ rfl ⟨r, hr, rfl, b5⟩
  simp [results, Tryd.results19, asAddr, hld]
end Go.Proofs.YtgeepfoknhhcjaaDoor
