/-
  How the arguments of the laws are opened: a laws.Row by value, a slice of them, a slice of strings, each as plain values with the cells that hold it. Conditions: those of each statement.
-/
import Derived.Test.YtallcholbbfkdaaDoorPlain
import Derived.ProofKit
import Derived.OpenShut
import Derived.ShutString
import Derived.ChangeOld
import Derived.Below
import Derived.Lib.SmallJoins
import Derived.SliceStrings
import Derived.Deep.Slices
import Derived.Deep.Fields
namespace Go.Proofs.YtallcholbbfkdaaDoor
open Go.ChangeShapes Go.WideShapes Go.ChangeAt Go.RowKit Go.Joins Go.Deep

theorem own : ownKnob Tryd.prog.godebug = none := by kernel_rfl
theorem laidOut : laidOutB Tryd.prog = true := by kernel_rfl
theorem cellsStr : Tryd.prog.cellsOf 9 = 1 := by kernel_rfl
section
variable {H : Type} {enc : TypeId × Value → H} {W : World} {base : Nat}
theorem addr_add (a : Addr) (h : a.spot = none) (j : Nat) : a.add j = ⟨a.block, a.off + j, none⟩ := by
  obtain ⟨b, o, s⟩ := a
  simp only at h
  subst h
  unfold Addr.add
  split
  · rename_i h0
    subst h0
    rfl
  · rfl
theorem lt_of_cell {w : World} {b o : Nat} {v : Value} (h : w.cell? ⟨b, o, none⟩ = some v) : b < w.heap.size := by
  rcases Nat.lt_or_ge b w.heap.size with h' | h'
  · exact h'
  · simp [World.cell?, Array.getElem?_eq_none h'] at h
set_option maxRecDepth 100000 in
theorem open_Strs {v : Value} {d : DataW H} {p : List MemPlace} (hv : Value.okWide Tryd.prog W .any base 151 v) (h : DataW.Trod enc Tryd.prog W 0 (fun _ => true) true 151 v d p) :
    ∃ a len cap ss, v = .slice a len cap ∧ IsStrs W a len cap ss := by
  obtain ⟨a, len, cap, rfl⟩ := okWide_slice Tryd.underlying151 hv
  obtain ⟨fuel, hf⟩ := h
  rcases open_strings Tryd.underlying151 Tryd.underlying9 cellsStr hf with ⟨hcs, _⟩ | ⟨x, l, c, ss, hcs, _, hl, hm, hz, _, hcell, hws⟩
  · simp [Value.cells] at hcs
    obtain ⟨rfl, rfl, rfl⟩ := hcs
    exact ⟨none, 0, 0, [], rfl, Nat.le_refl _, Nat.zero_le _, by simp, by simp [strC], fun h => absurd h (by omega)⟩
  · simp [Value.cells] at hcs
    obtain ⟨rfl, rfl, rfl⟩ := hcs
    simp only [if_true] at hz
    refine ⟨_, _, _, ss.take len, rfl, hl, hm, fun s hs => hws s (List.mem_of_mem_take hs), by simp [strC]; omega, fun hn => ?_⟩
    have h0 := hcell 0 (by omega)
    have hsp : x.spot = none := by
      have := World.cell?_spot h0
      obtain ⟨b, o, s⟩ := x
      simpa [Addr.add] using this
    rw [addr_add x hsp] at h0
    refine ⟨x.block, x.off, ?_, lt_of_cell h0, fun j u hu => ?_⟩
    · obtain ⟨b, o, s⟩ := x
      simp only at hsp
      subst hsp
      rfl
    · have hj : j < len := by
        have := (List.getElem?_eq_some_iff.1 hu).1
        simp [strC] at this; omega
      have hc := hcell j (by omega)
      rw [addr_add x hsp] at hc
      rw [hc, ← hu]
      simp [strC, hj, List.getD, List.getElem?_eq_getElem (show j < ss.length by omega)]
variable (W)
set_option maxRecDepth 100000 in
theorem open_Rows_of {t e : TypeId} {f0 f1 f2 : Field} {v : Value} {d : DataW H} {p : List MemPlace} (ht : Tryd.prog.underlying t = some (.slice e)) (he : Tryd.prog.underlying e = some (.struct #[f0, f1, f2])) (hone : oneCellFields Tryd.prog #[f0, f1, f2] = true)
    (hC : Tryd.prog.cellsOf e = 3) (t0 : Tryd.prog.underlying f0.type = some .string) (t1 : Tryd.prog.underlying f1.type = some (.int .i64)) (t2 : Tryd.prog.underlying f2.type = some .string)
    (hv : Value.okWide Tryd.prog W .any base t v) (h : DataW.Trod enc Tryd.prog W 0 (fun _ => true) true t v d p) :
    ∃ a len cap rs, v = .slice a len cap ∧ IsRows W a len cap rs := by
  obtain ⟨a, len, cap, rfl⟩ := okWide_slice ht hv
  obtain ⟨fuel, hf⟩ := h
  rcases open_slice ht hf with ⟨hcs, _⟩ | ⟨x, l, c, m, n, D, Pl, hcs, _, hl, hm, hmm, _, hi⟩
  · simp [Value.cells] at hcs
    obtain ⟨rfl, rfl, rfl⟩ := hcs
    exact ⟨none, 0, 0, [], rfl, Nat.le_refl _, Nat.zero_le _, by simp, by simp [flat], fun h => absurd h (by omega)⟩
  · simp [Value.cells] at hcs
    obtain ⟨rfl, rfl, rfl⟩ := hcs
    simp only [if_true] at hmm
    subst hmm
    rw [hC] at hi
    have key : ∀ i, i < len → ∃ r : RowV, r.Ok ∧ W.cell? (x.add (i * 3) |>.add 0) = some (.string r.key) ∧ W.cell? (x.add (i * 3) |>.add 1) = some (.int .i64 r.tag) ∧ W.cell? (x.add (i * 3) |>.add 2) = some (.string r.val) := by
      intro i hil
      obtain ⟨cs', hc, ht'⟩ := hi i (by omega)
      obtain ⟨ys, n', hn', hy, hlen, hyl, hf'⟩ := DataW.trod_struct he ht'
      obtain ⟨_, hcl, hat⟩ := World.cells?_some hc
      obtain ⟨o0, q0⟩ := hone_of hone 0 f0 rfl
      obtain ⟨o1, q1⟩ := hone_of hone 1 f1 rfl
      obtain ⟨o2, q2⟩ := hone_of hone 2 f2 rfl
      have l3 : cs'.length = 3 := hcl
      obtain ⟨c0, c1, c2, rfl⟩ : ∃ c0 c1 c2, cs' = [c0, c1, c2] := by
        match cs', l3 with
        | [c0, c1, c2], _ => exact ⟨c0, c1, c2, rfl⟩
      have g0 := hf' 0 f0 rfl
      have g1 := hf' 1 f1 rfl
      have g2 := hf' 2 f2 rfl
      simp only [o0, q0, o1, q1, o2, q2, List.drop_zero, List.drop_succ_cons, List.take_succ_cons, List.take_zero] at g0 g1 g2
      have y3 : ys.length = 3 := hyl
      rw [List.getElem?_eq_getElem (show 0 < ys.length by omega)] at g0
      rw [List.getElem?_eq_getElem (show 1 < ys.length by omega)] at g1
      rw [List.getElem?_eq_getElem (show 2 < ys.length by omega)] at g2
      obtain ⟨k, e0, _, hk⟩ := DataW.trod_string t0 g0
      obtain ⟨tt, e1, _, htt⟩ := DataW.trod_int t1 g1
      obtain ⟨u, e2, _, hu⟩ := DataW.trod_string t2 g2
      simp only [List.cons.injEq, and_true] at e0 e1 e2
      subst e0 e1 e2
      exact ⟨⟨k, tt, u⟩, ⟨hk, htt, hu⟩, hat 0 (by omega), hat 1 (by omega), hat 2 (by omega)⟩
    have lists : ∀ q, q ≤ len → ∃ rs : List RowV, rs.length = q ∧ (∀ r ∈ rs, r.Ok) ∧ ∀ j u, (flat rs)[j]? = some u → W.cell? (x.add (j / 3 * 3) |>.add (j % 3)) = some u := by
      intro q
      induction q with
      | zero => intro _; exact ⟨[], rfl, by simp, fun j u hu => by simp [flat] at hu⟩
      | succ q ih =>
        intro hq
        obtain ⟨rs, hrl, hok, hcell⟩ := ih (by omega)
        obtain ⟨r, hr, k0, k1, k2⟩ := key q (by omega)
        refine ⟨rs ++ [r], by simp [hrl], fun y hy => by
          rcases List.mem_append.1 hy with h1 | h1
          · exact hok y h1
          · rw [List.mem_singleton.1 h1]; exact hr, fun j u hu => ?_⟩
        rw [flat_append] at hu
        rcases Nat.lt_or_ge j (flat rs).length with hj | hj
        · rw [List.getElem?_append_left hj] at hu
          exact hcell j u hu
        · rw [List.getElem?_append_right hj, flat_length, hrl] at hu
          rw [flat_length, hrl] at hj
          have hj3 : j - q * 3 < 3 := by
            have := (List.getElem?_eq_some_iff.1 hu).1
            simpa [flat, RowV.cells] using this
          have hd : j / 3 = q := by omega
          rw [hd]
          rcases (show j - q * 3 = 0 ∨ j - q * 3 = 1 ∨ j - q * 3 = 2 by omega) with h3 | h3 | h3
          · rw [h3] at hu
            rw [show j % 3 = 0 by omega, k0]
            simpa [flat, RowV.cells] using hu
          · rw [h3] at hu
            rw [show j % 3 = 1 by omega, k1]
            simpa [flat, RowV.cells] using hu
          · rw [h3] at hu
            rw [show j % 3 = 2 by omega, k2]
            simpa [flat, RowV.cells] using hu
    obtain ⟨rs, hrl, hok, hcell⟩ := lists len (Nat.le_refl _)
    refine ⟨_, _, _, rs, rfl, hl, hm, hok, by rw [flat_length, hrl], fun hn => ?_⟩
    obtain ⟨r, _, k0, _, _⟩ := key 0 hn
    have hsp : x.spot = none := by
      have := World.cell?_spot k0
      obtain ⟨b, o, s⟩ := x
      simpa [Addr.add] using this
    have add2 : ∀ i j, (x.add i).add j = ⟨x.block, x.off + (i + j), none⟩ := by
      intro i j
      rw [addr_add x hsp, addr_add _ rfl, Nat.add_assoc]
    rw [add2] at k0
    refine ⟨x.block, x.off, ?_, lt_of_cell k0, fun j u hu => ?_⟩
    · obtain ⟨b, o, s⟩ := x
      simp only at hsp
      subst hsp
      rfl
    · have hc := hcell j u hu
      rw [add2, show j / 3 * 3 + j % 3 = j by omega] at hc
      exact hc
variable {W}
theorem cellsRow : Tryd.prog.cellsOf 65 = 3 := by kernel_rfl
set_option maxRecDepth 100000 in
theorem open_Row {v : Value} {d : DataW H} {p : List MemPlace} (hv : Value.okWide Tryd.prog W .any base 65 v) (h : DataW.Trod enc Tryd.prog W 0 (fun _ => true) true 65 v d p) :
    ∃ r : RowV, v = .agg #[.string r.key, .int .i64 r.tag, .string r.val] ∧ r.Ok := by
  obtain ⟨v0, v1, v2, y0, y1, y2, n, rfl, _, _, t0, t1, t2⟩ := open_agg3 Tryd.underlying65 (by kernel_rfl) cellsRow hv h
  obtain ⟨k, e0, _, hk⟩ := DataW.trod_string Tryd.underlying9 t0
  obtain ⟨t, e1, _, ht⟩ := DataW.trod_int Tryd.underlying2 t1
  obtain ⟨u, e2, _, hu⟩ := DataW.trod_string Tryd.underlying9 t2
  simp only [List.cons.injEq, and_true] at e0 e1 e2
  subst e0 e1 e2
  exact ⟨⟨k, t, u⟩, rfl, hk, ht, hu⟩
set_option maxRecDepth 100000 in
theorem open_Rows {v : Value} {d : DataW H} {p : List MemPlace} (hv : Value.okWide Tryd.prog W .any base 22 v) (h : DataW.Trod enc Tryd.prog W 0 (fun _ => true) true 22 v d p) :
    ∃ a len cap rs, v = .slice a len cap ∧ IsRows W a len cap rs :=
  open_Rows_of W Tryd.underlying22 Tryd.underlying65 (by kernel_rfl) cellsRow Tryd.underlying9 Tryd.underlying2 Tryd.underlying9 hv h
end
end Go.Proofs.YtallcholbbfkdaaDoor
