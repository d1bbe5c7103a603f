/-
  How a code, the argument of a law, is opened: bytes that can be read. No conditions.
-/
import Derived.Test.YtjepmcepgoncnaaOpen
import Derived.Test.YtjepmcepgoncnaaDrawRows
import Derived.ChangeSlices
namespace Go.Proofs.Ytjepmcepgoncnaa
open Go.ChangeShapes Go.WideShapes Go.ChangeAt Go.RowKit Go.Joins Go.Deep
section
variable {H : Type} {enc : TypeId × Value → H} {W : World} {base : Nat}
theorem cellsByte : Try.prog.cellsOf 5 = 1 := by kernel_rfl
theorem u8_wf {z : Int} (h : (Lit.int .u8 z).wf = true) : ∃ x : Nat, x < 256 ∧ z = x := by
  have h1 : IntKind.u8.min ≤ z ∧ z ≤ IntKind.u8.max := by simpa [Lit.wf] using h
  have e0 : IntKind.u8.min = 0 := rfl
  have e1 : IntKind.u8.max = 255 := rfl
  rw [e0, e1] at h1
  exact ⟨z.toNat, by omega, by omega⟩
set_option maxRecDepth 100000 in
theorem open_Bytes {v : Value} {d : DataW H} {p : List MemPlace} (hv : Value.okWide Try.prog W .any base 31 v) (h : DataW.Trod enc Try.prog W 0 (fun _ => true) true 31 v d p) :
    ∃ a len cap xs, v = .slice a len cap ∧ IsCode W a len cap xs := by
  obtain ⟨a, len, cap, rfl⟩ := okWide_slice Try.underlying31 hv
  obtain ⟨fuel, hf⟩ := h
  rcases open_ints Try.underlying31 Try.underlying5 cellsByte hf with ⟨hcs, _⟩ | ⟨x, l, c, zs, hcs, _, hl, hm, hz, _, hcell, hws⟩
  · simp [Value.cells] at hcs
    obtain ⟨rfl, rfl, rfl⟩ := hcs
    exact ⟨none, 0, 0, [], rfl, Nat.le_refl _, Nat.zero_le _, ⟨by simp, fun h => absurd h (by omega)⟩, by simp⟩
  · simp [Value.cells] at hcs
    obtain ⟨rfl, rfl, rfl⟩ := hcs
    simp only [if_true] at hz
    refine ⟨_, _, _, (zs.take len).map fun z => .int .u8 z, rfl, hl, hm, ⟨by simp; omega, fun hn => ?_⟩, fun v hv => ?_⟩
    · have h0 := hcell 0 (by omega)
      have hsp : x.spot = none := by
        have := World.cell?_spot h0
        obtain ⟨b, o, s⟩ := x
        simpa [Addr.add] using this
      rw [addr_add x hsp] at h0
      refine ⟨x.block, x.off, ?_, lt_of_cell h0, fun j u hu => ?_⟩
      · obtain ⟨b, o, s⟩ := x
        simp only at hsp
        subst hsp
        rfl
      · have hj : j < len := by
          have := (List.getElem?_eq_some_iff.1 hu).1
          simp at this; omega
        have hc := hcell j (by omega)
        rw [addr_add x hsp] at hc
        rw [hc, ← hu]
        simp [hj, List.getD, List.getElem?_eq_getElem (show j < zs.length by omega)]
    · obtain ⟨z, hz', rfl⟩ := List.mem_map.1 hv
      obtain ⟨x, hx, rfl⟩ := u8_wf (hws z (List.mem_of_mem_take hz'))
      exact ⟨x, hx, rfl⟩
end
end Go.Proofs.Ytjepmcepgoncnaa
