/-
  How a slice of laws.Total is opened: as plain values with the cells that hold them. Conditions: those of each statement.
-/
import Derived.Test.YtnmlnenepceabaaTotMem
namespace Go.Proofs.Ytnmlnenepceabaa
open Go.ChangeShapes Go.WideShapes Go.ChangeAt Go.RowKit Go.Joins Go.Deep
section
variable {H : Type} {enc : TypeId × Value → H} {W : World} {base : Nat}
theorem cellsTotal : Try.prog.cellsOf 120 = 2 := by kernel_rfl
variable (W)
set_option maxRecDepth 100000 in
theorem open_Tots_at {t e : TypeId} {f0 f1 : Field} {v : Value} {d : DataW H} {p : List MemPlace} {fuel : Nat} (ht : Try.prog.underlying t = some (.slice e)) (he : Try.prog.underlying e = some (.struct #[f0, f1])) (hone : oneCellFields Try.prog #[f0, f1] = true)
    (hC : Try.prog.cellsOf e = 2) (t0 : Try.prog.underlying f0.type = some .string) (t1 : Try.prog.underlying f1.type = some (.int .i64))
    (hf : DataW.trod enc Try.prog W 0 (fun _ => true) true fuel t [v] = some (d, p)) :
    ∃ a len cap rs, v = .slice a len cap ∧ IsTots W a len cap rs := by
  rcases open_slice ht hf with ⟨hcs, _⟩ | ⟨x, len, c, m, n, D, Pl, hcs, _, hl, hm, hmm, _, hi⟩
  · simp at hcs
    subst hcs
    exact ⟨none, 0, 0, [], rfl, Nat.le_refl _, Nat.zero_le _, by simp, by simp [flatT], fun h => absurd h (by omega)⟩
  · simp at hcs
    subst hcs
    simp only [if_true] at hmm
    subst hmm
    rw [hC] at hi
    have key : ∀ i, i < len → ∃ r : TotV, r.Ok ∧ W.cell? (x.add (i * 2) |>.add 0) = some (.string r.key) ∧ W.cell? (x.add (i * 2) |>.add 1) = some (.int .i64 r.n) := by
      intro i hil
      obtain ⟨cs', hc, ht'⟩ := hi i (by omega)
      obtain ⟨ys, n', hn', hy, hlen, hyl, hf'⟩ := DataW.trod_struct he ht'
      obtain ⟨_, hcl, hat⟩ := World.cells?_some hc
      obtain ⟨o0, q0⟩ := hone_of hone 0 f0 rfl
      obtain ⟨o1, q1⟩ := hone_of hone 1 f1 rfl
      have l3 : cs'.length = 2 := hcl
      obtain ⟨c0, c1, rfl⟩ : ∃ c0 c1, cs' = [c0, c1] := by
        match cs', l3 with
        | [c0, c1], _ => exact ⟨c0, c1, rfl⟩
      have g0 := hf' 0 f0 rfl
      have g1 := hf' 1 f1 rfl
      simp only [o0, q0, o1, q1, List.drop_zero, List.drop_succ_cons, List.take_succ_cons, List.take_zero] at g0 g1
      have y3 : ys.length = 2 := hyl
      rw [List.getElem?_eq_getElem (show 0 < ys.length by omega)] at g0
      rw [List.getElem?_eq_getElem (show 1 < ys.length by omega)] at g1
      obtain ⟨k, e0, _, hk⟩ := DataW.trod_string t0 g0
      obtain ⟨tt, e1, _, htt⟩ := DataW.trod_int t1 g1
      simp only [List.cons.injEq, and_true] at e0 e1
      subst e0 e1
      exact ⟨⟨k, tt⟩, ⟨hk, htt⟩, hat 0 (by omega), hat 1 (by omega)⟩
    have lists : ∀ q, q ≤ len → ∃ rs : List TotV, rs.length = q ∧ (∀ r ∈ rs, r.Ok) ∧ ∀ j u, (flatT rs)[j]? = some u → W.cell? (x.add (j / 2 * 2) |>.add (j % 2)) = some u := by
      intro q
      induction q with
      | zero => intro _; exact ⟨[], rfl, by simp, fun j u hu => by simp [flatT] at hu⟩
      | succ q ih =>
        intro hq
        obtain ⟨rs, hrl, hok, hcell⟩ := ih (by omega)
        obtain ⟨r, hr, k0, k1⟩ := key q (by omega)
        refine ⟨rs ++ [r], by simp [hrl], fun y hy => by
          rcases List.mem_append.1 hy with h1 | h1
          · exact hok y h1
          · rw [List.mem_singleton.1 h1]; exact hr, fun j u hu => ?_⟩
        rw [flatT_append] at hu
        rcases Nat.lt_or_ge j (flatT rs).length with hj | hj
        · rw [List.getElem?_append_left hj] at hu
          exact hcell j u hu
        · rw [List.getElem?_append_right hj, flatT_length, hrl] at hu
          rw [flatT_length, hrl] at hj
          have hj3 : j - q * 2 < 2 := by
            have := (List.getElem?_eq_some_iff.1 hu).1
            simpa [flatT, TotV.cells] using this
          have hd : j / 2 = q := by omega
          rw [hd]
          rcases (show j - q * 2 = 0 ∨ j - q * 2 = 1 by omega) with h3 | h3
          · rw [h3] at hu
            rw [show j % 2 = 0 by omega, k0]
            simpa [flatT, TotV.cells] using hu
          · rw [h3] at hu
            rw [show j % 2 = 1 by omega, k1]
            simpa [flatT, TotV.cells] using hu
    obtain ⟨rs, hrl, hok, hcell⟩ := lists len (Nat.le_refl _)
    refine ⟨_, _, _, rs, rfl, hl, hm, hok, by rw [flatT_length, hrl], fun hn => ?_⟩
    obtain ⟨r, _, k0, _⟩ := key 0 hn
    have hsp : x.spot = none := by
      have := World.cell?_spot k0
      obtain ⟨b, o, s⟩ := x
      simpa [Addr.add] using this
    have add2 : ∀ i j, (x.add i).add j = ⟨x.block, x.off + (i + j), none⟩ := by
      intro i j
      rw [addr_add x hsp, addr_add _ rfl, Nat.add_assoc]
    rw [add2] at k0
    refine ⟨x.block, x.off, ?_, lt_of_cell k0, fun j u hu => ?_⟩
    · obtain ⟨b, o, s⟩ := x
      simp only at hsp
      subst hsp
      rfl
    · have hc := hcell j u hu
      rw [add2, show j / 2 * 2 + j % 2 = j by omega] at hc
      exact hc
set_option maxRecDepth 100000 in
theorem open_Tots_of {t e : TypeId} {f0 f1 : Field} {v : Value} {d : DataW H} {p : List MemPlace} (ht : Try.prog.underlying t = some (.slice e)) (he : Try.prog.underlying e = some (.struct #[f0, f1])) (hone : oneCellFields Try.prog #[f0, f1] = true)
    (hC : Try.prog.cellsOf e = 2) (t0 : Try.prog.underlying f0.type = some .string) (t1 : Try.prog.underlying f1.type = some (.int .i64))
    (hv : Value.okWide Try.prog W .any base t v) (h : DataW.Trod enc Try.prog W 0 (fun _ => true) true t v d p) :
    ∃ a len cap rs, v = .slice a len cap ∧ IsTots W a len cap rs := by
  obtain ⟨a, len, cap, rfl⟩ := okWide_slice ht hv
  obtain ⟨fuel, hf⟩ := h
  exact open_Tots_at W ht he hone hC t0 t1 hf
variable {W}
set_option maxRecDepth 100000 in
theorem open_Tots {v : Value} {d : DataW H} {p : List MemPlace} (hv : Value.okWide Try.prog W .any base 66 v) (h : DataW.Trod enc Try.prog W 0 (fun _ => true) true 66 v d p) :
    ∃ a len cap rs, v = .slice a len cap ∧ IsTots W a len cap rs :=
  open_Tots_of W Try.underlying66 Try.underlying120 (by kernel_rfl) cellsTotal Try.underlying9 Try.underlying2 hv h
end
end Go.Proofs.Ytnmlnenepceabaa
