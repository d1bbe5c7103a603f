/-
  slices.swapRangeCmpFunc at rows by its contract: two ranges of one length are exchanged. Condition: at most 1048576 rows.
-/
import Derived.Test.YtallcholbbfkdaaDoorSwapMath
import Derived.BigRegion
namespace Go.Proofs.YtallcholbbfkdaaDoor
open Go.RowKit

/-- A slice at the head of block g that owns its memory and holds the rows d. -/
def Holds (w : World) (base g cap N : Nat) (d : List RowV) : Prop := w.ownsRow base 68 3 (.slice (some ⟨g, 0, none⟩) N cap) N (flat d)
theorem Holds.len {w : World} {base g cap N : Nat} {d : List RowV} (h : Holds w base g cap N d) : d.length = N := by
  have := h.1
  rw [flat_length] at this
  omega
theorem Holds.cells {w : World} {base g cap N k : Nat} {d : List RowV} {r : RowV} (h : Holds w base g cap N d) (hr : d[k]? = some r) :
    w.cell? ⟨g, k * 3, none⟩ = some (.string r.key) ∧ w.cell? ⟨g, k * 3 + 1, none⟩ = some (.int .i64 r.tag) ∧ w.cell? ⟨g, k * 3 + 2, none⟩ = some (.string r.val) := by
  have hk := (List.getElem?_eq_some_iff.1 hr).1
  have hl := h.len
  have g3 := flat_get d k r hr
  refine ⟨?_, ?_, ?_⟩
  · rw [h.cellAt _ (by omega)]; exact g3.1
  · rw [h.cellAt _ (by omega)]; exact g3.2.1
  · rw [h.cellAt _ (by omega)]; exact g3.2.2
theorem Holds.put {w : World} {base g cap N k : Nat} {d : List RowV} (h : Holds w base g cap N d) (hk : k < N) (r : RowV) :
    Holds (((w.setCell ⟨g, k * 3, none⟩ (.string r.key)).setCell ⟨g, k * 3 + 1, none⟩ (.int .i64 r.tag)).setCell ⟨g, k * 3 + 2, none⟩ (.string r.val)) base g cap N (d.set k r) := by
  unfold Holds
  rw [← flat_put r (by rw [h.len]; exact hk)]
  exact own_store3 h _ _ _
theorem Holds.below {w w' : World} {base g cap N : Nat} {d : List RowV} (h : Holds w base g cap N d) (hb : Below w.heap.size w w') : Holds w' base g cap N d := own_below h hb
theorem gb_put {w w' : World} {g k : Nat} (h : w.grownBy w' (some g)) (a b c : Value) : w.grownBy (((w'.setCell ⟨g, k * 3, none⟩ a).setCell ⟨g, k * 3 + 1, none⟩ b).setCell ⟨g, k * 3 + 2, none⟩ c) (some g) := gb_store (gb_store (gb_store h _ _) _ _) _ _
theorem gb_drew {w w' : World} {row : Option Nat} (h : w.grownBy w' row) : w.grownBy w'.drew row := gb_trans h (gb_of_below (Below.refl _ _).drew row)
theorem Holds.drew {w : World} {base g cap N : Nat} {d : List RowV} (h : Holds w base g cap N d) : Holds w.drew base g cap N d := h.below (Below.refl _ _).drew
set_option maxRecDepth 100000 in
set_option maxHeartbeats 2000000 in
theorem swapRange_any (g cap N a b n base : Nat) (P X M Y S : List RowV) (cf : Value) (w : World) (hN : N ≤ 1048576) (hX : X.length = n) (hY : Y.length = n) (ha : P.length = a) (hb : a + n + M.length = b) (hO : Holds w base g cap N (P ++ X ++ (M ++ (Y ++ S)))) :
    Calls Tryd.prog 134 #[.slice (some ⟨g, 0, none⟩) N cap, .int .i64 a, .int .i64 b, .int .i64 n, cf] w fun e w' => e = .returned (.tuple #[]) ∧ Holds w' base g cap N (P ++ Y ++ (M ++ (X ++ S))) ∧ w.grownBy w' (some g) := by
  have hlen : b + n ≤ N := by have := hO.len; simp at this; omega
  have E := Lib.hid (swapped_all (P := P) (M := M) (S := S) hX hY)
  have HX := Lib.hid hX
  have HY := Lib.hid hY
  have Ha := Lib.hid ha
  have Hb := Lib.hid hb
  have hbn : n ≤ b := by omega
  rw [← swapped_zero] at hO
  clear hX hY ha hb
  go_enter Tryd.func134, Tryd.ntmps134
  go_wp2
  go_loopw [10] (fun i wr => ∃ k : Nat, i = .int .i64 k ∧ k ≤ n ∧ Holds wr base g cap N (swapped P X M Y S k) ∧ w.grownBy wr (some g)) (fun i _ => n - (intOf i).toNat)
  case atStart => exact ⟨0, rfl, Nat.zero_le _, hO, World.grownBy.refl _ _⟩
  case round =>
    obtain ⟨k, rfl, hk, hH, hg⟩ := hrel
    clear hO
    by_cases hlt : k < n
    · obtain ⟨x, hx⟩ : ∃ x, X[k]? = some x := ⟨_, List.getElem?_eq_getElem (by rw [HX.out]; exact hlt)⟩
      obtain ⟨y, hy⟩ : ∃ y, Y[k]? = some y := ⟨_, List.getElem?_eq_getElem (by rw [HY.out]; exact hlt)⟩
      obtain ⟨s1, s2, s3⟩ := swapped_step (S := S) HX.out HY.out Ha.out Hb.out hlt hx hy
      clear hx hy
      obtain ⟨p, hp1, hp2, Hp⟩ : ∃ p : Nat, p < N ∧ IntKind.i64.wrap ((a : Int) + (k : Int)) = (p : Int) ∧ Hid (a + k = p) := ⟨a + k, by have := Hb.out; omega, by rw [IntWalk.i64_in _ (by have := Hb.out; omega)]; omega, Lib.hid rfl⟩
      obtain ⟨q, hq1, hq2, Hq⟩ : ∃ q : Nat, q < N ∧ IntKind.i64.wrap ((b : Int) + (k : Int)) = (q : Int) ∧ Hid (b + k = q) := ⟨b + k, by omega, by rw [IntWalk.i64_in _ (by omega)]; omega, Lib.hid rfl⟩
      rw [Hp.out] at s1 s3
      rw [Hq.out] at s2 s3
      obtain ⟨c0, c1, c2⟩ := hH.cells s1
      obtain ⟨d0, d1, d2⟩ := hH.cells s2
      have S3 := Lib.hid s3
      clear s1 s2 s3
      have hpq : p ≠ q := by have := Hb.out; have := Hp.out; have := Hq.out; omega
      have f := hH.frozenAt
      have f0 := f (p * 3)
      have f1 := f (p * 3 + 1)
      have f2 := f (p * 3 + 2)
      have e0 := f (q * 3)
      have e1 := f (q * 3 + 1)
      have e2 := f (q * 3 + 2)
      have H2 := ((hH.put hp1 y).put hq1 x).drew
      rw [S3.out] at H2
      have G2 := gb_drew (gb_put (k := q) (gb_put (k := p) hg (.string y.key) (.int .i64 y.tag) (.string y.val)) (.string x.key) (.int .i64 x.tag) (.string x.val))
      clear f hH hg
      go_wp2_with fail
      go_region
      go_wp2_with fail
      go_roundw
      case rel => exact ⟨k + 1, by go_num, by omega, H2, G2⟩
      case measure => simp [intOf]; omega
    · obtain rfl : k = n := by omega
      rw [E.out] at hH
      go_wp2_with fail
      go_end0
      exact ⟨rfl, hH, hg⟩
end Go.Proofs.YtallcholbbfkdaaDoor
