/-
  A variable of type impl.Row in memory, and spec.DrawRowOk, DrawRowBytes, DrawLess by their contracts: some rows. Conditions: a code of at most 1048576 bytes.
-/
import Derived.Test.YtgeepfoknhhcjaaDoorDrawRows
import Derived.Deep.RegionHeld3
namespace Go.Proofs.YtgeepfoknhhcjaaDoor
open Go.RowKit

/-- Block b holds the row r, whole; none of its cells is frozen. -/
def Vb (w : World) (b : Nat) (r : RowV) : Prop := ∃ ty : TypeId, w.heap[b]? = some (.cells #[.string r.key, .int .i64 r.tag, .string r.val] ty (0, 0))
theorem Vb.new (w : World) (r : RowV) (t : TypeId) : Vb (w.alloc (.cells #[.string r.key, .int .i64 r.tag, .string r.val] t)) w.heap.size r := ⟨t, heap_alloc_new w _⟩
theorem Vb.lt {w : World} {b : Nat} {r : RowV} (h : Vb w b r) : b < w.heap.size := by
  obtain ⟨ty, h⟩ := h
  rcases Nat.lt_or_ge b w.heap.size with hlt | hge
  · exact hlt
  · rw [Array.getElem?_eq_none hge] at h; cases h
theorem Vb.cells {w : World} {b : Nat} {r : RowV} (h : Vb w b r) : w.cell? ⟨b, 0, none⟩ = some (.string r.key) ∧ w.cell? ⟨b, 1, none⟩ = some (.int .i64 r.tag) ∧ w.cell? ⟨b, 2, none⟩ = some (.string r.val) := by
  obtain ⟨ty, h⟩ := h
  refine ⟨?_, ?_, ?_⟩ <;> simp [World.cell?, h]
theorem Vb.frozen {w : World} {b : Nat} {r : RowV} (h : Vb w b r) : w.frozen? ⟨b, 0, none⟩ = false ∧ w.frozen? ⟨b, 1, none⟩ = false ∧ w.frozen? ⟨b, 2, none⟩ = false := by
  obtain ⟨ty, h⟩ := h
  refine ⟨?_, ?_, ?_⟩ <;> simp [World.frozen?, h]
theorem Vb.below {w w' : World} {B b : Nat} {r : RowV} (h : Vb w b r) (hb : Below B w w') (hB : b < B) : Vb w' b r := by
  obtain ⟨ty, h⟩ := h
  exact ⟨ty, (hb.block b hB).trans h⟩
theorem Vb.keep {w w' : World} {b : Nat} {r : RowV} (h : Vb w b r) (hb : Below w.heap.size w w') : Vb w' b r := h.below hb h.lt
theorem Vb.drewn {w w' : World} {b g n : Nat} {r : RowV} (h : Vb w b r) (hd : Drew w w' g n) (hne : b ≠ g) : Vb w' b r := by
  obtain ⟨ty, h'⟩ := h
  exact ⟨ty, (hd.2.block b (Vb.lt ⟨ty, h'⟩) (by intro e; injection e with e; exact hne e)).trans h'⟩
theorem Vb.far {w : World} {b c : Nat} {r : RowV} (h : Vb w b r) (hne : b ≠ c) (j : Nat) (v : Value) : Vb (w.setCell ⟨c, j, none⟩ v) b r := by
  obtain ⟨ty, h⟩ := h
  exact ⟨ty, (heap_setCell_other w ⟨c, j, none⟩ b v hne).trans h⟩
theorem Vb.put {w : World} {b : Nat} {r : RowV} (h : Vb w b r) (s : RowV) : Vb (((w.setCell ⟨b, 0, none⟩ (.string s.key)).setCell ⟨b, 1, none⟩ (.int .i64 s.tag)).setCell ⟨b, 2, none⟩ (.string s.val)) b s := by
  obtain ⟨ty, h⟩ := h
  have h1 := heap_setCell_same w b 0 _ ty (.string s.key) h
  have h2 := heap_setCell_same _ b 1 _ ty (.int .i64 s.tag) h1
  have h3 := heap_setCell_same _ b 2 _ ty (.string s.val) h2
  exact ⟨ty, h3.trans (by simp)⟩
theorem Vb.put0 {w : World} {b : Nat} {r : RowV} (h : Vb w b r) (s : ByteArray) : Vb (w.setCell ⟨b, 0, none⟩ (.string s)) b ⟨s, r.tag, r.val⟩ := by
  obtain ⟨ty, h⟩ := h
  exact ⟨ty, (heap_setCell_same w b 0 _ ty (.string s) h).trans (by simp)⟩
theorem Vb.load {w : World} {b : Nat} {r : RowV} (h : Vb w b r) : (loadVar 29 ⟨b, 0, none⟩).run Tryd.prog w = .ok (.agg #[.string r.key, .int .i64 r.tag, .string r.val]) w :=
  run_loadVar_mid (P := Tryd.prog) w b 0 29 [.string r.key, .int .i64 r.tag, .string r.val] _ (fun j v hj => by
    have ⟨h0, h1, h2⟩ := h.cells
    match j, hj with
    | 0, hj => simp at hj; subst hj; simpa using h0
    | 1, hj => simp at hj; subst hj; simpa using h1
    | 2, hj => simp at hj; subst hj; simpa using h2) Tryd.underlying29 rfl (by kernel_rfl)
def noRow : RowV := ⟨⟨#[]⟩, 0, ⟨#[]⟩⟩
theorem IsBy.far {w w' : World} {a : Option Addr} {n : Nat} (h : IsBy w w.heap.size a n) (hb : Below w.heap.size w w') : IsBy w' w'.heap.size a n := by
  obtain ⟨xs, h1, h2⟩ := h
  exact ⟨xs, (h1.below hb (Nat.le_refl _)).more hb.size, h2⟩
set_option maxRecDepth 100000 in
set_option maxHeartbeats 2000000 in
theorem drawRowOk_any (a : Option Addr) (len cap : Nat) (w : World) (hl : len ≤ 1048576) (h : IsBy w w.heap.size a len) :
    Calls Tryd.prog 21 #[.slice a len cap] w fun e w' => ∃ r : RowV, (r.Ok ∧ r.key.size ≤ 14 ∧ r.val.size ≤ 14) ∧ e = .returned (.agg #[.string r.key, .int .i64 r.tag, .string r.val]) ∧ Below w.heap.size w w' := by
  have hb0 := bl1 w (.cells #[.string ⟨#[]⟩, .int .i64 0, .string ⟨#[]⟩] 29)
  have V := Vb.new w noRow 29
  have h' := h.far hb0
  go_enter Tryd.func21, Tryd.ntmps21
  go_wp2_with fail
  simp only [noRow] at V
  generalize w.alloc (.cells #[.string ⟨#[]⟩, .int .i64 0, .string ⟨#[]⟩] 29) = w0 at *
  refine (l1Open_any a len cap w0 hl h').mono ?_
  rintro e w1 ⟨rfl, hR1, hb1⟩
  have hg := V.lt
  replace V := V.keep hb1
  have hlt := hR1.lt
  go_wp2_with fail
  refine (row_small _ len _ hR1).mono ?_
  rintro e w2 ⟨r, hr, rfl, hD⟩
  replace V := V.drewn hD (by omega)
  have D := hD
  have hF0 : w1.heap.size ≤ w2.heap.size := hD.size
  clear hD
  have F := Vb.new w2 r 29
  have hb2 := bl1 w2 (.cells #[.string r.key, .int .i64 r.tag, .string r.val] 29)
  replace V := V.keep hb2
  replace D := D.and hb2
  clear hb2
  go_wp2_with fail
  generalize w2.alloc (.cells #[.string r.key, .int .i64 r.tag, .string r.val] 29) = w3 at *
  generalize w2.heap.size = F0 at *
  refine (once_lit _ len 6 _ _ D.rdr (by omega) (by omega) (by omega)).mono ?_
  rintro e w4 ⟨q, rfl, hD⟩
  replace V := V.drewn hD (by omega)
  replace F := F.drewn hD (by omega)
  replace D := D.trans hD
  clear hD
  cases q
  · have ⟨x0, x1, x2⟩ := F.cells
    have ⟨y0, y1, y2⟩ := V.cells
    have ⟨f0, f1, f2⟩ := V.frozen
    have V2 := V.put r
    have b4 := hb0.trans ((below_drew hb1 D).mono (Nat.le_of_lt hg))
    have b5 := ((b4.setCell (p := ⟨w.heap.size, 0, none⟩) (Nat.le_refl _) (.string r.key)).setCell (p := ⟨w.heap.size, 1, none⟩) (Nat.le_refl _) (.int .i64 r.tag)).setCell (p := ⟨w.heap.size, 2, none⟩) (Nat.le_refl _) (.string r.val)
    have hld := V2.load
    clear V2 F V D
    simp only at y0 y1 y2
    go_wp2_with fail
    refine bodyPost_ret (v := .agg #[.string r.key, .int .i64 r.tag, .string r.val]) ?_ rfl ⟨r, ⟨hr.1, by omega, by omega⟩, rfl, b5⟩
    simp [results, Tryd.results21, asAddr, hld]
  · go_wp2_with fail
    refine (bytes_lit _ len 14 _ _ D.rdr (by omega) (by omega) (by omega)).mono ?_
    rintro e w5 ⟨s, hs, rfl, hD⟩
    replace V := V.drewn hD (by omega)
    replace F := F.drewn hD (by omega)
    replace D := D.trans hD
    clear hD
    have ⟨z0, z1, z2⟩ := F.cells
    have ⟨e0, e1, e2⟩ := F.frozen
    have F2 := F.put0 s
    have V2 := V.far (c := F0) (by omega) 0 (.string s)
    have D2 := D.set (o := 0) (b := F0) hlt (by omega) (.string s)
    have ⟨x0, x1, x2⟩ := F2.cells
    have ⟨y0, y1, y2⟩ := V2.cells
    have ⟨f0, f1, f2⟩ := V2.frozen
    have V3 := V2.put ⟨s, r.tag, r.val⟩
    have b4 := hb0.trans ((below_drew hb1 D2).mono (Nat.le_of_lt hg))
    have b5 := ((b4.setCell (p := ⟨w.heap.size, 0, none⟩) (Nat.le_refl _) (.string s)).setCell (p := ⟨w.heap.size, 1, none⟩) (Nat.le_refl _) (.int .i64 r.tag)).setCell (p := ⟨w.heap.size, 2, none⟩) (Nat.le_refl _) (.string r.val)
    have hld := V3.load
    simp only at x0 x1 x2 y0 y1 y2 hld
    clear V3 V2 F2 D2 F V D
    go_wp2_with fail
    refine bodyPost_ret (v := .agg #[.string s, .int .i64 r.tag, .string r.val]) ?_ rfl ⟨⟨s, r.tag, r.val⟩, ⟨⟨by unfold maxLen; simp only; omega, hr.1.2.1, hr.1.2.2⟩, by simp only; omega, by simp only; omega⟩, rfl, b5⟩
    simp [results, Tryd.results21, asAddr, hld]
end Go.Proofs.YtgeepfoknhhcjaaDoor
