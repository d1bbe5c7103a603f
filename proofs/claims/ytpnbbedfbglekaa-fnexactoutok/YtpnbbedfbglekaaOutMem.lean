/-
  Outputs as plain values: laws.szOut, laws.toOut and laws.eqOut by their contracts. Conditions: those of each statement.
-/
import Derived.Test.YtpnbbedfbglekaaTotMem
namespace Go.Proofs.Ytpnbbedfbglekaa
open Go.RowKit

/-- Block b holds an int and a value, whole; none of its cells is frozen. -/
def Ob (w : World) (b : Nat) (n : Int) (v : Value) : Prop := ∃ ty : TypeId, w.heap[b]? = some (.cells #[.int .i64 n, v] ty (0, 0))
theorem Ob.new (w : World) (n : Int) (v : Value) (t : TypeId) : Ob (w.alloc (.cells #[.int .i64 n, v] t)) w.heap.size n v := ⟨t, heap_alloc_new w _⟩
theorem Ob.lt {w : World} {b : Nat} {n : Int} {v : Value} (h : Ob w b n v) : b < w.heap.size := by
  obtain ⟨ty, h⟩ := h
  rcases Nat.lt_or_ge b w.heap.size with hlt | hge
  · exact hlt
  · rw [Array.getElem?_eq_none hge] at h; cases h
theorem Ob.cells {w : World} {b : Nat} {n : Int} {v : Value} (h : Ob w b n v) : w.cell? ⟨b, 0, none⟩ = some (.int .i64 n) ∧ w.cell? ⟨b, 1, none⟩ = some v := by
  obtain ⟨ty, h⟩ := h
  refine ⟨?_, ?_⟩ <;> simp [World.cell?, h]
theorem Ob.frozen {w : World} {b : Nat} {n : Int} {v : Value} (h : Ob w b n v) : w.frozen? ⟨b, 0, none⟩ = false ∧ w.frozen? ⟨b, 1, none⟩ = false := by
  obtain ⟨ty, h⟩ := h
  refine ⟨?_, ?_⟩ <;> simp [World.frozen?, h]
theorem Ob.below {w w' : World} {B b : Nat} {n : Int} {v : Value} (h : Ob w b n v) (hb : Below B w w') (hB : b < B) : Ob w' b n v := by
  obtain ⟨ty, h⟩ := h
  exact ⟨ty, (hb.block b hB).trans h⟩
theorem Ob.keep {w w' : World} {b : Nat} {n : Int} {v : Value} (h : Ob w b n v) (hb : Below w.heap.size w w') : Ob w' b n v := h.below hb h.lt
theorem Ob.far {w : World} {b c : Nat} {n : Int} {v : Value} (h : Ob w b n v) (hne : b ≠ c) (j : Nat) (u : Value) : Ob (w.setCell ⟨c, j, none⟩ u) b n v := by
  obtain ⟨ty, h⟩ := h
  exact ⟨ty, (heap_setCell_other w ⟨c, j, none⟩ b u hne).trans h⟩
theorem Ob.put0 {w : World} {b : Nat} {n : Int} {v : Value} (h : Ob w b n v) (m : Int) : Ob (w.setCell ⟨b, 0, none⟩ (.int .i64 m)) b m v := by
  obtain ⟨ty, h⟩ := h
  exact ⟨ty, (heap_setCell_same w b 0 _ ty (.int .i64 m) h).trans (by simp)⟩
theorem Ob.put1 {w : World} {b : Nat} {n : Int} {v : Value} (h : Ob w b n v) (u : Value) : Ob (w.setCell ⟨b, 1, none⟩ u) b n u := by
  obtain ⟨ty, h⟩ := h
  exact ⟨ty, (heap_setCell_same w b 1 _ ty u h).trans (by simp)⟩
/-- What reads as values reads so in each world that holds the same block. -/
theorem Rd.same {w w' : World} {B sz n : Nat} {a : Option Addr} {xs : List Value} (h : Rd w B sz a n xs) (hh : ∀ b off, a = some ⟨b, off, none⟩ → w'.heap[b]? = w.heap[b]?) : Rd w' B sz a n xs :=
  ⟨h.1, fun hn => by
    obtain ⟨b, off, e, hb, hc⟩ := h.2 hn
    refine ⟨b, off, e, hb, fun j u hu => ?_⟩
    have := hc j u hu
    unfold World.cell? at this ⊢
    rw [hh b off e]
    exact this⟩
set_option maxRecDepth 100000 in
set_option maxHeartbeats 1000000 in
theorem szOut_any (P : Int) (a : Option Addr) (len cap : Nat) (ts : List TotV) (left : Int) (w : World) (hm : len ≤ maxLen) (hok : ∀ t ∈ ts, t.Ok) (hR : Rd w w.heap.size 2 a len (flatT ts)) (h0 : 0 ≤ left) (h1 : left ≤ 1048576) :
    Calls Try.prog 15 #[.agg #[.int .i64 P, .slice a len cap], .int .i64 left] w (SzOut left len w) := by
  have hb0 := bl1 w (.cells #[.int .i64 P, .slice a len cap] 24)
  have C := szTotalS_any a len cap ts left _ hm hok ((hR.below hb0 (Nat.le_refl _)).more hb0.size) h0 h1
  go_enter Try.func15, Try.ntmps15
  go_wp2_with fail
  refine C.mono ?_
  rintro e w1 ⟨z, rfl, hb1, hz⟩
  have hb := hb0.trans (hb1.mono hb0.size)
  clear hb0 hb1 C
  rcases hz with rfl | ⟨hz0, hz1, hz2⟩
  · go_wp2_with fail
    go_ret
    exact ⟨-1, rfl, hb, .inl rfl⟩
  · go_wp2_with fail
    go_ret
    exact ⟨z, rfl, hb, .inr ⟨hz0, hz1, hz2⟩⟩
set_option maxRecDepth 100000 in
set_option maxHeartbeats 1000000 in
theorem toOut_any (P : Int) (a : Option Addr) (len cap : Nat) (ts : List TotV) (w : World) (hm : len ≤ 1048576) (hR : Rd w w.heap.size 2 a len (flatT ts)) :
    Calls Try.prog 17 #[.agg #[.int .i64 P, .slice a len cap]] w fun e w' => ∃ g, e = .returned (.agg #[.int .i64 P, .slice (some ⟨g, 0, none⟩) len len]) ∧ Below w.heap.size w w' ∧ Rd w' w'.heap.size 2 (some ⟨g, 0, none⟩) len (flatT ts) := by
  have hb0 := bl3 w (.cells #[.int .i64 P, .slice a len cap] 24) (.cells #[.int .i64 0, .slice none 0 0] 29) (.cells #[.int .i64 P, .slice none 0 0] 29)
  have O0 := Ob.new w P (.slice a len cap) 24
  have O1 := Ob.new (w.alloc (.cells #[.int .i64 P, .slice a len cap] 24)) 0 (.slice none 0 0) 29
  have O2 := Ob.new ((w.alloc (.cells #[.int .i64 P, .slice a len cap] 24)).alloc (.cells #[.int .i64 0, .slice none 0 0] 29)) P (.slice none 0 0) 29
  replace O0 := (O0.keep (bl1 _ (.cells #[.int .i64 0, .slice none 0 0] 29))).keep (bl1 _ (.cells #[.int .i64 P, .slice none 0 0] 29))
  replace O1 := O1.keep (bl1 _ (.cells #[.int .i64 P, .slice none 0 0] 29))
  have s1 : (w.alloc (.cells #[.int .i64 P, .slice a len cap] 24)).heap.size = w.heap.size + 1 := by simp
  have s2 : ((w.alloc (.cells #[.int .i64 P, .slice a len cap] 24)).alloc (.cells #[.int .i64 0, .slice none 0 0] 29)).heap.size = w.heap.size + 1 + 1 := by simp
  rw [s1] at O1
  rw [s2] at O2
  clear s1 s2
  go_enter Try.func17, Try.ntmps17
  go_wp2_with fail
  generalize (((w.alloc (.cells #[.int .i64 P, .slice a len cap] 24)).alloc (.cells #[.int .i64 0, .slice none 0 0] 29)).alloc (.cells #[.int .i64 P, .slice none 0 0] 29)) = v3 at *
  refine (toTotalS_any a len cap ts v3 hm ((hR.below hb0 (Nat.le_refl _)).more hb0.size)).mono ?_
  rintro e w4 ⟨rfl, hb4, hO⟩
  have l2 := O2.lt
  replace O0 := O0.keep hb4
  replace O1 := O1.keep hb4
  replace O2 := O2.keep hb4
  have hb := hb0.trans (hb4.mono hb0.size)
  have hs := hb4.size
  have R := Rd.of_own hO
  clear hO hb0 hb4 hR
  have hW : w.heap.size ≤ w4.heap.size := hb.size
  generalize hg : v3.heap.size = g at *
  obtain ⟨p0, p1⟩ := O2.cells
  obtain ⟨f0, f1⟩ := O2.frozen
  obtain ⟨q0, q1⟩ := O1.cells
  obtain ⟨k0, k1⟩ := O1.frozen
  go_wp2_with fail
  have O5 := ((O1.far (c := w.heap.size + 1 + 1) (by omega) 1 (.slice (some ⟨g, 0, none⟩) len len)).put0 P).put1 (.slice (some ⟨g, 0, none⟩) len len)
  have hb5 := ((hb.setCell (p := ⟨w.heap.size + 1 + 1, 1, none⟩) (show w.heap.size ≤ w.heap.size + 1 + 1 by omega) (.slice (some ⟨g, 0, none⟩) len len)).setCell (p := ⟨w.heap.size + 1, 0, none⟩) (show w.heap.size ≤ w.heap.size + 1 by omega) (.int .i64 P)).setCell (p := ⟨w.heap.size + 1, 1, none⟩) (show w.heap.size ≤ w.heap.size + 1 by omega) (.slice (some ⟨g, 0, none⟩) len len)
  have R5 : Rd (((w4.setCell ⟨w.heap.size + 1 + 1, 1, none⟩ (.slice (some ⟨g, 0, none⟩) len len)).setCell ⟨w.heap.size + 1, 0, none⟩ (.int .i64 P)).setCell ⟨w.heap.size + 1, 1, none⟩ (.slice (some ⟨g, 0, none⟩) len len)) w4.heap.size 2 (some ⟨g, 0, none⟩) len (flatT ts) := R.same (fun b off e => by
    injection e with e
    injection e with e1 e2
    subst e1
    rw [heap_setCell_other _ _ _ _ (show g ≠ w.heap.size + 1 by omega), heap_setCell_other _ _ _ _ (show g ≠ w.heap.size + 1 by omega), heap_setCell_other _ _ _ _ (show g ≠ w.heap.size + 1 + 1 by omega)])
  have hs5 : w4.heap.size ≤ (((w4.setCell ⟨w.heap.size + 1 + 1, 1, none⟩ (.slice (some ⟨g, 0, none⟩) len len)).setCell ⟨w.heap.size + 1, 0, none⟩ (.int .i64 P)).setCell ⟨w.heap.size + 1, 1, none⟩ (.slice (some ⟨g, 0, none⟩) len len)).heap.size := by simp
  obtain ⟨c0, c1⟩ := O5.cells
  refine bodyPost_ret (v := .agg #[.int .i64 P, .slice (some ⟨g, 0, none⟩) len len]) (by simp [results, Try.results17, c0, c1, go_sem]) rfl ⟨g, rfl, hb5, R5.more hs5⟩
set_option maxRecDepth 100000 in
set_option maxHeartbeats 1000000 in
theorem eqOut_same (P : Int) (a b : Option Addr) (n ca cb : Nat) (ts : List TotV) (w : World) (hm : n ≤ 1048576) (hA : Rd w w.heap.size 2 a n (flatT ts)) (hB : Rd w w.heap.size 2 b n (flatT ts)) :
    Calls Try.prog 19 #[.agg #[.int .i64 P, .slice a n ca], .agg #[.int .i64 P, .slice b n cb]] w fun e w' => e = .returned (.bool true) ∧ Below w.heap.size w w' := by
  have hb0 := bl2 w (.cells #[.int .i64 P, .slice a n ca] 29) (.cells #[.int .i64 P, .slice b n cb] 29)
  have hq : (P != P) = false := by simp
  go_enter Try.func19, Try.ntmps19
  go_wp2_with fail
  refine (eqTotalS_same a b n ca cb ts _ hm ((hA.below hb0 (Nat.le_refl _)).more hb0.size) ((hB.below hb0 (Nat.le_refl _)).more hb0.size)).mono ?_
  rintro e w1 ⟨rfl, hb1⟩
  have hb := hb0.trans (hb1.mono hb0.size)
  clear hb0 hb1 hA hB
  go_wp2_with fail
  go_ret
  exact ⟨rfl, hb⟩
end Go.Proofs.Ytpnbbedfbglekaa
