/-
  Rows.FnExactCombinedSaid: laws.FnExactCombined returns true for every input, and each argument reads afterwards as it read before. No conditions.
-/
import Derived.Test.YtnmlnenepceabaaTotMem
import Derived.Test.YtnmlnenepceabaaLowD
import Derived.Test.YtnmlnenepceabaaAppendAny
import Derived.Test.YtnmlnenepceabaaRdIn
import Derived.Test.YtnmlnenepceabaaCmpRows
import Derived.Test.YtnmlnenepceabaaLowC
import Derived.Maps.AppendAt
import Derived.Test.YtnmlnenepceabaaLowE
import Derived.BigQuiet
import Derived.Test.YtnmlnenepceabaaMarkOwn
import Derived.Test.YtnmlnenepceabaaSince
import Derived.Test.YtnmlnenepceabaaOpen
import Derived.Test.YtnmlnenepceabaaOpenTot
namespace Go.Proofs.Ytnmlnenepceabaa
open Go.RowKit
def lessT (a b : TotV) : Bool := Op.bytesLess a.key.toList b.key.toList
def cmpT (a b : TotV) : Int := cmpS a.key b.key
def leT (a b : TotV) : Bool := !(lessT b a)
def mergeT (I S : List TotV) : List TotV := List.merge I S leT
theorem mergeT_nil (S : List TotV) : mergeT [] S = S := List.nil_merge S
theorem mergeT_none (I : List TotV) : mergeT I [] = I := List.merge_right I
theorem mergeT_left {r x : TotV} (R S : List TotV) (h : lessT x r = false) : mergeT (r :: R) (x :: S) = r :: mergeT R (x :: S) := by
  unfold mergeT
  rw [List.cons_merge_cons, if_pos (by unfold leT; rw [h]; rfl)]
theorem mergeT_right {r x : TotV} (R S : List TotV) (h : lessT x r = true) : mergeT (r :: R) (x :: S) = x :: mergeT (r :: R) S := by
  unfold mergeT
  rw [List.cons_merge_cons, if_neg (by unfold leT; rw [h]; decide)]
theorem mergeT_one (x : TotV) (S : List TotV) : mergeT [] (x :: S) = x :: mergeT [] S := by rw [mergeT_nil, mergeT_nil]
theorem mergeT_length (I S : List TotV) : (mergeT I S).length = I.length + S.length := by
  have := (List.merge_perm_append leT (xs := I) (ys := S)).length_eq
  rw [List.length_append] at this
  exact this
theorem cmpS_turnT (a b : ByteArray) : cmpS a b = - cmpS b a := by
  unfold cmpS
  cases h : Op.bytesLess a.toList b.toList
  · rcases bl_total h with e | e
    · rw [e]; simp [bl_irrefl]
    · rw [e]
      have hne : (!a.toList == b.toList) = true := by
        rw [Bool.not_eq_true', beq_eq_false_iff_ne]
        intro e2
        rw [e2, bl_irrefl] at e; cases e
      rw [hne]; simp
  · have hne : (!b.toList == a.toList) = true := by
      rw [Bool.not_eq_true', beq_eq_false_iff_ne]
      intro e2
      rw [e2, bl_irrefl] at h; cases h
    rw [bl_asymm h, hne]; simp
theorem cmpT_le (a b : TotV) : decide (cmpT a b ≤ 0) = !(lessT b a) := by
  have e : cmpT a b = - cmpT b a := cmpS_turnT _ _
  have h : decide (cmpT b a < 0) = lessT b a := cmpS_neg _ _
  rw [← h, e]
  by_cases h2 : cmpT b a < 0
  · rw [decide_eq_true h2, decide_eq_false (by omega)]; rfl
  · rw [decide_eq_false h2, decide_eq_true (by omega)]; rfl
def fromT (a : Option Addr) (cap k : Nat) : Option Addr := if cap = k then a else a.map fun b => b.add (k * 2)
theorem Rd.fromT {w : World} {B n k cap : Nat} {a : Option Addr} {rs : List TotV} (h : Rd w B 2 a n (flatT rs)) (hk : k ≤ n) (hn : n ≤ cap) : Rd w B 2 (fromT a cap k) (n - k) (flatT (rs.drop k)) := by
  have hl : rs.length = n := h.tots_length
  refine ⟨by rw [flatT_length, List.length_drop, hl], fun hp => ?_⟩
  obtain ⟨b, off, rfl, hb, hc⟩ := h.2 (by omega)
  refine ⟨b, off + k * 2, ?_, hb, fun j u hu => ?_⟩
  · unfold Go.Proofs.Ytnmlnenepceabaa.fromT
    rw [if_neg (by omega)]
    simp [Addr.add_mid]
  · have e : flatT rs = flatT (rs.take k) ++ flatT (rs.drop k) := by rw [← flatT_append, List.take_append_drop]
    have := hc (k * 2 + j) u (by
      rw [e, List.getElem?_append_right (by rw [flatT_length, List.length_take]; omega), flatT_length, List.length_take, show k * 2 + j - min k rs.length * 2 = j by rw [hl, Nat.min_eq_left hk]; omega]
      exact hu)
    rw [Nat.add_assoc]; exact this
set_option maxRecDepth 100000 in
theorem compareTotals_any (k : ByteArray) (n : Int) (k2 : ByteArray) (n2 : Int) (w : World) :
    Calls Try.prog 131 #[.agg #[.string k, .int .i64 n], .agg #[.string k2, .int .i64 n2]] w fun e w' => e = .returned (.int .i64 (cmpS k k2)) ∧ Below w.heap.size w w' := by
  have hb := bl2 w (.cells #[.string k, .int .i64 n] 45) (.cells #[.string k2, .int .i64 n2] 45)
  go_enter Try.func131, Try.ntmps131
  go_wp2_with fail
  refine (compareS_any k k2 _).mono ?_
  rintro e w1 ⟨rfl, rfl⟩
  go_wp2_with fail
  go_ret
  exact ⟨rfl, hb⟩
def HaltT_ (p : Prop) : Prop := p
theorem haltT_ {p : Prop} (h : HaltT_ p) : p := h
theorem unhaltT_ {p : Prop} (h : p) : HaltT_ p := h
theorem cell_totM (W : World) (r : TotV) (t : TypeId) : ∀ j u, [Value.string r.key, .int .i64 r.n][j]? = some u → (W.alloc (.cells #[.string r.key, .int .i64 r.n] t)).cell? ((⟨W.heap.size, 0, none⟩ : Addr).add j) = some u := by
  intro j u hj
  match j, hj with
  | 0, hj => simp at hj; subst hj; simp [go_sem]
  | 1, hj => simp at hj; subst hj; simp [go_sem, Addr.add]
theorem flat_snocT (l : List TotV) (r : TotV) : flatT (l ++ [r]) = flatT l ++ [.string r.key, .int .i64 r.n] := by rw [flatT_append]; rfl
theorem flat_oneT (l : List TotV) : ∀ u ∈ flatT l, u.oneCell' = true := by
  intro u hu
  unfold flatT at hu
  obtain ⟨r, _, hr⟩ := List.mem_flatMap.1 hu
  simp [TotV.cells] at hr
  rcases hr with rfl | rfl <;> rfl
/-- Block b holds a sorted list of rows, whole; none of its cells is frozen. -/
def SlT (w : World) (b : Nat) (v : Value) : Prop := ∃ ty : TypeId, w.heap[b]? = some (.cells #[.func (.func 131) #[] #[], v] ty (0, 0))
theorem SlT.new (w : World) (v : Value) (t : TypeId) : SlT (w.alloc (.cells #[.func (.func 131) #[] #[], v] t)) w.heap.size v := ⟨t, heap_alloc_new w _⟩
theorem SlT.lt {w : World} {b : Nat} {v : Value} (h : SlT w b v) : b < w.heap.size := by
  obtain ⟨ty, h⟩ := h
  rcases Nat.lt_or_ge b w.heap.size with hlt | hge
  · exact hlt
  · rw [Array.getElem?_eq_none hge] at h; cases h
theorem SlT.cells {w : World} {b : Nat} {v : Value} (h : SlT w b v) : w.cell? ⟨b, 0, none⟩ = some (.func (.func 131) #[] #[]) ∧ w.cell? ⟨b, 1, none⟩ = some v := by
  obtain ⟨ty, h⟩ := h
  refine ⟨?_, ?_⟩ <;> simp [World.cell?, h]
theorem SlT.frozen {w : World} {b : Nat} {v : Value} (h : SlT w b v) : w.frozen? ⟨b, 0, none⟩ = false ∧ w.frozen? ⟨b, 1, none⟩ = false := by
  obtain ⟨ty, h⟩ := h
  refine ⟨?_, ?_⟩ <;> simp [World.frozen?, h]
theorem SlT.below {w w' : World} {B b : Nat} {v : Value} (h : SlT w b v) (hb : Below B w w') (hB : b < B) : SlT w' b v := by
  obtain ⟨ty, h⟩ := h
  exact ⟨ty, (hb.block b hB).trans h⟩
theorem SlT.keep {w w' : World} {b : Nat} {v : Value} (h : SlT w b v) (hb : Below w.heap.size w w') : SlT w' b v := h.below hb h.lt
theorem SlT.put {w : World} {b : Nat} {v : Value} (h : SlT w b v) (u : Value) : SlT (w.setCell ⟨b, 1, none⟩ u) b u := by
  obtain ⟨ty, h⟩ := h
  exact ⟨ty, (heap_setCell_same w b 1 _ ty u h).trans (by simp)⟩
theorem SlT.grown {w w' : World} {b : Nat} {v : Value} {row : Option Nat} (h : SlT w b v) (hg : w.grownBy w' row) (hne : some b ≠ row) : SlT w' b v := by
  have hl := h.lt
  obtain ⟨ty, h⟩ := h
  exact ⟨ty, (hg.block b hl hne).trans h⟩
set_option maxRecDepth 100000 in
set_option maxHeartbeats 4000000 in
theorem mergeT_any (B : Nat) (ia : Option Addr) (ni ic : Nat) (I : List TotV) (sa : Option Addr) (ns sc : Nat) (S : List TotV) (w : World) (hni : ni ≤ 1000) (hns : ns ≤ 1000) (hic : ni ≤ ic) (hL : SlT w B (.slice ia ni ic)) (hI : Rd w w.heap.size 2 ia ni (flatT I)) (hS : Rd w w.heap.size 2 sa ns (flatT S)) :
    Calls Try.prog 132 #[.pointer (some ⟨B, 0, none⟩), .slice sa ns sc] w fun e w' => (∃ v, e = .returned v) ∧ ∃ a c, SlT w' B (.slice a (ni + ns) c) ∧ w.grownBy w' (some B) ∧ w'.ownsRow w.heap.size 45 2 (.slice a (ni + ns) c) (ni + ns) (flatT (mergeT I S)) := by
  obtain ⟨i0, hi, hz0, hz1, hz2⟩ := info_parts infoTotal
  have hBl := hL.lt
  obtain ⟨l0, l1⟩ := hL.cells
  have HL := Lib.hid hL
  have hIl : I.length = ni := hI.tots_length
  have hSl := Lib.hid hS.tots_length
  have HI := Lib.hid hIl
  clear hIl
  generalize hT : mergeT I S = T
  have HT := Lib.hid hT
  clear hT hL
  go_enter Try.func132, Try.ntmps132
  go_wp2_with (at_make; refine wpList_make_own _ rfl _ _ 24 rfl w.heap.size 45 i0 (.agg #[.string ⟨#[]⟩, .int .i64 0]) 2 Try.underlying24 hi hz0 hz1 .i64 .i64 _ (ni + ns) rfl rfl (by omega) (by rw [hz2]; omega) (by unfold maxLen; omega) (Nat.le_refl _) ?_; intro w1 hown hgrow; have hb1 := (Below.refl w.heap.size w).grown hgrow (Nat.le_refl _) (by simp); have l1' := (hb1.cell (p := ⟨B, 1, none⟩) hBl).trans l1; clear hgrow)
  clear l1'
  go_loopw [4, 5, 23] (fun v r i wr => ∃ (k m q : Nat) (g : Option Addr) (c : Nat) (ra : Option Addr) (rc : Nat) (R A : List TotV), k ≤ ns ∧ i = .int .i64 k ∧ v = .slice g q c ∧ r = .slice ra m rc ∧ m ≤ rc ∧ q + m = ni + k ∧ Hid (A.length = q) ∧ Hid (T = A ++ mergeT R (S.drop k)) ∧ Hid (Rd w w.heap.size 2 ra m (flatT R)) ∧ wr.ownsRow w.heap.size 45 2 (.slice g q c) q (flatT A) ∧ Below w.heap.size w wr) (fun _ _ i _ => ns - (intOf i).toNat)
  case atStart => exact ⟨0, ni, 0, _, _, _, _, I, [], Nat.zero_le _, rfl, rfl, rfl, hic, by omega, Lib.hid rfl, Lib.hid HT.out.symm, Lib.hid hI, hown, hb1⟩
  case round =>
    obtain ⟨k, m, q, g, c, ra, rc, R, A, hk, rfl, rfl, rfl, hmr, hqm, HQ, HA, HR, hO, hb⟩ := hrel
    clear hown hb1 hI
    by_cases hlt : k < ns
    · obtain ⟨b1, o1, x, rfl, hB1, hx, c0, c1⟩ := (hS.below hb (Nat.le_refl _)).tot hlt
      have hSd : S.drop k = x :: S.drop (k + 1) := by
        obtain ⟨hk', e⟩ := List.getElem?_eq_some_iff.1 hx
        rw [← e]; exact List.drop_eq_getElem_cons hk'
      have HA0 := Lib.hid (show T = A ++ mergeT R (x :: S.drop (k + 1)) by rw [HA.out, hSd])
      obtain ⟨xk, xt⟩ := x
      have hb2 := bl1 wr (.cells #[.string xk, .int .i64 xt] 45)
      have hX0 : (wr.alloc (.cells #[.string xk, .int .i64 xt] 45)).cell? ⟨wr.heap.size, 0, none⟩ = some (.string xk) := by simp [go_sem]
      have hX1 : (wr.alloc (.cells #[.string xk, .int .i64 xt] 45)).cell? ⟨wr.heap.size, 1, none⟩ = some (.int .i64 xt) := by simp [go_sem]
      have hXl : wr.heap.size < (wr.alloc (.cells #[.string xk, .int .i64 xt] 45)).heap.size := by simp
      have hO2 := own_below hO hb2
      have hB2 := hb.trans (hb2.mono hb.size)
      have hXw : w.heap.size ≤ wr.heap.size := hb.size
      have hNX : ∀ q', (Value.slice g q c).ownBlock = some q' → q' ≠ wr.heap.size := fun q' e => by have := (own_ge hO q' e).2; omega
      clear hb2 hO hb hx hSd HA
      go_wp2_with fail
      generalize wr.alloc (.cells #[.string xk, .int .i64 xt] 45) = w2 at *
      generalize wr.heap.size = X at *
      clear c0 c1
      go_loopw [4, 5] (fun v r wi => ∃ (m q : Nat) (g : Option Addr) (c : Nat) (ra : Option Addr) (rc : Nat) (R A : List TotV), v = .slice g q c ∧ r = .slice ra m rc ∧ m ≤ rc ∧ q + m = ni + k ∧ Hid (A.length = q) ∧ Hid (T = A ++ mergeT R (⟨xk, xt⟩ :: S.drop (k + 1))) ∧ Hid (Rd w w.heap.size 2 ra m (flatT R)) ∧ wi.ownsRow w.heap.size 45 2 (.slice g q c) q (flatT A) ∧ Below w.heap.size w wi ∧ wi.cell? ⟨X, 0, none⟩ = some (.string xk) ∧ wi.cell? ⟨X, 1, none⟩ = some (.int .i64 xt) ∧ X < wi.heap.size ∧ Hid (∀ q', (Value.slice g q c).ownBlock = some q' → q' ≠ X)) (fun _ r _ => match r with | .slice _ n _ => n | _ => 0)
      case atStart => exact ⟨m, q, g, c, ra, rc, R, A, rfl, rfl, hmr, hqm, HQ, HA0, HR, hO2, hB2, hX0, hX1, hXl, Lib.hid hNX⟩
      case round =>
        clear hNX hX0 hX1 hXl hO2 hB2 HQ HA0 HR hmr hqm
        obtain ⟨m, q, g, c, ra, rc, R, A, rfl, rfl, hmr, hqm, HQ, HA, HR, hO, hb, hX0, hX1, hXl, HN⟩ := hrel
        by_cases hm0 : m = 0
        · subst hm0
          have hRn : R = [] := by
            have := HR.out.tots_length
            exact List.length_eq_zero_iff.1 this
          have HT2 := Lib.hid (show T = (A ++ [⟨xk, xt⟩]) ++ mergeT R (S.drop (k + 1)) by rw [HA.out, hRn, mergeT_one, List.append_assoc]; rfl)
          clear hRn HA
          go_wp2_with fail
          go_quiet (fail)
          have hbw : Below wr.heap.size wr (wr.drewN nq) := below_drewN (Below.refl _ _) nq
          have hb3 := hb.trans (hbw.mono hb.size)
          have hO3 := own_below hO hbw
          have y0 := (hbw.cell (p := ⟨X, 0, none⟩) hXl).trans hX0
          have y1 := (hbw.cell (p := ⟨X, 1, none⟩) hXl).trans hX1
          have hXl3 := Nat.lt_of_lt_of_le hXl hbw.size
          clear hbw hb hO hX0 hX1 hXl
          generalize wr.drewN nq = w3 at *
          have hg8 : w.heap.size ≤ w3.heap.size := hb3.size
          have hq1 : q + 1 ≤ maxLen := by unfold maxLen; omega
          have hq2 : (q + 1) * 24 ≤ 140737488355328 := by omega
          go_wp2_with (at_builtin; refine wpList_append_own_at _ rfl _ _ 24 rfl w.heap.size 45 i0 (.agg #[.string ⟨#[]⟩, .int .i64 0]) 2 24 Try.underlying24 hi hz0 hz1 hz2 rfl (by decide) (.slice g q c) _ _ rfl (hO3.alloc _) ⟨w3.heap.size, 0, none⟩ 1 1 [.string xk, .int .i64 xt] rfl rfl (cell_totM w3 ⟨xk, xt⟩ _) (by simp [Value.oneCell']) hq1 hq2 (Nat.le_trans hg8 (bl1 w3 _).size) ?_; intro v' w4 hO4 hg4 _ hat; refine haltT_ ?_)
          refine unhaltT_ ?_
          obtain ⟨a', cap', rfl⟩ := own_slice' hO4
          have hb4 := below_grown1 hb3 hO3 hg4
          have hO5 : w4.ownsRow w.heap.size 45 2 (.slice a' (q + 1) cap') (q + 1) (flatT (A ++ [⟨xk, xt⟩])) := by rw [flat_snocT]; exact hO4
          have HQ2 := Lib.hid (show (A ++ [(⟨xk, xt⟩ : TotV)]).length = q + 1 by rw [List.length_append, HQ.out]; rfl)
          clear hg4 hat hO3 hO4 hb3 y0 y1 hXl3 HN HQ
          go_wp2_with fail
          go_roundw
          case rel => exact ⟨k + 1, 0, q + 1, a', cap', _, rc, R, A ++ [⟨xk, xt⟩], by omega, by go_num, rfl, rfl, hmr, by omega, HQ2, HT2, HR, hO5, hb4⟩
          case measure => simp [intOf]; omega
        obtain ⟨r, R, rfl⟩ : ∃ r R', R = r :: R' := by
          have := HR.out.tots_length
          cases R with
          | nil => simp at this; omega
          | cons r R => exact ⟨r, R, rfl⟩
        obtain ⟨b2, o2, r', rfl, hB2, hr', d0, d1⟩ := (HR.out.below hb (Nat.le_refl _)).tot (show 0 < m by omega)
        obtain rfl : r = r' := by simpa using hr'
        clear hr'
        have hcl := (hb.cell (p := ⟨B, 0, none⟩) hBl).trans l0
        have hcle : decide (cmpS r.key xk ≤ 0) = !(lessT ⟨xk, xt⟩ r) := cmpT_le r ⟨xk, xt⟩
        have CM := fun w => compareTotals_any r.key r.n xk xt w
        simp only [Nat.zero_mul, Nat.add_zero] at d0 d1
        have d0' := fun d os => cell_regrown d0 d os
        have d1' := fun d os => cell_regrown d1 d os
        have x0' := fun d os => cell_regrown hX0 d os
        have x1' := fun d os => cell_regrown hX1 d os
        have l0' := fun d os => cell_regrown hcl d os
        have hm1 : decide ((0 : Int) < (m : Int)) = true := decide_eq_true (by omega)
        have hm2 : decide (0 < m) = true := decide_eq_true (by omega)
        have hm3 : (0 : Int) < (m : Int) := by omega
        have hm4 : 0 < m := by omega
        generalize cmpS r.key xk = z at CM hcle
        cases hq : lessT ⟨xk, xt⟩ r
        · rw [hq] at hcle
          have hcle' : decide (z ≤ 0) = true := hcle
          have HT2 := Lib.hid (show T = (A ++ [r]) ++ mergeT R (⟨xk, xt⟩ :: S.drop (k + 1)) by rw [HA.out, mergeT_left _ _ hq, List.append_assoc]; rfl)
          obtain ⟨rk, rt⟩ := r
          simp only at d0 d1 d0' d1' CM
          clear HA hcle hq
          go_wp2_with fail
          have cM := Lib.hid (fun d os => Calls.regrown_of (w := wr) (d := d) (os := os) (CM _))
          clear CM
          refine wp_region_wq (by kernel_rfl) (by kernel_rfl) ?_
          repeat (refine WQ.step (fun K hK => ?_); go_simp; first | (refine hK _ ?_; clear hK K) | (apply Exists.intro; refine ⟨fun _ => ?_, hK _ ?_⟩; (first | with_reducible exact cM.out _ _); clear hK K))
          refine WQ.nil ?_
          intro _ hw'
          obtain ⟨⟨dq, osq⟩, hw''⟩ := hw'
          subst hw''
          have hbw := below_regrown wr dq osq
          have hb3 := hb.trans (hbw.mono hb.size)
          have hO3 := own_below hO hbw
          have y0 := x0' dq osq
          have y1 := x1' dq osq
          have hXl3 := Nat.lt_of_lt_of_le hXl hbw.size
          have r0 := d0' dq osq
          have r1 := d1' dq osq
          clear d0' d1' x0' x1' l0' cM hbw hb hO hX0 hX1 hXl d0 d1 hcl
          generalize Go.Sort.grow (redrawn wr dq) osq = w3 at *
          have hg8 : w.heap.size ≤ w3.heap.size := hb3.size
          have hq1 : q + 1 ≤ maxLen := by unfold maxLen; omega
          have hq2 : (q + 1) * 24 ≤ 140737488355328 := by omega
          go_wp2_with (at_builtin; refine wpList_append_own_at _ rfl _ _ 24 rfl w.heap.size 45 i0 (.agg #[.string ⟨#[]⟩, .int .i64 0]) 2 24 Try.underlying24 hi hz0 hz1 hz2 rfl (by decide) (.slice g q c) _ _ rfl (hO3.alloc _) ⟨w3.heap.size, 0, none⟩ 1 1 [.string rk, .int .i64 rt] rfl rfl (cell_totM w3 ⟨rk, rt⟩ _) (by simp [Value.oneCell']) hq1 hq2 (Nat.le_trans hg8 (bl1 w3 _).size) ?_; intro v' w4 hO4 hg4 _ hat; refine haltT_ ?_)
          refine unhaltT_ ?_
          obtain ⟨a', cap', rfl⟩ := own_slice' hO4
          have hb4 := below_grown1 hb3 hO3 hg4
          have hO5 : w4.ownsRow w.heap.size 45 2 (.slice a' (q + 1) cap') (q + 1) (flatT (A ++ [⟨rk, rt⟩])) := by rw [flat_snocT]; exact hO4
          have HQ2 := Lib.hid (show (A ++ [(⟨rk, rt⟩ : TotV)]).length = q + 1 by rw [List.length_append, HQ.out]; rfl)
          have hne : some X ≠ (Value.slice g q c).ownBlock := fun e => HN.out X e.symm rfl
          have hY0 : w4.cell? ⟨X, 0, none⟩ = some (.string xk) := hg4.cell (a := ⟨X, 0, none⟩) (by rw [World.cell?_alloc_past _ _ _ hXl3]; exact y0) hne
          have hY1 : w4.cell? ⟨X, 1, none⟩ = some (.int .i64 xt) := hg4.cell (a := ⟨X, 1, none⟩) (by rw [World.cell?_alloc_past _ _ _ hXl3]; exact y1) hne
          have hYl : X < w4.heap.size := Nat.lt_of_lt_of_le (by simp; omega) hg4.size
          have HN4 : Hid (∀ q', (Value.slice a' (q + 1) cap').ownBlock = some q' → q' ≠ X) := Lib.hid (by
            intro q' e
            rcases hat with h | h
            · exact HN.out q' (h ▸ e)
            · rw [h] at e
              have : w3.heap.size + 1 = q' := by simpa using e
              omega)
          have HR2 := Lib.hid (HR.out.fromT (k := 1) (by omega) hmr)
          clear hg4 hat hO3 hO4 hb3 y0 y1 r0 r1 hXl3 hne HN HQ
          go_wp2_with fail
          go_roundw
          case rel => exact ⟨m - 1, q + 1, a', cap', _, rc - 1, R, A ++ [⟨rk, rt⟩], rfl, rfl, by omega, by omega, HQ2, HT2, HR2, hO5, hb4, hY0, hY1, hYl, HN4⟩
          case measure => simp; omega
        · rw [hq] at hcle
          have hcle' : decide (z ≤ 0) = false := hcle
          have HT2 := Lib.hid (show T = (A ++ [⟨xk, xt⟩]) ++ mergeT (r :: R) (S.drop (k + 1)) by rw [HA.out, mergeT_right _ _ hq, List.append_assoc]; rfl)
          obtain ⟨rk, rt⟩ := r
          simp only at d0 d1 d0' d1' CM
          clear HA hcle hq
          go_wp2_with fail
          have cM := Lib.hid (fun d os => Calls.regrown_of (w := wr) (d := d) (os := os) (CM _))
          clear CM
          refine wp_region_wq (by kernel_rfl) (by kernel_rfl) ?_
          repeat (refine WQ.step (fun K hK => ?_); go_simp; first | (refine hK _ ?_; clear hK K) | (apply Exists.intro; refine ⟨fun _ => ?_, hK _ ?_⟩; (first | with_reducible exact cM.out _ _); clear hK K))
          refine WQ.nil ?_
          intro _ hw'
          obtain ⟨⟨dq, osq⟩, hw''⟩ := hw'
          subst hw''
          have hbw := below_regrown wr dq osq
          have hb3 := hb.trans (hbw.mono hb.size)
          have hO3 := own_below hO hbw
          have y0 := x0' dq osq
          have y1 := x1' dq osq
          have hXl3 := Nat.lt_of_lt_of_le hXl hbw.size
          skip
          clear d0' d1' x0' x1' l0' cM hbw hb hO hX0 hX1 hXl d0 d1 hcl
          generalize Go.Sort.grow (redrawn wr dq) osq = w3 at *
          have hg8 : w.heap.size ≤ w3.heap.size := hb3.size
          have hq1 : q + 1 ≤ maxLen := by unfold maxLen; omega
          have hq2 : (q + 1) * 24 ≤ 140737488355328 := by omega
          go_wp2_with (at_builtin; refine wpList_append_own_at _ rfl _ _ 24 rfl w.heap.size 45 i0 (.agg #[.string ⟨#[]⟩, .int .i64 0]) 2 24 Try.underlying24 hi hz0 hz1 hz2 rfl (by decide) (.slice g q c) _ _ rfl (hO3.alloc _) ⟨w3.heap.size, 0, none⟩ 1 1 [.string xk, .int .i64 xt] rfl rfl (cell_totM w3 ⟨xk, xt⟩ _) (by simp [Value.oneCell']) hq1 hq2 (Nat.le_trans hg8 (bl1 w3 _).size) ?_; intro v' w4 hO4 hg4 _ hat; refine haltT_ ?_)
          refine unhaltT_ ?_
          obtain ⟨a', cap', rfl⟩ := own_slice' hO4
          have hb4 := below_grown1 hb3 hO3 hg4
          have hO5 : w4.ownsRow w.heap.size 45 2 (.slice a' (q + 1) cap') (q + 1) (flatT (A ++ [⟨xk, xt⟩])) := by rw [flat_snocT]; exact hO4
          have HQ2 := Lib.hid (show (A ++ [(⟨xk, xt⟩ : TotV)]).length = q + 1 by rw [List.length_append, HQ.out]; rfl)
          clear hg4 hat hO3 hO4 hb3 y0 y1 hXl3 HN HQ
          go_wp2_with fail
          go_roundw
          case rel => exact ⟨k + 1, m, q + 1, a', cap', _, rc, (⟨rk, rt⟩ :: R), A ++ [⟨xk, xt⟩], by omega, by go_num, rfl, rfl, hmr, by omega, HQ2, HT2, HR, hO5, hb4⟩
          case measure => simp [intOf]; omega
    · obtain rfl : k = ns := by omega
      have HTE := Lib.hid (show T = A ++ R by rw [HA.out, List.drop_of_length_le (by rw [hSl.out]; exact Nat.le_refl _), mergeT_none])
      have hR2 := HR.out.below hb (Nat.le_refl _)
      have hL2 := HL.out.below hb hBl
      have hq1 : q + m ≤ maxLen := by unfold maxLen; omega
      have hq2 : (q + m) * 24 ≤ 140737488355328 := by omega
      go_wp2_with (at_builtin; refine wpList_append_rd rfl _ _ 24 rfl w.heap.size 45 i0 (.agg #[.string ⟨#[]⟩, .int .i64 0]) 2 24 Try.underlying24 hi hz0 hz1 hz2 rfl (by decide) (.slice g q c) q (flatT A) rfl hO ra w.heap.size m rc (flatT R) rfl hR2 (flat_oneT _) hq1 hq2 hb.size ?_; intro v' w4 hO4 hg4 hat; refine haltT_ ?_)
      refine unhaltT_ ?_
      obtain ⟨a', cap', rfl⟩ := own_slice' hO4
      have hL4 : SlT w4 B (.slice ia ni ic) := hL2.grown hg4 (fun e => by have := (own_ge hO B e.symm).1; omega)
      have hb4 : Below w.heap.size w w4 := hb.grown hg4 hb.size (fun q' e => (own_ge hO q' e).1)
      obtain ⟨p0, p1⟩ := hL4.cells
      obtain ⟨f0, f1⟩ := hL4.frozen
      rw [← flatT_append, ← HTE.out] at hO4
      have hO5 : (w4.setCell ⟨B, 1, none⟩ (.slice a' (q + m) cap')).ownsRow w.heap.size 45 2 (.slice a' (q + m) cap') (q + m) (flatT T) := hO4.kept (gb_store (World.grownBy.refl w4 (some B)) 1 _) (by
        cases hv : (Value.slice a' (q + m) cap').ownBlock with
        | none => exact .inl rfl
        | some g' =>
          right
          intro he
          have h1 := (own_ge hO4 g' hv).1
          have h2 : g' = B := by simpa using he
          omega)
      have hL5 := hL4.put (.slice a' (q + m) cap')
      have hG5 : w.grownBy (w4.setCell ⟨B, 1, none⟩ (.slice a' (q + m) cap')) (some B) := gb_store (gb_of_below hb4 (some B)) 1 _
      rw [hqm] at hL5 hO5 hG5
      clear hL2 hL4 hO hO4 hg4 hat hb hb4 hR2 HR HA HL
      go_wp2_with fail
      rw [hqm]
      first | (refine bodyPost_ret (results_none rfl _ _ _) rfl ?_) | go_end0
      exact ⟨⟨_, rfl⟩, a', cap', hL5, hG5, hO5⟩
end Go.Proofs.Ytnmlnenepceabaa


namespace Go.Proofs.Ytnmlnenepceabaa
open Go.RowKit
theorem lessT_irrefl (x : TotV) : lessT x x = false := bl_irrefl _
def combL (c : Int → Int → Int) : List TotV → List TotV → List TotV
  | [], b => b
  | x :: a, [] => x :: a
  | x :: a, y :: b => if lessT x y = true then x :: combL c a (y :: b) else if lessT y x = true then y :: combL c (x :: a) b else ⟨x.key, c x.n y.n⟩ :: combL c a b
termination_by a b => a.length + b.length
theorem combL_nil (c : Int → Int → Int) (a : List TotV) : combL c a [] = a := by cases a <;> simp [combL]
theorem comb_first (c : Int → Int → Int) {x : TotV} {P b : List TotV} (h : ∀ z ∈ b, lessT x z = true) : combL c (x :: P) b = x :: combL c P b := by
  cases b with
  | nil => rw [combL_nil, combL_nil]
  | cons z b => rw [combL, if_pos (h z List.mem_cons_self)]
def putT (c : Int → Int → Int) : List TotV → TotV → List TotV
  | [], y => [y]
  | x :: l, y => if lessT x y = true then x :: putT c l y else if lessT y x = true then y :: x :: l else ⟨y.key, c x.n y.n⟩ :: l
theorem lessT_trans {x y z : TotV} (h1 : lessT x y = true) (h2 : lessT y z = true) : lessT x z = true := bl_trans h1 h2
theorem lessT_same {x y : TotV} (h1 : lessT x y = false) (h2 : lessT y x = false) : x.key = y.key := by
  rcases bl_total h1 with e | e
  · have h := e
    rw [ByteArray.toList_eq, ByteArray.toList_eq] at h
    exact ByteArray.ext (Array.toList_inj.1 h)
  · have h3 : lessT y x = true := e
    rw [h2] at h3
    cases h3
theorem lessT_key {x x' y : TotV} (h : x.key = x'.key) : lessT x y = lessT x' y := by unfold lessT; rw [h]
theorem put_comb (c : Int → Int → Int) {y : TotV} {b : List TotV} (h : ∀ z ∈ b, lessT y z = true) : ∀ a : List TotV, combL c (putT c a y) b = combL c a (y :: b)
  | [] => by
    rw [putT, comb_first c h]
    simp [combL]
  | x :: a => by
    rw [putT, combL]
    by_cases h1 : lessT x y = true
    · rw [if_pos h1, if_pos h1, comb_first c (fun z hz => lessT_trans h1 (h z hz)), put_comb c h a]
    · rw [if_neg h1, if_neg h1]
      by_cases h2 : lessT y x = true
      · rw [if_pos h2, if_pos h2, comb_first c h]
      · rw [if_neg h2, if_neg h2]
        have e := lessT_same (Bool.eq_false_iff.2 h1) (Bool.eq_false_iff.2 h2)
        rw [comb_first c (x := ⟨y.key, c x.n y.n⟩) (fun z hz => h z hz), e]
theorem puts_comb (c : Int → Int → Int) : ∀ {b : List TotV} (a : List TotV), b.Pairwise (fun x y => lessT x y = true) → b.foldl (putT c) a = combL c a b
  | [], a, _ => (combL_nil c a).symm
  | y :: b, a, h => by
    obtain ⟨h1, h2⟩ := List.pairwise_cons.1 h
    rw [List.foldl_cons, puts_comb c _ h2, put_comb c h1]
/-- One more total at the end: put together with the last one where the keys are the same. -/
def stepT (c : Int → Int → Int) (acc : List TotV) (x : TotV) : List TotV := match acc.getLast? with
  | none => [x]
  | some t => if (t.key.toList == x.key.toList) = true then acc.dropLast ++ [⟨t.key, c t.n x.n⟩] else acc ++ [x]
theorem stepT_nil (c : Int → Int → Int) (x : TotV) : stepT c [] x = [x] := rfl
theorem stepT_last (c : Int → Int → Int) (A : List TotV) (t x : TotV) : stepT c (A ++ [t]) x = if (t.key.toList == x.key.toList) = true then A ++ [⟨t.key, c t.n x.n⟩] else A ++ [t] ++ [x] := by
  simp [stepT]
def dedT (c : Int → Int → Int) : TotV → List TotV → List TotV
  | x, [] => [x]
  | x, y :: l => if (x.key.toList == y.key.toList) = true then dedT c ⟨x.key, c x.n y.n⟩ l else x :: dedT c y l
theorem fold_ded (c : Int → Int → Int) : ∀ (l A : List TotV) (x : TotV), l.foldl (stepT c) (A ++ [x]) = A ++ dedT c x l
  | [], A, x => rfl
  | y :: l, A, x => by
    rw [List.foldl_cons, stepT_last, dedT]
    by_cases h : (x.key.toList == y.key.toList) = true
    · rw [if_pos h, if_pos h, fold_ded c l A]
    · rw [if_neg h, if_neg h, fold_ded c l (A ++ [x]) y, List.append_assoc]
      rfl
def dedL (c : Int → Int → Int) : List TotV → List TotV
  | [] => []
  | x :: l => dedT c x l
theorem fold_dedL (c : Int → Int → Int) (l : List TotV) : l.foldl (stepT c) [] = dedL c l := by
  cases l with
  | nil => rfl
  | cons x l =>
    rw [List.foldl_cons, stepT_nil]
    exact fold_ded c l [] x
theorem ded_first (c : Int → Int → Int) {x : TotV} {M : List TotV} (h : ∀ m ∈ M, lessT x m = true) : dedT c x M = x :: dedL c M := by
  cases M with
  | nil => rfl
  | cons m M =>
    have h1 := h m List.mem_cons_self
    have hne : ¬ (x.key.toList == m.key.toList) = true := fun e => by
      unfold lessT at h1
      rw [eq_of_beq e, bl_irrefl] at h1
      cases h1
    rw [dedT, if_neg hne]
    rfl
abbrev RiseT (l : List TotV) : Prop := l.Pairwise fun x y => lessT x y = true
theorem merge_all {p : TotV → Prop} {a b : List TotV} (ha : ∀ x ∈ a, p x) (hb : ∀ x ∈ b, p x) : ∀ x ∈ mergeT a b, p x := fun x hx => by
  rcases List.mem_append.1 ((List.merge_perm_append leT).mem_iff.1 hx) with h | h
  · exact ha x h
  · exact hb x h
theorem ded_self (c : Int → Int → Int) : ∀ l : List TotV, RiseT l → dedL c l = l
  | [], _ => rfl
  | y :: b, hb => by
    obtain ⟨h1, h2⟩ := List.pairwise_cons.1 hb
    rw [dedL, ded_first c h1, ded_self c b h2]
theorem merge_comb (c : Int → Int → Int) : ∀ (n : Nat) (a b : List TotV), a.length + b.length ≤ n → RiseT a → RiseT b → dedL c (mergeT a b) = combL c a b
  | _, [], b, _, _, hb => by
    rw [mergeT_nil, combL]
    exact ded_self c b hb
  | _, x :: a, [], _, ha, _ => by
    rw [mergeT_none, combL_nil]
    exact ded_self c _ ha
  | 0, x :: a, y :: b, h, _, _ => by simp at h
  | n + 1, x :: a, y :: b, h, ha, hb => by
    have hl : a.length + b.length + 1 ≤ n := by simp only [List.length_cons] at h; omega
    obtain ⟨ha1, ha2⟩ := List.pairwise_cons.1 ha
    obtain ⟨hb1, hb2⟩ := List.pairwise_cons.1 hb
    rw [combL]
    by_cases h1 : lessT x y = true
    · have h2 : lessT y x = false := by
        cases h2 : lessT y x
        · rfl
        · have := lessT_trans h1 h2
          rw [lessT_irrefl] at this
          cases this
      rw [if_pos h1, mergeT_left _ _ h2, dedL, ded_first c, merge_comb c n a (y :: b) (by simp only [List.length_cons]; omega) ha2 hb]
      exact merge_all ha1 fun z hz => by
        rcases List.mem_cons.1 hz with rfl | hz
        · exact h1
        · exact lessT_trans h1 (hb1 z hz)
    · rw [if_neg h1]
      by_cases h2 : lessT y x = true
      · rw [if_pos h2, mergeT_right _ _ h2, dedL, ded_first c, merge_comb c n (x :: a) b (by simp only [List.length_cons]; omega) ha hb2]
        exact merge_all (fun z hz => by
          rcases List.mem_cons.1 hz with rfl | hz
          · exact h2
          · exact lessT_trans h2 (ha1 z hz)) hb1
      · have h1' := Bool.eq_false_iff.2 h1
        have h2' := Bool.eq_false_iff.2 h2
        have e := lessT_same h1' h2'
        rw [if_neg h2, mergeT_left _ _ h2']
        have e2 : mergeT a (y :: b) = y :: mergeT a b := by
          cases a with
          | nil => rw [mergeT_nil, mergeT_nil]
          | cons z a => exact mergeT_right _ _ (by rw [lessT_key e.symm]; exact ha1 z List.mem_cons_self)
        rw [e2, dedL, dedT, if_pos (by rw [e]; simp), ded_first c, merge_comb c n a b (by omega) ha2 hb2]
        exact merge_all (fun z hz => ha1 z hz) (fun z hz => by
          rw [lessT_key (x := ⟨x.key, c x.n y.n⟩) (x' := y) e]
          exact hb1 z hz)
theorem rise_of {ts : List TotV} (h : totsOk ts = true) : RiseT ts := by
  unfold totsOk at h
  rw [Bool.and_eq_true, List.all_eq_true] at h
  have hadj : ∀ j (hj : j + 1 < ts.length), lessT ts[j] ts[j + 1] = true := by
    intro j hj
    have h1 := h.2 (j + 1) (List.mem_range.2 hj)
    have e1 : ts[j + 1]? = some ts[j + 1] := List.getElem?_eq_getElem hj
    have e0 : ts[j]? = some ts[j] := List.getElem?_eq_getElem (by omega)
    simp only [okAt, e1, Nat.add_sub_cancel, e0, Bool.and_eq_true, Bool.or_eq_true, decide_eq_true_eq] at h1
    rcases h1.2 with h2 | h2
    · omega
    · exact h2
  refine List.pairwise_iff_getElem.2 fun i j hi hj hij => ?_
  obtain ⟨d, rfl⟩ : ∃ d, j = i + 1 + d := ⟨j - i - 1, by omega⟩
  clear hij
  induction d with
  | zero => exact hadj i hj
  | succ d ih => exact lessT_trans (ih (by omega)) (hadj (i + 1 + d) (by omega))
theorem comb_both (c : Int → Int → Int) {a b : List TotV} (ha : totsOk a = true) (hb : totsOk b = true) : (mergeT (mergeT [] a) b).foldl (stepT c) [] = combL c a b ∧ b.foldl (putT c) a = combL c a b := by
  rw [mergeT_nil, fold_dedL]
  exact ⟨merge_comb c _ a b (Nat.le_refl _) (rise_of ha) (rise_of hb), puts_comb c a (rise_of hb)⟩
end Go.Proofs.Ytnmlnenepceabaa

namespace Go.Proofs.Ytnmlnenepceabaa
open Go.RowKit
theorem capT {w : World} {base e s n c : Nat} {a : Option Addr} {xs : List Value} (h : w.ownsRow base e s (.slice a n c) n xs) : n ≤ c := by
  cases a with
  | none =>
    rcases h.2 with ⟨h0, h1⟩ | ⟨g', c', cur, hv, _⟩
    · first | omega | (injection h0; omega)
    · injection hv with e1; cases e1
  | some x =>
    rcases h.2 with ⟨h0, _⟩ | ⟨g', c', cur, hv, _, _, hnc, _⟩
    · cases h0
    · injection hv with _ _ e3; rw [e3]; exact hnc
def NumT (m : Int) (l : List TotV) : Prop := ∀ t ∈ l, 0 ≤ t.n ∧ t.n ≤ m
theorem step_bd {c : Int → Int → Int} (hc : ∀ x y, 0 ≤ x → 0 ≤ y → 0 ≤ c x y ∧ c x y ≤ x + y) {M m : Int} (hM : 0 ≤ M) {A : List TotV} {x : TotV} (hA : NumT M A) (hx : 0 ≤ x.n ∧ x.n ≤ m) : NumT (M + m) (stepT c A x) := by
  rcases List.eq_nil_or_concat A with rfl | ⟨B, t, rfl⟩
  · intro y hy
    rw [stepT_nil, List.mem_singleton] at hy
    subst hy
    exact ⟨hx.1, by omega⟩
  · rw [List.concat_eq_append] at hA ⊢
    have ht := hA t (by simp)
    rw [stepT_last]
    split
    · intro y hy
      rcases List.mem_append.1 hy with hy | hy
      · have := hA y (List.mem_append_left _ hy)
        omega
      · rw [List.mem_singleton] at hy
        subst hy
        have := hc t.n x.n ht.1 hx.1
        exact ⟨this.1, by show c t.n x.n ≤ _; omega⟩
    · intro y hy
      rcases List.mem_append.1 hy with hy | hy
      · have := hA y hy
        omega
      · rw [List.mem_singleton] at hy
        subst hy
        exact ⟨hx.1, by omega⟩
def accT (c : Int → Int → Int) (l : List TotV) (k : Nat) : List TotV := (l.take k).foldl (stepT c) []
theorem accT_succ (c : Int → Int → Int) {l : List TotV} {k : Nat} {x : TotV} (h : l[k]? = some x) : accT c l (k + 1) = stepT c (accT c l k) x := by
  unfold accT
  rw [List.take_add_one, h, Option.toList_some, List.foldl_append]
  rfl
theorem stepT_len (c : Int → Int → Int) (A : List TotV) (x : TotV) : (stepT c A x).length ≤ A.length + 1 := by
  rcases List.eq_nil_or_concat A with rfl | ⟨B, t, rfl⟩
  · rw [stepT_nil]; simp
  · rw [List.concat_eq_append, stepT_last]
    split <;> simp
theorem accT_bd {c : Int → Int → Int} (hc : ∀ x y, 0 ≤ x → 0 ≤ y → 0 ≤ c x y ∧ c x y ≤ x + y) {l : List TotV} (h : NumT 999999999999 l) : ∀ k : Nat, k ≤ l.length → NumT (999999999999 * (k : Int)) (accT c l k) ∧ (accT c l k).length ≤ k
  | 0, _ => ⟨fun t ht => by simp [accT] at ht, by simp [accT]⟩
  | k + 1, hk => by
    obtain ⟨ih, ih2⟩ := accT_bd hc h k (by omega)
    have hx : l[k]? = some l[k] := List.getElem?_eq_getElem (by omega)
    have e : (999999999999 : Int) * ((k + 1 : Nat) : Int) = 999999999999 * (k : Int) + 999999999999 := by push_cast; omega
    have hl := stepT_len c (accT c l k) l[k]
    rw [accT_succ c hx, e]
    exact ⟨step_bd hc (by omega) ih (h _ (List.getElem_mem _)), by omega⟩
theorem merge_num {m : Int} {a b : List TotV} (ha : NumT m a) (hb : NumT m b) : NumT m (mergeT a b) := merge_all (p := fun t => 0 ≤ t.n ∧ t.n ≤ m) ha hb
theorem flatT_two (A : List TotV) (t : TotV) : flatT (A ++ [t]) = flatT A ++ [.string t.key, .int .i64 t.n] := by rw [flatT_append]; rfl
theorem flatT_setlast (A : List TotV) (t : TotV) (n : Int) : (flatT (A ++ [t])).set (A.length * 2 + 1) (.int .i64 n) = flatT (A ++ [⟨t.key, n⟩]) := by
  rw [flatT_two, flatT_two, List.set_append_right _ _ (by rw [flatT_length]; omega), flatT_length, show A.length * 2 + 1 - A.length * 2 = 1 by omega]
  rfl
theorem own_set1 {w : World} {base e s n g cap k : Nat} {xs : List Value} (h : w.ownsRow base e s (.slice (some ⟨g, 0, none⟩) n cap) n xs) (a : Value) :
    (w.setCell ⟨g, k, none⟩ a).ownsRow base e s (.slice (some ⟨g, 0, none⟩) n cap) n (xs.set k a) := (h.stored k a).1
set_option maxRecDepth 100000 in
theorem plusC_any (x y : Int) (w : World) (_hx : 0 ≤ x ∧ x ≤ 1000000000000000) (_hy : 0 ≤ y ∧ y ≤ 1000000000000000) : Calls Try.prog 106 #[.int .i64 x, .int .i64 y] w fun e w' => e = .returned (.int .i64 (x + y)) ∧ w' = w := by
  have hw : IntKind.i64.wrap (x + y) = x + y := IntWalk.i64_in _ (by omega)
  go_enter Try.func106, Try.ntmps106
  go_wp2
  go_ret
  exact ⟨by simp [go_sem], rfl⟩
set_option maxRecDepth 100000 in
set_option maxHeartbeats 4000000 in
theorem by_plus (a b : Option Addr) (na ca nb cb : Nat) (X Y : List TotV) (w : World) (ha : na ≤ 120) (hb0 : nb ≤ 120) (hX : Rd w w.heap.size 2 a na (flatT X)) (hY : Rd w w.heap.size 2 b nb (flatT Y)) (hnX : NumT 999999999999 X) (hnY : NumT 999999999999 Y) :
    Calls Try.prog 96 #[.slice a na ca, .slice b nb cb, .func (.func 106) #[] #[]] w fun e w' => ∃ d q c, e = .returned (.slice d q c) ∧ (accT (fun x y => x + y) (mergeT (mergeT [] X) Y) (na + nb)).length = q ∧ Below w.heap.size w w' ∧ w'.ownsRow w.heap.size 45 2 (.slice d q c) q (flatT (accT (fun x y => x + y) (mergeT (mergeT [] X) Y) (na + nb))) := by
  obtain ⟨i0, hi, hz0, hz1, hz2⟩ := info_parts infoTotal
  have hXl := hX.tots_length
  have hYl := hY.tots_length
  have hNI := merge_num (merge_num (a := []) (fun _ h => by cases h) hnX) hnY
  have hIl : (mergeT (mergeT [] X) Y).length = na + nb := by rw [mergeT_length, mergeT_length, hXl, hYl]; simp
  have hBD := Lib.hid (accT_bd (c := (fun x y => x + y)) (fun x y hx hy => by first | (constructor <;> (show _ ≤ _; omega)) | (show _ ∧ _; omega)) hNI)
  have hIB := Lib.hid hNI
  have hb1 := bl1 w (.cells #[.func (.func 131) #[] #[], .slice none 0 0] 164)
  have L0 := SlT.new w (.slice none 0 0) 164
  have X1 := (hX.below hb1 (Nat.le_refl _)).more hb1.size
  clear hX hnX hnY hNI
  go_enter Try.func96, Try.ntmps96
  go_wp2_with fail
  generalize w.alloc (.cells #[.func (.func 131) #[] #[], .slice none 0 0] 164) = w1 at *
  refine (mergeT_any w.heap.size none 0 0 [] a na ca X w1 (by omega) (by omega) (Nat.le_refl _) L0 ⟨rfl, fun h => absurd h (by omega)⟩ X1).mono ?_
  rintro e w2 ⟨⟨v, rfl⟩, a2, c2, L2, G2, O2⟩
  have hb2 := hb1.trans (gb_below G2 hb1.size (fun g e => Nat.le_of_eq (Option.some.inj e)))
  have hlt2 := L2.lt
  have Y2 := (hY.below hb2 (Nat.le_refl _)).more hb2.size
  have hc2 := capT O2
  have I2 := Rd.of_own O2
  go_wp2_with fail
  refine (mergeT_any w.heap.size a2 (0 + na) c2 (mergeT [] X) b nb cb Y w2 (by omega) (by omega) hc2 L2 I2 Y2).mono ?_
  rintro e w3 ⟨⟨v, rfl⟩, a3, c3, L3, G3, O3⟩
  have hb3 := hb2.trans (gb_below G3 hb2.size (fun g e => Nat.le_of_eq (Option.some.inj e)))
  have I3 := Rd.of_own O3
  obtain ⟨p0, p1⟩ := L3.cells
  rw [Nat.zero_add] at p1 I3
  obtain ⟨IT, hIT⟩ : ∃ IT, mergeT (mergeT [] X) Y = IT := ⟨_, rfl⟩
  rw [hIT] at I3 hIl hBD hIB
  have HT := Lib.hid hIT
  clear hIT
  obtain ⟨N, hN⟩ : ∃ N, na + nb = N := ⟨_, rfl⟩
  rw [hN] at p1 I3 hIl
  have hN2 : N ≤ 240 := by omega
  have HN := Lib.hid hN
  have HIL := Lib.hid hIl
  clear L0 X1 hY O2 I2 Y2 G2 L2 G3 O3 L3 hc2 hb1 hb2 hN hIl hXl hYl
  go_wp2_with fail
  go_loopw [8, 20] (fun v i wr => ∃ (k q c : Nat) (d : Option Addr), k ≤ N ∧ i = .int .i64 k ∧ v = .slice d q c ∧ Hid ((accT (fun x y => x + y) IT k).length = q) ∧ wr.ownsRow w3.heap.size 45 2 (.slice d q c) q (flatT (accT (fun x y => x + y) IT k)) ∧ Below w3.heap.size w3 wr) (fun _ i _ => N - (intOf i).toNat)
  case atStart => exact ⟨0, 0, 0, none, Nat.zero_le _, rfl, rfl, Lib.hid rfl, World.ownsRow_nil _ _ _ _, Below.refl _ _⟩
  case round =>
    obtain ⟨k, q, c, d, hk, rfl, rfl, HQ, hO, hb⟩ := hrel
    by_cases hlt : k < N
    · obtain ⟨b1, o1, x, rfl, hB1, hx, c0, c1⟩ := (I3.below hb (Nat.le_refl _)).tot hlt
      have hxb := hIB.out x (List.mem_of_getElem? hx)
      have HS := Lib.hid (accT_succ (fun x y => x + y) hx)
      obtain ⟨hab, hal⟩ := hBD.out k (by rw [HIL.out]; omega)
      have HA2 := HIL.out
      rw [HQ.out] at hal
      have hb2 := bl1 wr (.cells #[.string x.key, .int .i64 x.n] 45)
      have hO2 := own_below hO hb2
      have hB2 := hb.trans (hb2.mono hb.size)
      have hX0 : (wr.alloc (.cells #[.string x.key, .int .i64 x.n] 45)).cell? ⟨wr.heap.size, 0, none⟩ = some (.string x.key) := by simp [go_sem]
      have hX1 : (wr.alloc (.cells #[.string x.key, .int .i64 x.n] 45)).cell? ⟨wr.heap.size, 1, none⟩ = some (.int .i64 x.n) := by simp [go_sem]
      have hNX : ∀ g, (Value.slice d q c).ownBlock = some g → g ≠ wr.heap.size := fun g e => by have := (own_ge hO g e).2; omega
      generalize accT (fun x y => x + y) IT k = A at *
      have hlx : wr.heap.size < (wr.alloc (.cells #[.string x.key, .int .i64 x.n] 45)).heap.size := by simp
      obtain ⟨xk, xn⟩ := x
      simp only at c0 c1 hxb hX0 hX1 hO2 hB2 hb2 hlx
      rcases List.eq_nil_or_concat A with rfl | ⟨A, t, rfl⟩
      · obtain rfl : 0 = q := HQ.out
        have HE := Lib.hid (show accT (fun x y => x + y) IT (k + 1) = [] ++ [⟨xk, xn⟩] from HS.out)
        clear hO hb hb2 hx
        go_wp2_with fail
        generalize wr.alloc (.cells #[.string xk, .int .i64 xn] 45) = w4 at *
        generalize wr.heap.size = xa at *
        go_quiet (fail)
        have hbw : Below w4.heap.size w4 (w4.drewN nq) := below_drewN (Below.refl _ _) nq
        have hb5 := hB2.trans (hbw.mono hB2.size)
        have O4 := own_below hO2 hbw
        have y0 := (hbw.cell (p := ⟨xa, 0, none⟩) hlx).trans hX0
        have y1 := (hbw.cell (p := ⟨xa, 1, none⟩) hlx).trans hX1
        clear hbw hX0 hX1 hlx hO2 hB2 hNX
        generalize w4.drewN nq = w5 at *
        have hg8 : w3.heap.size ≤ w5.heap.size := hb5.size
        have hq1 : 0 + 1 ≤ maxLen := by unfold maxLen; omega
        have hq2 : (0 + 1) * 24 ≤ 140737488355328 := by omega
        go_wp2_with (at_builtin; refine wpList_append_own_at _ rfl _ _ 24 rfl w3.heap.size 45 i0 (.agg #[.string ⟨#[]⟩, .int .i64 0]) 2 24 Try.underlying24 hi hz0 hz1 hz2 rfl (by decide) (.slice d 0 c) _ _ rfl (O4.alloc _) ⟨w5.heap.size, 0, none⟩ 1 1 [.string xk, .int .i64 xn] rfl rfl (cell_totM w5 ⟨xk, xn⟩ _) (by simp [Value.oneCell']) hq1 hq2 (Nat.le_trans hg8 (bl1 w5 _).size) ?_; intro v' w6 hO6 hg6 _ hat; refine haltT_ ?_)
        refine unhaltT_ ?_
        obtain ⟨a', cap', rfl⟩ := own_slice' hO6
        have hb6 := below_grown1 hb5 O4 hg6
        have hO7 : w6.ownsRow w3.heap.size 45 2 (.slice a' (0 + 1) cap') (0 + 1) (flatT ([] ++ [⟨xk, xn⟩])) := by rw [flatT_two]; exact hO6
        clear hg6 hat O4 hO6 hb5 y0 y1
        go_wp2_with fail
        go_roundw
        case rel => exact ⟨k + 1, 0 + 1, cap', a', by omega, by go_num, rfl, Lib.hid (by rw [HE.out]; rfl), by rw [HE.out]; exact hO7, hb6⟩
        case measure => simp [intOf]; omega
      · rw [List.concat_eq_append] at *
        obtain ⟨p, hp⟩ : ∃ p, A.length = p := ⟨_, rfl⟩
        obtain rfl : p + 1 = q := by rw [← HQ.out, List.length_append, hp]; rfl
        have ht := hab t (by simp)
        obtain ⟨g, rfl, hg0, hg1⟩ := own_form hO2 (by omega)
        have hga : g ≠ wr.heap.size := hNX g rfl
        have hgt : (A ++ [t])[p]? = some t := by rw [List.getElem?_append_right (by omega), hp]; simp
        have hfl := flatT_get _ p t hgt
        have d0 := (hO2.cellAt (p * 2) (by omega)).trans hfl.1
        have d1 := (hO2.cellAt (p * 2 + 1) (by omega)).trans hfl.2
        have f1 := hO2.frozenAt (p * 2 + 1)
        have HSS := Lib.hid (HS.out.trans (stepT_last (fun x y => x + y) A t ⟨xk, xn⟩))
        have HP := Lib.hid hp
        obtain ⟨tk, tn⟩ := t
        simp only at d0 d1 ht
        clear hO hb hb2 hx hgt hfl HS hab hp
        have z3 : IntKind.i64.wrap ((p : Int) + 1 - 1) = (p : Int) := by rw [show (p : Int) + 1 - 1 = (p : Int) by omega]; exact IntWalk.i64_in _ (by omega)
        have z4 : decide ((0 : Int) ≤ (p : Int)) = true := decide_eq_true (by omega)
        have z5 : decide ((p : Int) < 0) = false := decide_eq_false (by omega)
        cases hq : (tk.toList == xk.toList)
        · have hd2 : (tk == xk) = false := by rw [beq_toListBytes]; exact hq
          have HE := Lib.hid (show accT (fun x y => x + y) IT (k + 1) = (A ++ [⟨tk, tn⟩]) ++ [⟨xk, xn⟩] by rw [HSS.out, if_neg (by show ¬ (tk.toList == xk.toList) = true; rw [hq]; decide)])
          clear HSS
          go_wp2_with fail
          generalize wr.alloc (.cells #[.string xk, .int .i64 xn] 45) = w4 at *
          generalize wr.heap.size = xa at *
          go_quiet (fail)
          clear d0 d1 f1 z3 z4 z5
          have hbw : Below w4.heap.size w4 (w4.drewN nq) := below_drewN (Below.refl _ _) nq
          have hb5 := hB2.trans (hbw.mono hB2.size)
          have O4 := own_below hO2 hbw
          have y0 := (hbw.cell (p := ⟨xa, 0, none⟩) hlx).trans hX0
          have y1 := (hbw.cell (p := ⟨xa, 1, none⟩) hlx).trans hX1
          clear hbw hX0 hX1 hlx hO2 hB2 hNX
          generalize w4.drewN nq = w5 at *
          have hg8 : w3.heap.size ≤ w5.heap.size := hb5.size
          have hq1 : (p + 1) + 1 ≤ maxLen := by unfold maxLen; omega
          have hq2 : ((p + 1) + 1) * 24 ≤ 140737488355328 := by omega
          go_wp2_with (at_builtin; refine wpList_append_own_at _ rfl _ _ 24 rfl w3.heap.size 45 i0 (.agg #[.string ⟨#[]⟩, .int .i64 0]) 2 24 Try.underlying24 hi hz0 hz1 hz2 rfl (by decide) (.slice (some ⟨g, 0, none⟩) (p + 1) c) _ _ rfl (O4.alloc _) ⟨w5.heap.size, 0, none⟩ 1 1 [.string xk, .int .i64 xn] rfl rfl (cell_totM w5 ⟨xk, xn⟩ _) (by simp [Value.oneCell']) hq1 hq2 (Nat.le_trans hg8 (bl1 w5 _).size) ?_; intro v' w6 hO6 hg6 _ hat; refine haltT_ ?_)
          refine unhaltT_ ?_
          obtain ⟨a', cap', rfl⟩ := own_slice' hO6
          have hb6 := below_grown1 hb5 O4 hg6
          have hO7 : w6.ownsRow w3.heap.size 45 2 (.slice a' ((p + 1) + 1) cap') ((p + 1) + 1) (flatT ((A ++ [⟨tk, tn⟩]) ++ [⟨xk, xn⟩])) := by rw [flatT_two]; exact hO6
          clear hg6 hat O4 hO6 hb5 y0 y1
          go_wp2_with fail
          go_roundw
          case rel => exact ⟨k + 1, (p + 1) + 1, cap', a', by omega, by go_num, rfl, Lib.hid (by rw [HE.out]; simp [HP.out]), by rw [HE.out]; exact hO7, hb6⟩
          case measure => simp [intOf]; omega
        · have hd2 : (tk == xk) = true := by rw [beq_toListBytes]; exact hq
          have HE := Lib.hid (show accT (fun x y => x + y) IT (k + 1) = A ++ [⟨tk, tn + xn⟩] by rw [HSS.out, if_pos (by show (tk.toList == xk.toList) = true; exact hq)])
          clear HSS
          go_wp2_with fail
          generalize wr.alloc (.cells #[.string xk, .int .i64 xn] 45) = w4 at *
          generalize wr.heap.size = xa at *
          go_quiet (fail)
          have hbw : Below w4.heap.size w4 (w4.drewN nq) := below_drewN (Below.refl _ _) nq
          have hb5 := hB2.trans (hbw.mono hB2.size)
          have O4 := own_below hO2 hbw
          have y1 := (hbw.cell (p := ⟨xa, 1, none⟩) hlx).trans hX1
          have e1 := (hbw.cell (p := ⟨g, p * 2 + 1, none⟩) hg1).trans d1
          have f2 := O4.frozenAt (p * 2 + 1)
          clear hbw hX0 hX1 hlx hO2 hB2 hNX d0 d1 f1
          generalize w4.drewN nq = w5 at *
          go_wp2_with fail
          go_region_with (go_at_call 106; refine (plusC_any tn xn _ ⟨by omega, by omega⟩ ⟨by omega, by omega⟩).mono ?_; rintro e w' ⟨rfl, rfl⟩)
          all_goals
            have O6 := own_set1 (k := p * 2 + 1) O4 (.int .i64 (tn + xn))
            have e6 : (flatT (A ++ [⟨tk, tn⟩])).set (p * 2 + 1) (.int .i64 (tn + xn)) = flatT (A ++ [⟨tk, tn + xn⟩]) := by rw [← HP.out]; exact flatT_setlast A ⟨tk, tn⟩ _
            rw [e6] at O6
            have hb6 := (hb5.setCell (p := ⟨g, p * 2 + 1, none⟩) hg0 (.int .i64 (tn + xn))).drew
            have O7 := own_below O6 (Below.refl (w5.setCell ⟨g, p * 2 + 1, none⟩ (.int .i64 (tn + xn))).heap.size (w5.setCell ⟨g, p * 2 + 1, none⟩ (.int .i64 (tn + xn)))).drew
            clear O4 O6 e6 hb5 y1 e1 f2
            generalize (w5.setCell ⟨g, p * 2 + 1, none⟩ (.int .i64 (tn + xn))).drew = w6 at *
            go_wp2_with fail
            go_roundw
            case rel => exact ⟨k + 1, p + 1, c, some ⟨g, 0, none⟩, by omega, by go_num, rfl, Lib.hid (by rw [HE.out]; simp [HP.out]), by rw [HE.out]; exact O7, hb6⟩
            case measure => simp [intOf]; omega
    · obtain rfl : k = N := by omega
      have HR := HQ.out
      have hb9 := hb3.trans (hb.mono hb3.size)
      have O9 := own_base' hO hb3.size
      rw [← HN.out, ← HT.out] at HR O9
      clear hO hb HQ p0 p1
      go_wp2_with fail
      go_ret
      exact ⟨d, q, c, rfl, HR, hb9, O9⟩
set_option maxRecDepth 100000 in
theorem lesserC_any (x y : Int) (w : World) (_hx : 0 ≤ x ∧ x ≤ 1000000000000000) (_hy : 0 ≤ y ∧ y ≤ 1000000000000000) : Calls Try.prog 108 #[.int .i64 x, .int .i64 y] w fun e w' => e = .returned (.int .i64 (min x y)) ∧ w' = w := by
  go_enter Try.func108, Try.ntmps108
  go_wp2
  go_ret
  exact ⟨rfl, rfl⟩
set_option maxRecDepth 100000 in
set_option maxHeartbeats 4000000 in
theorem by_lesser (a b : Option Addr) (na ca nb cb : Nat) (X Y : List TotV) (w : World) (ha : na ≤ 120) (hb0 : nb ≤ 120) (hX : Rd w w.heap.size 2 a na (flatT X)) (hY : Rd w w.heap.size 2 b nb (flatT Y)) (hnX : NumT 999999999999 X) (hnY : NumT 999999999999 Y) :
    Calls Try.prog 96 #[.slice a na ca, .slice b nb cb, .func (.func 108) #[] #[]] w fun e w' => ∃ d q c, e = .returned (.slice d q c) ∧ (accT (min) (mergeT (mergeT [] X) Y) (na + nb)).length = q ∧ Below w.heap.size w w' ∧ w'.ownsRow w.heap.size 45 2 (.slice d q c) q (flatT (accT (min) (mergeT (mergeT [] X) Y) (na + nb))) := by
  obtain ⟨i0, hi, hz0, hz1, hz2⟩ := info_parts infoTotal
  have hXl := hX.tots_length
  have hYl := hY.tots_length
  have hNI := merge_num (merge_num (a := []) (fun _ h => by cases h) hnX) hnY
  have hIl : (mergeT (mergeT [] X) Y).length = na + nb := by rw [mergeT_length, mergeT_length, hXl, hYl]; simp
  have hBD := Lib.hid (accT_bd (c := (min)) (fun x y hx hy => by first | (constructor <;> (show _ ≤ _; omega)) | (show _ ∧ _; omega)) hNI)
  have hIB := Lib.hid hNI
  have hb1 := bl1 w (.cells #[.func (.func 131) #[] #[], .slice none 0 0] 164)
  have L0 := SlT.new w (.slice none 0 0) 164
  have X1 := (hX.below hb1 (Nat.le_refl _)).more hb1.size
  clear hX hnX hnY hNI
  go_enter Try.func96, Try.ntmps96
  go_wp2_with fail
  generalize w.alloc (.cells #[.func (.func 131) #[] #[], .slice none 0 0] 164) = w1 at *
  refine (mergeT_any w.heap.size none 0 0 [] a na ca X w1 (by omega) (by omega) (Nat.le_refl _) L0 ⟨rfl, fun h => absurd h (by omega)⟩ X1).mono ?_
  rintro e w2 ⟨⟨v, rfl⟩, a2, c2, L2, G2, O2⟩
  have hb2 := hb1.trans (gb_below G2 hb1.size (fun g e => Nat.le_of_eq (Option.some.inj e)))
  have hlt2 := L2.lt
  have Y2 := (hY.below hb2 (Nat.le_refl _)).more hb2.size
  have hc2 := capT O2
  have I2 := Rd.of_own O2
  go_wp2_with fail
  refine (mergeT_any w.heap.size a2 (0 + na) c2 (mergeT [] X) b nb cb Y w2 (by omega) (by omega) hc2 L2 I2 Y2).mono ?_
  rintro e w3 ⟨⟨v, rfl⟩, a3, c3, L3, G3, O3⟩
  have hb3 := hb2.trans (gb_below G3 hb2.size (fun g e => Nat.le_of_eq (Option.some.inj e)))
  have I3 := Rd.of_own O3
  obtain ⟨p0, p1⟩ := L3.cells
  rw [Nat.zero_add] at p1 I3
  obtain ⟨IT, hIT⟩ : ∃ IT, mergeT (mergeT [] X) Y = IT := ⟨_, rfl⟩
  rw [hIT] at I3 hIl hBD hIB
  have HT := Lib.hid hIT
  clear hIT
  obtain ⟨N, hN⟩ : ∃ N, na + nb = N := ⟨_, rfl⟩
  rw [hN] at p1 I3 hIl
  have hN2 : N ≤ 240 := by omega
  have HN := Lib.hid hN
  have HIL := Lib.hid hIl
  clear L0 X1 hY O2 I2 Y2 G2 L2 G3 O3 L3 hc2 hb1 hb2 hN hIl hXl hYl
  go_wp2_with fail
  go_loopw [8, 20] (fun v i wr => ∃ (k q c : Nat) (d : Option Addr), k ≤ N ∧ i = .int .i64 k ∧ v = .slice d q c ∧ Hid ((accT (min) IT k).length = q) ∧ wr.ownsRow w3.heap.size 45 2 (.slice d q c) q (flatT (accT (min) IT k)) ∧ Below w3.heap.size w3 wr) (fun _ i _ => N - (intOf i).toNat)
  case atStart => exact ⟨0, 0, 0, none, Nat.zero_le _, rfl, rfl, Lib.hid rfl, World.ownsRow_nil _ _ _ _, Below.refl _ _⟩
  case round =>
    obtain ⟨k, q, c, d, hk, rfl, rfl, HQ, hO, hb⟩ := hrel
    by_cases hlt : k < N
    · obtain ⟨b1, o1, x, rfl, hB1, hx, c0, c1⟩ := (I3.below hb (Nat.le_refl _)).tot hlt
      have hxb := hIB.out x (List.mem_of_getElem? hx)
      have HS := Lib.hid (accT_succ (min) hx)
      obtain ⟨hab, hal⟩ := hBD.out k (by rw [HIL.out]; omega)
      have HA2 := HIL.out
      rw [HQ.out] at hal
      have hb2 := bl1 wr (.cells #[.string x.key, .int .i64 x.n] 45)
      have hO2 := own_below hO hb2
      have hB2 := hb.trans (hb2.mono hb.size)
      have hX0 : (wr.alloc (.cells #[.string x.key, .int .i64 x.n] 45)).cell? ⟨wr.heap.size, 0, none⟩ = some (.string x.key) := by simp [go_sem]
      have hX1 : (wr.alloc (.cells #[.string x.key, .int .i64 x.n] 45)).cell? ⟨wr.heap.size, 1, none⟩ = some (.int .i64 x.n) := by simp [go_sem]
      have hNX : ∀ g, (Value.slice d q c).ownBlock = some g → g ≠ wr.heap.size := fun g e => by have := (own_ge hO g e).2; omega
      generalize accT (min) IT k = A at *
      have hlx : wr.heap.size < (wr.alloc (.cells #[.string x.key, .int .i64 x.n] 45)).heap.size := by simp
      obtain ⟨xk, xn⟩ := x
      simp only at c0 c1 hxb hX0 hX1 hO2 hB2 hb2 hlx
      rcases List.eq_nil_or_concat A with rfl | ⟨A, t, rfl⟩
      · obtain rfl : 0 = q := HQ.out
        have HE := Lib.hid (show accT (min) IT (k + 1) = [] ++ [⟨xk, xn⟩] from HS.out)
        clear hO hb hb2 hx
        go_wp2_with fail
        generalize wr.alloc (.cells #[.string xk, .int .i64 xn] 45) = w4 at *
        generalize wr.heap.size = xa at *
        go_quiet (fail)
        have hbw : Below w4.heap.size w4 (w4.drewN nq) := below_drewN (Below.refl _ _) nq
        have hb5 := hB2.trans (hbw.mono hB2.size)
        have O4 := own_below hO2 hbw
        have y0 := (hbw.cell (p := ⟨xa, 0, none⟩) hlx).trans hX0
        have y1 := (hbw.cell (p := ⟨xa, 1, none⟩) hlx).trans hX1
        clear hbw hX0 hX1 hlx hO2 hB2 hNX
        generalize w4.drewN nq = w5 at *
        have hg8 : w3.heap.size ≤ w5.heap.size := hb5.size
        have hq1 : 0 + 1 ≤ maxLen := by unfold maxLen; omega
        have hq2 : (0 + 1) * 24 ≤ 140737488355328 := by omega
        go_wp2_with (at_builtin; refine wpList_append_own_at _ rfl _ _ 24 rfl w3.heap.size 45 i0 (.agg #[.string ⟨#[]⟩, .int .i64 0]) 2 24 Try.underlying24 hi hz0 hz1 hz2 rfl (by decide) (.slice d 0 c) _ _ rfl (O4.alloc _) ⟨w5.heap.size, 0, none⟩ 1 1 [.string xk, .int .i64 xn] rfl rfl (cell_totM w5 ⟨xk, xn⟩ _) (by simp [Value.oneCell']) hq1 hq2 (Nat.le_trans hg8 (bl1 w5 _).size) ?_; intro v' w6 hO6 hg6 _ hat; refine haltT_ ?_)
        refine unhaltT_ ?_
        obtain ⟨a', cap', rfl⟩ := own_slice' hO6
        have hb6 := below_grown1 hb5 O4 hg6
        have hO7 : w6.ownsRow w3.heap.size 45 2 (.slice a' (0 + 1) cap') (0 + 1) (flatT ([] ++ [⟨xk, xn⟩])) := by rw [flatT_two]; exact hO6
        clear hg6 hat O4 hO6 hb5 y0 y1
        go_wp2_with fail
        go_roundw
        case rel => exact ⟨k + 1, 0 + 1, cap', a', by omega, by go_num, rfl, Lib.hid (by rw [HE.out]; rfl), by rw [HE.out]; exact hO7, hb6⟩
        case measure => simp [intOf]; omega
      · rw [List.concat_eq_append] at *
        obtain ⟨p, hp⟩ : ∃ p, A.length = p := ⟨_, rfl⟩
        obtain rfl : p + 1 = q := by rw [← HQ.out, List.length_append, hp]; rfl
        have ht := hab t (by simp)
        obtain ⟨g, rfl, hg0, hg1⟩ := own_form hO2 (by omega)
        have hga : g ≠ wr.heap.size := hNX g rfl
        have hgt : (A ++ [t])[p]? = some t := by rw [List.getElem?_append_right (by omega), hp]; simp
        have hfl := flatT_get _ p t hgt
        have d0 := (hO2.cellAt (p * 2) (by omega)).trans hfl.1
        have d1 := (hO2.cellAt (p * 2 + 1) (by omega)).trans hfl.2
        have f1 := hO2.frozenAt (p * 2 + 1)
        have HSS := Lib.hid (HS.out.trans (stepT_last (min) A t ⟨xk, xn⟩))
        have HP := Lib.hid hp
        obtain ⟨tk, tn⟩ := t
        simp only at d0 d1 ht
        clear hO hb hb2 hx hgt hfl HS hab hp
        have z3 : IntKind.i64.wrap ((p : Int) + 1 - 1) = (p : Int) := by rw [show (p : Int) + 1 - 1 = (p : Int) by omega]; exact IntWalk.i64_in _ (by omega)
        have z4 : decide ((0 : Int) ≤ (p : Int)) = true := decide_eq_true (by omega)
        have z5 : decide ((p : Int) < 0) = false := decide_eq_false (by omega)
        cases hq : (tk.toList == xk.toList)
        · have hd2 : (tk == xk) = false := by rw [beq_toListBytes]; exact hq
          have HE := Lib.hid (show accT (min) IT (k + 1) = (A ++ [⟨tk, tn⟩]) ++ [⟨xk, xn⟩] by rw [HSS.out, if_neg (by show ¬ (tk.toList == xk.toList) = true; rw [hq]; decide)])
          clear HSS
          go_wp2_with fail
          generalize wr.alloc (.cells #[.string xk, .int .i64 xn] 45) = w4 at *
          generalize wr.heap.size = xa at *
          go_quiet (fail)
          clear d0 d1 f1 z3 z4 z5
          have hbw : Below w4.heap.size w4 (w4.drewN nq) := below_drewN (Below.refl _ _) nq
          have hb5 := hB2.trans (hbw.mono hB2.size)
          have O4 := own_below hO2 hbw
          have y0 := (hbw.cell (p := ⟨xa, 0, none⟩) hlx).trans hX0
          have y1 := (hbw.cell (p := ⟨xa, 1, none⟩) hlx).trans hX1
          clear hbw hX0 hX1 hlx hO2 hB2 hNX
          generalize w4.drewN nq = w5 at *
          have hg8 : w3.heap.size ≤ w5.heap.size := hb5.size
          have hq1 : (p + 1) + 1 ≤ maxLen := by unfold maxLen; omega
          have hq2 : ((p + 1) + 1) * 24 ≤ 140737488355328 := by omega
          go_wp2_with (at_builtin; refine wpList_append_own_at _ rfl _ _ 24 rfl w3.heap.size 45 i0 (.agg #[.string ⟨#[]⟩, .int .i64 0]) 2 24 Try.underlying24 hi hz0 hz1 hz2 rfl (by decide) (.slice (some ⟨g, 0, none⟩) (p + 1) c) _ _ rfl (O4.alloc _) ⟨w5.heap.size, 0, none⟩ 1 1 [.string xk, .int .i64 xn] rfl rfl (cell_totM w5 ⟨xk, xn⟩ _) (by simp [Value.oneCell']) hq1 hq2 (Nat.le_trans hg8 (bl1 w5 _).size) ?_; intro v' w6 hO6 hg6 _ hat; refine haltT_ ?_)
          refine unhaltT_ ?_
          obtain ⟨a', cap', rfl⟩ := own_slice' hO6
          have hb6 := below_grown1 hb5 O4 hg6
          have hO7 : w6.ownsRow w3.heap.size 45 2 (.slice a' ((p + 1) + 1) cap') ((p + 1) + 1) (flatT ((A ++ [⟨tk, tn⟩]) ++ [⟨xk, xn⟩])) := by rw [flatT_two]; exact hO6
          clear hg6 hat O4 hO6 hb5 y0 y1
          go_wp2_with fail
          go_roundw
          case rel => exact ⟨k + 1, (p + 1) + 1, cap', a', by omega, by go_num, rfl, Lib.hid (by rw [HE.out]; simp [HP.out]), by rw [HE.out]; exact hO7, hb6⟩
          case measure => simp [intOf]; omega
        · have hd2 : (tk == xk) = true := by rw [beq_toListBytes]; exact hq
          have HE := Lib.hid (show accT (min) IT (k + 1) = A ++ [⟨tk, min tn xn⟩] by rw [HSS.out, if_pos (by show (tk.toList == xk.toList) = true; exact hq)])
          clear HSS
          go_wp2_with fail
          generalize wr.alloc (.cells #[.string xk, .int .i64 xn] 45) = w4 at *
          generalize wr.heap.size = xa at *
          go_quiet (fail)
          have hbw : Below w4.heap.size w4 (w4.drewN nq) := below_drewN (Below.refl _ _) nq
          have hb5 := hB2.trans (hbw.mono hB2.size)
          have O4 := own_below hO2 hbw
          have y1 := (hbw.cell (p := ⟨xa, 1, none⟩) hlx).trans hX1
          have e1 := (hbw.cell (p := ⟨g, p * 2 + 1, none⟩) hg1).trans d1
          have f2 := O4.frozenAt (p * 2 + 1)
          clear hbw hX0 hX1 hlx hO2 hB2 hNX d0 d1 f1
          generalize w4.drewN nq = w5 at *
          go_wp2_with fail
          go_region_with (go_at_call 108; refine (lesserC_any tn xn _ ⟨by omega, by omega⟩ ⟨by omega, by omega⟩).mono ?_; rintro e w' ⟨rfl, rfl⟩)
          all_goals
            have O6 := own_set1 (k := p * 2 + 1) O4 (.int .i64 (min tn xn))
            have e6 : (flatT (A ++ [⟨tk, tn⟩])).set (p * 2 + 1) (.int .i64 (min tn xn)) = flatT (A ++ [⟨tk, min tn xn⟩]) := by rw [← HP.out]; exact flatT_setlast A ⟨tk, tn⟩ _
            rw [e6] at O6
            have hb6 := (hb5.setCell (p := ⟨g, p * 2 + 1, none⟩) hg0 (.int .i64 (min tn xn))).drew
            have O7 := own_below O6 (Below.refl (w5.setCell ⟨g, p * 2 + 1, none⟩ (.int .i64 (min tn xn))).heap.size (w5.setCell ⟨g, p * 2 + 1, none⟩ (.int .i64 (min tn xn)))).drew
            clear O4 O6 e6 hb5 y1 e1 f2
            generalize (w5.setCell ⟨g, p * 2 + 1, none⟩ (.int .i64 (min tn xn))).drew = w6 at *
            go_wp2_with fail
            go_roundw
            case rel => exact ⟨k + 1, p + 1, c, some ⟨g, 0, none⟩, by omega, by go_num, rfl, Lib.hid (by rw [HE.out]; simp [HP.out]), by rw [HE.out]; exact O7, hb6⟩
            case measure => simp [intOf]; omega
    · obtain rfl : k = N := by omega
      have HR := HQ.out
      have hb9 := hb3.trans (hb.mono hb3.size)
      have O9 := own_base' hO hb3.size
      rw [← HN.out, ← HT.out] at HR O9
      clear hO hb HQ p0 p1
      go_wp2_with fail
      go_ret
      exact ⟨d, q, c, rfl, HR, hb9, O9⟩
set_option maxRecDepth 100000 in
theorem greaterC_any (x y : Int) (w : World) (_hx : 0 ≤ x ∧ x ≤ 1000000000000000) (_hy : 0 ≤ y ∧ y ≤ 1000000000000000) : Calls Try.prog 109 #[.int .i64 x, .int .i64 y] w fun e w' => e = .returned (.int .i64 (max x y)) ∧ w' = w := by
  go_enter Try.func109, Try.ntmps109
  go_wp2
  go_ret
  exact ⟨rfl, rfl⟩
set_option maxRecDepth 100000 in
set_option maxHeartbeats 4000000 in
theorem by_greater (a b : Option Addr) (na ca nb cb : Nat) (X Y : List TotV) (w : World) (ha : na ≤ 120) (hb0 : nb ≤ 120) (hX : Rd w w.heap.size 2 a na (flatT X)) (hY : Rd w w.heap.size 2 b nb (flatT Y)) (hnX : NumT 999999999999 X) (hnY : NumT 999999999999 Y) :
    Calls Try.prog 96 #[.slice a na ca, .slice b nb cb, .func (.func 109) #[] #[]] w fun e w' => ∃ d q c, e = .returned (.slice d q c) ∧ (accT (max) (mergeT (mergeT [] X) Y) (na + nb)).length = q ∧ Below w.heap.size w w' ∧ w'.ownsRow w.heap.size 45 2 (.slice d q c) q (flatT (accT (max) (mergeT (mergeT [] X) Y) (na + nb))) := by
  obtain ⟨i0, hi, hz0, hz1, hz2⟩ := info_parts infoTotal
  have hXl := hX.tots_length
  have hYl := hY.tots_length
  have hNI := merge_num (merge_num (a := []) (fun _ h => by cases h) hnX) hnY
  have hIl : (mergeT (mergeT [] X) Y).length = na + nb := by rw [mergeT_length, mergeT_length, hXl, hYl]; simp
  have hBD := Lib.hid (accT_bd (c := (max)) (fun x y hx hy => by first | (constructor <;> (show _ ≤ _; omega)) | (show _ ∧ _; omega)) hNI)
  have hIB := Lib.hid hNI
  have hb1 := bl1 w (.cells #[.func (.func 131) #[] #[], .slice none 0 0] 164)
  have L0 := SlT.new w (.slice none 0 0) 164
  have X1 := (hX.below hb1 (Nat.le_refl _)).more hb1.size
  clear hX hnX hnY hNI
  go_enter Try.func96, Try.ntmps96
  go_wp2_with fail
  generalize w.alloc (.cells #[.func (.func 131) #[] #[], .slice none 0 0] 164) = w1 at *
  refine (mergeT_any w.heap.size none 0 0 [] a na ca X w1 (by omega) (by omega) (Nat.le_refl _) L0 ⟨rfl, fun h => absurd h (by omega)⟩ X1).mono ?_
  rintro e w2 ⟨⟨v, rfl⟩, a2, c2, L2, G2, O2⟩
  have hb2 := hb1.trans (gb_below G2 hb1.size (fun g e => Nat.le_of_eq (Option.some.inj e)))
  have hlt2 := L2.lt
  have Y2 := (hY.below hb2 (Nat.le_refl _)).more hb2.size
  have hc2 := capT O2
  have I2 := Rd.of_own O2
  go_wp2_with fail
  refine (mergeT_any w.heap.size a2 (0 + na) c2 (mergeT [] X) b nb cb Y w2 (by omega) (by omega) hc2 L2 I2 Y2).mono ?_
  rintro e w3 ⟨⟨v, rfl⟩, a3, c3, L3, G3, O3⟩
  have hb3 := hb2.trans (gb_below G3 hb2.size (fun g e => Nat.le_of_eq (Option.some.inj e)))
  have I3 := Rd.of_own O3
  obtain ⟨p0, p1⟩ := L3.cells
  rw [Nat.zero_add] at p1 I3
  obtain ⟨IT, hIT⟩ : ∃ IT, mergeT (mergeT [] X) Y = IT := ⟨_, rfl⟩
  rw [hIT] at I3 hIl hBD hIB
  have HT := Lib.hid hIT
  clear hIT
  obtain ⟨N, hN⟩ : ∃ N, na + nb = N := ⟨_, rfl⟩
  rw [hN] at p1 I3 hIl
  have hN2 : N ≤ 240 := by omega
  have HN := Lib.hid hN
  have HIL := Lib.hid hIl
  clear L0 X1 hY O2 I2 Y2 G2 L2 G3 O3 L3 hc2 hb1 hb2 hN hIl hXl hYl
  go_wp2_with fail
  go_loopw [8, 20] (fun v i wr => ∃ (k q c : Nat) (d : Option Addr), k ≤ N ∧ i = .int .i64 k ∧ v = .slice d q c ∧ Hid ((accT (max) IT k).length = q) ∧ wr.ownsRow w3.heap.size 45 2 (.slice d q c) q (flatT (accT (max) IT k)) ∧ Below w3.heap.size w3 wr) (fun _ i _ => N - (intOf i).toNat)
  case atStart => exact ⟨0, 0, 0, none, Nat.zero_le _, rfl, rfl, Lib.hid rfl, World.ownsRow_nil _ _ _ _, Below.refl _ _⟩
  case round =>
    obtain ⟨k, q, c, d, hk, rfl, rfl, HQ, hO, hb⟩ := hrel
    by_cases hlt : k < N
    · obtain ⟨b1, o1, x, rfl, hB1, hx, c0, c1⟩ := (I3.below hb (Nat.le_refl _)).tot hlt
      have hxb := hIB.out x (List.mem_of_getElem? hx)
      have HS := Lib.hid (accT_succ (max) hx)
      obtain ⟨hab, hal⟩ := hBD.out k (by rw [HIL.out]; omega)
      have HA2 := HIL.out
      rw [HQ.out] at hal
      have hb2 := bl1 wr (.cells #[.string x.key, .int .i64 x.n] 45)
      have hO2 := own_below hO hb2
      have hB2 := hb.trans (hb2.mono hb.size)
      have hX0 : (wr.alloc (.cells #[.string x.key, .int .i64 x.n] 45)).cell? ⟨wr.heap.size, 0, none⟩ = some (.string x.key) := by simp [go_sem]
      have hX1 : (wr.alloc (.cells #[.string x.key, .int .i64 x.n] 45)).cell? ⟨wr.heap.size, 1, none⟩ = some (.int .i64 x.n) := by simp [go_sem]
      have hNX : ∀ g, (Value.slice d q c).ownBlock = some g → g ≠ wr.heap.size := fun g e => by have := (own_ge hO g e).2; omega
      generalize accT (max) IT k = A at *
      have hlx : wr.heap.size < (wr.alloc (.cells #[.string x.key, .int .i64 x.n] 45)).heap.size := by simp
      obtain ⟨xk, xn⟩ := x
      simp only at c0 c1 hxb hX0 hX1 hO2 hB2 hb2 hlx
      rcases List.eq_nil_or_concat A with rfl | ⟨A, t, rfl⟩
      · obtain rfl : 0 = q := HQ.out
        have HE := Lib.hid (show accT (max) IT (k + 1) = [] ++ [⟨xk, xn⟩] from HS.out)
        clear hO hb hb2 hx
        go_wp2_with fail
        generalize wr.alloc (.cells #[.string xk, .int .i64 xn] 45) = w4 at *
        generalize wr.heap.size = xa at *
        go_quiet (fail)
        have hbw : Below w4.heap.size w4 (w4.drewN nq) := below_drewN (Below.refl _ _) nq
        have hb5 := hB2.trans (hbw.mono hB2.size)
        have O4 := own_below hO2 hbw
        have y0 := (hbw.cell (p := ⟨xa, 0, none⟩) hlx).trans hX0
        have y1 := (hbw.cell (p := ⟨xa, 1, none⟩) hlx).trans hX1
        clear hbw hX0 hX1 hlx hO2 hB2 hNX
        generalize w4.drewN nq = w5 at *
        have hg8 : w3.heap.size ≤ w5.heap.size := hb5.size
        have hq1 : 0 + 1 ≤ maxLen := by unfold maxLen; omega
        have hq2 : (0 + 1) * 24 ≤ 140737488355328 := by omega
        go_wp2_with (at_builtin; refine wpList_append_own_at _ rfl _ _ 24 rfl w3.heap.size 45 i0 (.agg #[.string ⟨#[]⟩, .int .i64 0]) 2 24 Try.underlying24 hi hz0 hz1 hz2 rfl (by decide) (.slice d 0 c) _ _ rfl (O4.alloc _) ⟨w5.heap.size, 0, none⟩ 1 1 [.string xk, .int .i64 xn] rfl rfl (cell_totM w5 ⟨xk, xn⟩ _) (by simp [Value.oneCell']) hq1 hq2 (Nat.le_trans hg8 (bl1 w5 _).size) ?_; intro v' w6 hO6 hg6 _ hat; refine haltT_ ?_)
        refine unhaltT_ ?_
        obtain ⟨a', cap', rfl⟩ := own_slice' hO6
        have hb6 := below_grown1 hb5 O4 hg6
        have hO7 : w6.ownsRow w3.heap.size 45 2 (.slice a' (0 + 1) cap') (0 + 1) (flatT ([] ++ [⟨xk, xn⟩])) := by rw [flatT_two]; exact hO6
        clear hg6 hat O4 hO6 hb5 y0 y1
        go_wp2_with fail
        go_roundw
        case rel => exact ⟨k + 1, 0 + 1, cap', a', by omega, by go_num, rfl, Lib.hid (by rw [HE.out]; rfl), by rw [HE.out]; exact hO7, hb6⟩
        case measure => simp [intOf]; omega
      · rw [List.concat_eq_append] at *
        obtain ⟨p, hp⟩ : ∃ p, A.length = p := ⟨_, rfl⟩
        obtain rfl : p + 1 = q := by rw [← HQ.out, List.length_append, hp]; rfl
        have ht := hab t (by simp)
        obtain ⟨g, rfl, hg0, hg1⟩ := own_form hO2 (by omega)
        have hga : g ≠ wr.heap.size := hNX g rfl
        have hgt : (A ++ [t])[p]? = some t := by rw [List.getElem?_append_right (by omega), hp]; simp
        have hfl := flatT_get _ p t hgt
        have d0 := (hO2.cellAt (p * 2) (by omega)).trans hfl.1
        have d1 := (hO2.cellAt (p * 2 + 1) (by omega)).trans hfl.2
        have f1 := hO2.frozenAt (p * 2 + 1)
        have HSS := Lib.hid (HS.out.trans (stepT_last (max) A t ⟨xk, xn⟩))
        have HP := Lib.hid hp
        obtain ⟨tk, tn⟩ := t
        simp only at d0 d1 ht
        clear hO hb hb2 hx hgt hfl HS hab hp
        have z3 : IntKind.i64.wrap ((p : Int) + 1 - 1) = (p : Int) := by rw [show (p : Int) + 1 - 1 = (p : Int) by omega]; exact IntWalk.i64_in _ (by omega)
        have z4 : decide ((0 : Int) ≤ (p : Int)) = true := decide_eq_true (by omega)
        have z5 : decide ((p : Int) < 0) = false := decide_eq_false (by omega)
        cases hq : (tk.toList == xk.toList)
        · have hd2 : (tk == xk) = false := by rw [beq_toListBytes]; exact hq
          have HE := Lib.hid (show accT (max) IT (k + 1) = (A ++ [⟨tk, tn⟩]) ++ [⟨xk, xn⟩] by rw [HSS.out, if_neg (by show ¬ (tk.toList == xk.toList) = true; rw [hq]; decide)])
          clear HSS
          go_wp2_with fail
          generalize wr.alloc (.cells #[.string xk, .int .i64 xn] 45) = w4 at *
          generalize wr.heap.size = xa at *
          go_quiet (fail)
          clear d0 d1 f1 z3 z4 z5
          have hbw : Below w4.heap.size w4 (w4.drewN nq) := below_drewN (Below.refl _ _) nq
          have hb5 := hB2.trans (hbw.mono hB2.size)
          have O4 := own_below hO2 hbw
          have y0 := (hbw.cell (p := ⟨xa, 0, none⟩) hlx).trans hX0
          have y1 := (hbw.cell (p := ⟨xa, 1, none⟩) hlx).trans hX1
          clear hbw hX0 hX1 hlx hO2 hB2 hNX
          generalize w4.drewN nq = w5 at *
          have hg8 : w3.heap.size ≤ w5.heap.size := hb5.size
          have hq1 : (p + 1) + 1 ≤ maxLen := by unfold maxLen; omega
          have hq2 : ((p + 1) + 1) * 24 ≤ 140737488355328 := by omega
          go_wp2_with (at_builtin; refine wpList_append_own_at _ rfl _ _ 24 rfl w3.heap.size 45 i0 (.agg #[.string ⟨#[]⟩, .int .i64 0]) 2 24 Try.underlying24 hi hz0 hz1 hz2 rfl (by decide) (.slice (some ⟨g, 0, none⟩) (p + 1) c) _ _ rfl (O4.alloc _) ⟨w5.heap.size, 0, none⟩ 1 1 [.string xk, .int .i64 xn] rfl rfl (cell_totM w5 ⟨xk, xn⟩ _) (by simp [Value.oneCell']) hq1 hq2 (Nat.le_trans hg8 (bl1 w5 _).size) ?_; intro v' w6 hO6 hg6 _ hat; refine haltT_ ?_)
          refine unhaltT_ ?_
          obtain ⟨a', cap', rfl⟩ := own_slice' hO6
          have hb6 := below_grown1 hb5 O4 hg6
          have hO7 : w6.ownsRow w3.heap.size 45 2 (.slice a' ((p + 1) + 1) cap') ((p + 1) + 1) (flatT ((A ++ [⟨tk, tn⟩]) ++ [⟨xk, xn⟩])) := by rw [flatT_two]; exact hO6
          clear hg6 hat O4 hO6 hb5 y0 y1
          go_wp2_with fail
          go_roundw
          case rel => exact ⟨k + 1, (p + 1) + 1, cap', a', by omega, by go_num, rfl, Lib.hid (by rw [HE.out]; simp [HP.out]), by rw [HE.out]; exact hO7, hb6⟩
          case measure => simp [intOf]; omega
        · have hd2 : (tk == xk) = true := by rw [beq_toListBytes]; exact hq
          have HE := Lib.hid (show accT (max) IT (k + 1) = A ++ [⟨tk, max tn xn⟩] by rw [HSS.out, if_pos (by show (tk.toList == xk.toList) = true; exact hq)])
          clear HSS
          go_wp2_with fail
          generalize wr.alloc (.cells #[.string xk, .int .i64 xn] 45) = w4 at *
          generalize wr.heap.size = xa at *
          go_quiet (fail)
          have hbw : Below w4.heap.size w4 (w4.drewN nq) := below_drewN (Below.refl _ _) nq
          have hb5 := hB2.trans (hbw.mono hB2.size)
          have O4 := own_below hO2 hbw
          have y1 := (hbw.cell (p := ⟨xa, 1, none⟩) hlx).trans hX1
          have e1 := (hbw.cell (p := ⟨g, p * 2 + 1, none⟩) hg1).trans d1
          have f2 := O4.frozenAt (p * 2 + 1)
          clear hbw hX0 hX1 hlx hO2 hB2 hNX d0 d1 f1
          generalize w4.drewN nq = w5 at *
          go_wp2_with fail
          go_region_with (go_at_call 109; refine (greaterC_any tn xn _ ⟨by omega, by omega⟩ ⟨by omega, by omega⟩).mono ?_; rintro e w' ⟨rfl, rfl⟩)
          all_goals
            have O6 := own_set1 (k := p * 2 + 1) O4 (.int .i64 (max tn xn))
            have e6 : (flatT (A ++ [⟨tk, tn⟩])).set (p * 2 + 1) (.int .i64 (max tn xn)) = flatT (A ++ [⟨tk, max tn xn⟩]) := by rw [← HP.out]; exact flatT_setlast A ⟨tk, tn⟩ _
            rw [e6] at O6
            have hb6 := (hb5.setCell (p := ⟨g, p * 2 + 1, none⟩) hg0 (.int .i64 (max tn xn))).drew
            have O7 := own_below O6 (Below.refl (w5.setCell ⟨g, p * 2 + 1, none⟩ (.int .i64 (max tn xn))).heap.size (w5.setCell ⟨g, p * 2 + 1, none⟩ (.int .i64 (max tn xn)))).drew
            clear O4 O6 e6 hb5 y1 e1 f2
            generalize (w5.setCell ⟨g, p * 2 + 1, none⟩ (.int .i64 (max tn xn))).drew = w6 at *
            go_wp2_with fail
            go_roundw
            case rel => exact ⟨k + 1, p + 1, c, some ⟨g, 0, none⟩, by omega, by go_num, rfl, Lib.hid (by rw [HE.out]; simp [HP.out]), by rw [HE.out]; exact O7, hb6⟩
            case measure => simp [intOf]; omega
    · obtain rfl : k = N := by omega
      have HR := HQ.out
      have hb9 := hb3.trans (hb.mono hb3.size)
      have O9 := own_base' hO hb3.size
      rw [← HN.out, ← HT.out] at HR O9
      clear hO hb HQ p0 p1
      go_wp2_with fail
      go_ret
      exact ⟨d, q, c, rfl, HR, hb9, O9⟩
end Go.Proofs.Ytnmlnenepceabaa

namespace Go.Proofs.Ytnmlnenepceabaa
open Go.RowKit
def cK (k : Int) (x y : Int) : Int := if k = 3 then min x y else if k = 4 then max x y else x + y
theorem cK_bd (k : Int) (x y : Int) (hx : 0 ≤ x) (hy : 0 ≤ y) : 0 ≤ cK k x y ∧ cK k x y ≤ x + y := by
  unfold cK
  split
  · omega
  · split <;> omega
set_option maxRecDepth 100000 in
theorem l7Both_any (x y k : Int) (w : World) (hx : 0 ≤ x ∧ x ≤ 1000000000000000) (hy : 0 ≤ y ∧ y ≤ 1000000000000000) :
    Calls Try.prog 130 #[.int .i64 x, .int .i64 y, .int .i64 k] w fun e w' => e = .returned (.int .i64 (cK k x y)) ∧ w' = w := by
  have hw : IntKind.i64.wrap (x + y) = x + y := IntWalk.i64_in _ (by omega)
  by_cases h3 : k = 3
  · subst h3
    go_enter Try.func130, Try.ntmps130
    go_wp2
    go_ret
    exact ⟨by simp [cK], rfl⟩
  by_cases h4 : k = 4
  · subst h4
    go_enter Try.func130, Try.ntmps130
    go_wp2
    go_ret
    exact ⟨by simp [cK], rfl⟩
  have e3 : (k == 3) = false := by rw [beq_eq_false_iff_ne]; exact h3
  have e4 : (k == 4) = false := by rw [beq_eq_false_iff_ne]; exact h4
  go_enter Try.func130, Try.ntmps130
  go_wp2
  go_ret
  exact ⟨by simp [cK, h3, h4], rfl⟩
theorem step_l7Both {ops : Array Oper} {o : Oper} {a : Act} {w : World} {K : Act → World → Prop} {Q : Exit → Act → World → Prop} {E : Prop}
    (hgd : o.guard = none) (x y s : Nat) (t u r : TypeId) (hop : o.op = Op.call { callee := .value (.func 130), args := #[.tmp x, .tmp y, .tmp s], argTypes := #[t, u, r] })
    (v z q : Value) (hv : a.tmps[x]?.getD undef = v) (hz : a.tmps[y]?.getD undef = z) (hq : a.tmps[s]?.getD undef = q) (R : Ending → World → Prop) (hc : Calls Try.prog 130 #[v, z, q] w R) (h : ∀ e w', R e w' → ∃ v, e = .returned v ∧ K (a.put o.dst v) w') :
    if Region.wanted o (yielded ops a.tmps) = true then Oper.wp Try.prog o a w K Q else E := by
  have hw : Region.wanted o (yielded ops a.tmps) = true := by simp [Region.wanted, hgd]
  rw [if_pos hw]
  unfold Oper.wp
  simp only [execOp, hop, resolve, invoke]
  have he : a.eval (Operand.func 130) = .func (.func 130) #[] #[] := rfl
  rw [he]
  go_simp
  refine hc.mono ?_
  intro e w' hr
  obtain ⟨v', rfl, hk⟩ := h e w' hr
  exact hk
theorem Rd.headT {w : World} {B n k : Nat} {a : Option Addr} {rs : List TotV} (h : Rd w B 2 a n (flatT rs)) (hk : k ≤ n) : Rd w B 2 a k (flatT (rs.take k)) := by
  have hl : rs.length = n := h.tots_length
  refine ⟨by rw [flatT_length, List.length_take, hl, Nat.min_eq_left hk], fun hp => ?_⟩
  obtain ⟨b, off, rfl, hb, hc⟩ := h.2 (by omega)
  refine ⟨b, off, rfl, hb, fun j u hu => hc j u ?_⟩
  have e : flatT rs = flatT (rs.take k) ++ flatT (rs.drop k) := by rw [← flatT_append, List.take_append_drop]
  rw [e, List.getElem?_append_left (List.getElem?_eq_some_iff.1 hu).1]
  exact hu
theorem put_skip (c : Int → Int → Int) (x : TotV) : ∀ (k : Nat) (L : List TotV), (∀ j r, j < k → L[j]? = some r → lessT r x = true) → k ≤ L.length → putT c L x = L.take k ++ putT c (L.drop k) x
  | 0, L, _, _ => by simp
  | k + 1, [], _, h => by simp at h
  | k + 1, r :: L, hl, h => by
    have h0 := hl 0 r (by omega) rfl
    rw [putT, if_pos h0, put_skip c x k L (fun j r' hj hr => hl (j + 1) r' (by omega) (by simpa using hr)) (by simpa using h)]
    rfl
theorem putT_length (c : Int → Int → Int) (x : TotV) : ∀ L : List TotV, (putT c L x).length ≤ L.length + 1
  | [] => by simp [putT]
  | r :: L => by
    have := putT_length c x L
    rw [putT]
    split
    · simp; omega
    · split <;> simp
theorem flatT_one1 (l : List TotV) : ∀ u ∈ flatT l, u.oneCell' = true := by
  intro u hu
  unfold flatT at hu
  obtain ⟨r, _, hr⟩ := List.mem_flatMap.1 hu
  simp [TotV.cells] at hr
  rcases hr with rfl | rfl <;> rfl
set_option maxRecDepth 100000 in
set_option maxHeartbeats 4000000 in
theorem l7Put_any (a : Option Addr) (n cap : Nat) (L : List TotV) (xk : ByteArray) (xn kind : Int) (w : World) (hn : n ≤ 1000) (hnc : n ≤ cap) (hR : Rd w w.heap.size 2 a n (flatT L)) (hL : ∀ t ∈ L, 0 ≤ t.n ∧ t.n ≤ 1000000000000000) (hx : 0 ≤ xn ∧ xn ≤ 1000000000000000) :
    Calls Try.prog 94 #[.slice a n cap, .agg #[.string xk, .int .i64 xn], .int .i64 kind] w fun e w' => ∃ d m c, e = .returned (.slice d m c) ∧ (putT (cK kind) L ⟨xk, xn⟩).length = m ∧ Below w.heap.size w w' ∧ w'.ownsRow w.heap.size 45 2 (.slice d m c) m (flatT (putT (cK kind) L ⟨xk, xn⟩)) := by
  obtain ⟨i0, hi, hz0, hz1, hz2⟩ := info_parts infoTotal
  have hll := hR.tots_length
  have hb1 := bl1 w (.cells #[.string xk, .int .i64 xn] 45)
  have hX0 : (w.alloc (.cells #[.string xk, .int .i64 xn] 45)).cell? ⟨w.heap.size, 0, none⟩ = some (.string xk) := by simp [go_sem]
  have hX1 : (w.alloc (.cells #[.string xk, .int .i64 xn] 45)).cell? ⟨w.heap.size, 1, none⟩ = some (.int .i64 xn) := by simp [go_sem]
  have hlx : w.heap.size < (w.alloc (.cells #[.string xk, .int .i64 xn] 45)).heap.size := by simp
  go_enter Try.func94, Try.ntmps94
  go_wp2_with fail
  generalize w.alloc (.cells #[.string xk, .int .i64 xn] 45) = w1 at *
  go_loopw [7] (fun i wr => ∃ k : Nat, k ≤ n ∧ i = .int .i64 k ∧ Hid (∀ j r, j < k → L[j]? = some r → lessT r ⟨xk, xn⟩ = true) ∧ Below w1.heap.size w1 wr) (fun i _ => n - (intOf i).toNat)
  case atStart => exact ⟨0, Nat.zero_le _, rfl, Lib.hid (fun j r h => absurd h (by omega)), Below.refl _ _⟩
  case round =>
    obtain ⟨k, hk, rfl, HJ, hb⟩ := hrel
    have hbb := hb1.trans (hb.mono hb1.size)
    have y0 := (hb.cell (p := ⟨w.heap.size, 0, none⟩) hlx).trans hX0
    have y1 := (hb.cell (p := ⟨w.heap.size, 1, none⟩) hlx).trans hX1
    have hws : w.heap.size < wr.heap.size := Nat.lt_of_lt_of_le hlx hb.size
    have HPS := Lib.hid (put_skip (cK kind) ⟨xk, xn⟩ k L HJ.out (by omega))
    by_cases hlt : k < n
    · obtain ⟨b1, o1, t, rfl, hB1, ht, c0, c1⟩ := (hR.below hbb (Nat.le_refl _)).tot hlt
      obtain ⟨tk, tn⟩ := t
      simp only at c0 c1
      cases hq : Op.bytesLess tk.toList xk.toList
      · have hdr : L.drop k = ⟨tk, tn⟩ :: L.drop (k + 1) := by
          obtain ⟨hk', e⟩ := List.getElem?_eq_some_iff.1 ht
          rw [← e]; exact List.drop_eq_getElem_cons hk'
        have ht9 := hL ⟨tk, tn⟩ (List.mem_of_getElem? ht)
        simp only at ht9
        have hqL : lessT ⟨tk, tn⟩ ⟨xk, xn⟩ = false := hq
        clear HJ
        cases he : (tk.toList == xk.toList)
        · have hd2 : (tk == xk) = false := by rw [beq_toListBytes]; exact he
          have hlx2 : lessT ⟨xk, xn⟩ ⟨tk, tn⟩ = true := by
            rcases bl_total hq with e | e
            · rw [e] at he
              simp at he
            · exact e
          have HPF := Lib.hid (show putT (cK kind) L ⟨xk, xn⟩ = (L.take k ++ [⟨xk, xn⟩]) ++ L.drop k by
            rw [HPS.out, hdr, putT, if_neg (by rw [hqL]; decide), if_pos hlx2, List.append_assoc]; rfl)
          clear HPS hdr hlx2 hqL ht
          go_wp2_with fail
          go_quiet (fail)
          have hb2 := hb.trans ((show Below wr.heap.size wr (wr.drewN nq) from below_drewN (Below.refl _ _) nq).mono hb.size)
          have B2 := hb1.trans (hb2.mono hb1.size)
          have v0 := (hb2.cell (p := ⟨w.heap.size, 0, none⟩) hlx).trans hX0
          have v1 := (hb2.cell (p := ⟨w.heap.size, 1, none⟩) hlx).trans hX1
          have hws2 : w.heap.size < (wr.drewN nq).heap.size := Nat.lt_of_lt_of_le hlx hb2.size
          have R2 := (hR.below B2 (Nat.le_refl _)).more B2.size
          have c2 := ((show Below wr.heap.size wr (wr.drewN nq) from below_drewN (Below.refl _ _) nq).cell (p := ⟨b1, o1 + k * 2, none⟩) (Nat.lt_of_lt_of_le hB1 hbb.size)).trans c0
          have c3 := ((show Below wr.heap.size wr (wr.drewN nq) from below_drewN (Below.refl _ _) nq).cell (p := ⟨b1, o1 + k * 2 + 1, none⟩) (Nat.lt_of_lt_of_le hB1 hbb.size)).trans c1
          clear hb hbb hws hX0 hX1 hlx hb1 hb2 y0 y1 c0 c1
          generalize wr.drewN nq = w2 at *
          have hl0 := bl1 w2 (.cells #[] 45)
          have O0 : (w2.alloc (.cells #[] 45)).ownsRow w2.heap.size 45 2 (.slice (some ⟨w2.heap.size, 0, none⟩) 0 0) 0 (flatT []) := World.ownsRow_lit (base := w2.heap.size) (size := 2) w2 #[] 0 (Nat.le_refl _) (Nat.zero_le _) rfl
          have R3 := ((R2.headT (k := k) (by omega)).below hl0 (Nat.le_refl _)).more hl0.size
          have hq1 : 0 + k ≤ maxLen := by unfold maxLen; omega
          have hq2 : (0 + k) * 24 ≤ 140737488355328 := by omega
          go_wp2_with (at_builtin; refine wpList_append_rd rfl _ _ 24 rfl w2.heap.size 45 i0 (.agg #[.string ⟨#[]⟩, .int .i64 0]) 2 24 Try.underlying24 hi hz0 hz1 hz2 rfl (by decide) (.slice (some ⟨w2.heap.size, 0, none⟩) 0 0) 0 (flatT []) rfl O0 (some ⟨b1, o1, none⟩) _ k cap (flatT (L.take k)) rfl R3 (flatT_one1 _) hq1 hq2 hl0.size ?_; intro v' w4 hO4 hg4 hat; refine haltT_ ?_)
          refine unhaltT_ ?_
          have hb4 : Below w2.heap.size w2 w4 := hl0.grown hg4 hl0.size (fun q e => (own_ge O0 q e).1)
          have O4 : w4.ownsRow w2.heap.size 45 2 v' k (flatT (L.take k)) := by simpa [flatT] using hO4
          obtain ⟨d4, c4, rfl⟩ := own_slice' O4
          have z0 := (hb4.cell (p := ⟨w.heap.size, 0, none⟩) hws2).trans v0
          have z1 := (hb4.cell (p := ⟨w.heap.size, 1, none⟩) hws2).trans v1
          have R4 := (R2.below hb4 (Nat.le_refl _)).more hb4.size
          have hws4 : w.heap.size < w4.heap.size := Nat.lt_of_lt_of_le hws2 hb4.size
          have e0 := (hb4.cell (p := ⟨b1, o1 + k * 2, none⟩) (Nat.lt_of_lt_of_le hB1 B2.size)).trans c2
          have e1 := (hb4.cell (p := ⟨b1, o1 + k * 2 + 1, none⟩) (Nat.lt_of_lt_of_le hB1 B2.size)).trans c3
          clear c2 c3
          clear hO4 hg4 hat O0 R3 hl0 v0 v1 hq1 hq2 R2
          go_wp2_with fail
          go_quiet (fail)
          have hbq : Below w4.heap.size w4 (w4.drewN nq) := below_drewN (Below.refl _ _) nq
          have hb5 := hb4.trans (hbq.mono hb4.size)
          have O5 := own_below O4 hbq
          have z0 := (hbq.cell (p := ⟨w.heap.size, 0, none⟩) hws4).trans z0
          have z1 := (hbq.cell (p := ⟨w.heap.size, 1, none⟩) hws4).trans z1
          have R5 := (R4.below hbq (Nat.le_refl _)).more hbq.size
          have hws5 : w.heap.size < (w4.drewN nq).heap.size := Nat.lt_of_lt_of_le hws4 hbq.size
          have hg8 : w2.heap.size ≤ (w4.drewN nq).heap.size := hb5.size
          clear hb4 O4 R4 hws4 hbq
          generalize w4.drewN nq = w5 at *
          clear e0 e1
          have hq1 : k + 1 ≤ maxLen := by unfold maxLen; omega
          have hq2 : (k + 1) * 24 ≤ 140737488355328 := by omega
          go_wp2_with (at_builtin; refine wpList_append_own_at _ rfl _ _ 24 rfl w2.heap.size 45 i0 (.agg #[.string ⟨#[]⟩, .int .i64 0]) 2 24 Try.underlying24 hi hz0 hz1 hz2 rfl (by decide) (.slice d4 k c4) _ _ rfl (O5.alloc _) ⟨w5.heap.size, 0, none⟩ 1 1 [.string xk, .int .i64 xn] rfl rfl (cell_totM w5 ⟨xk, xn⟩ _) (by simp [Value.oneCell']) hq1 hq2 (Nat.le_trans hg8 (bl1 w5 _).size) ?_; intro v' w6 hO6 hg6 _ hat; refine haltT_ ?_)
          refine unhaltT_ ?_
          obtain ⟨d6, c6, rfl⟩ := own_slice' hO6
          have hb6 := below_grown1 hb5 O5 hg6
          have O6 : w6.ownsRow w2.heap.size 45 2 (.slice d6 (k + 1) c6) (k + 1) (flatT (L.take k ++ [⟨xk, xn⟩])) := by rw [flatT_snoc]; exact hO6
          clear hO6 hg6 hat O5 z0 z1 R5 hq1 hq2
          have R6 := ((hR.below (B2.trans (hb6.mono B2.size)) (Nat.le_refl _)).more (B2.trans (hb6.mono B2.size)).size).fromT (k := k) (cap := cap) (by omega) hnc
          have e6 : fromT (some ⟨b1, o1, none⟩) cap k = some ⟨b1, o1 + k * 2, none⟩ := by
            unfold fromT
            rw [if_neg (by omega)]
            simp [Addr.add_mid]
          rw [e6] at R6
          clear e6
          have hq1 : (k + 1) + (n - k) ≤ maxLen := by unfold maxLen; omega
          have hq2 : ((k + 1) + (n - k)) * 24 ≤ 140737488355328 := by omega
          go_wp2_with (at_builtin; refine wpList_append_rd rfl _ _ 24 rfl w2.heap.size 45 i0 (.agg #[.string ⟨#[]⟩, .int .i64 0]) 2 24 Try.underlying24 hi hz0 hz1 hz2 rfl (by decide) (.slice d6 (k + 1) c6) (k + 1) (flatT (L.take k ++ [⟨xk, xn⟩])) rfl O6 _ _ (n - k) (cap - k) (flatT (L.drop k)) rfl R6 (flatT_one1 _) hq1 hq2 hb6.size ?_; intro v' w7 hO7 hg7 hat; refine haltT_ ?_)
          refine unhaltT_ ?_
          obtain ⟨d7, c7, rfl⟩ := own_slice' hO7
          have hb7 : Below w2.heap.size w2 w7 := hb6.grown hg7 hb6.size (fun q e => (own_ge O6 q e).1)
          have O7 := own_base' hO7 (Nat.le_of_lt hws2)
          rw [← flatT_append] at O7
          clear hO7 hg7 hat O6 R6
          go_wp2_with fail
          go_ret
          exact ⟨d7, (k + 1) + (n - k), c7, rfl, by rw [HPF.out, List.length_append, List.length_append, List.length_take, List.length_drop, hll, Nat.min_eq_left hk]; rfl, B2.trans (hb7.mono B2.size), by rw [HPF.out]; exact O7⟩
        · have hd2 : (tk == xk) = true := by rw [beq_toListBytes]; exact he
          have hlx2 : lessT ⟨xk, xn⟩ ⟨tk, tn⟩ = false := by
            show Op.bytesLess xk.toList tk.toList = false
            rw [eq_of_beq he]
            exact bl_irrefl _
          have HPF := Lib.hid (show putT (cK kind) L ⟨xk, xn⟩ = (L.take k ++ [⟨xk, cK kind tn xn⟩]) ++ L.drop (k + 1) by
            rw [HPS.out, hdr, putT, if_neg (by rw [hqL]; decide), if_neg (by rw [hlx2]; decide), List.append_assoc]; rfl)
          clear HPS hdr hlx2 hqL ht
          go_wp2_with fail
          go_quiet (fail)
          have hb2 := hb.trans ((show Below wr.heap.size wr (wr.drewN nq) from below_drewN (Below.refl _ _) nq).mono hb.size)
          have B2 := hb1.trans (hb2.mono hb1.size)
          have v0 := (hb2.cell (p := ⟨w.heap.size, 0, none⟩) hlx).trans hX0
          have v1 := (hb2.cell (p := ⟨w.heap.size, 1, none⟩) hlx).trans hX1
          have hws2 : w.heap.size < (wr.drewN nq).heap.size := Nat.lt_of_lt_of_le hlx hb2.size
          have R2 := (hR.below B2 (Nat.le_refl _)).more B2.size
          have c2 := ((show Below wr.heap.size wr (wr.drewN nq) from below_drewN (Below.refl _ _) nq).cell (p := ⟨b1, o1 + k * 2, none⟩) (Nat.lt_of_lt_of_le hB1 hbb.size)).trans c0
          have c3 := ((show Below wr.heap.size wr (wr.drewN nq) from below_drewN (Below.refl _ _) nq).cell (p := ⟨b1, o1 + k * 2 + 1, none⟩) (Nat.lt_of_lt_of_le hB1 hbb.size)).trans c1
          clear hb hbb hws hX0 hX1 hlx hb1 hb2 y0 y1 c0 c1
          generalize wr.drewN nq = w2 at *
          have hl0 := bl1 w2 (.cells #[] 45)
          have O0 : (w2.alloc (.cells #[] 45)).ownsRow w2.heap.size 45 2 (.slice (some ⟨w2.heap.size, 0, none⟩) 0 0) 0 (flatT []) := World.ownsRow_lit (base := w2.heap.size) (size := 2) w2 #[] 0 (Nat.le_refl _) (Nat.zero_le _) rfl
          have R3 := ((R2.headT (k := k) (by omega)).below hl0 (Nat.le_refl _)).more hl0.size
          have hq1 : 0 + k ≤ maxLen := by unfold maxLen; omega
          have hq2 : (0 + k) * 24 ≤ 140737488355328 := by omega
          go_wp2_with (at_builtin; refine wpList_append_rd rfl _ _ 24 rfl w2.heap.size 45 i0 (.agg #[.string ⟨#[]⟩, .int .i64 0]) 2 24 Try.underlying24 hi hz0 hz1 hz2 rfl (by decide) (.slice (some ⟨w2.heap.size, 0, none⟩) 0 0) 0 (flatT []) rfl O0 (some ⟨b1, o1, none⟩) _ k cap (flatT (L.take k)) rfl R3 (flatT_one1 _) hq1 hq2 hl0.size ?_; intro v' w4 hO4 hg4 hat; refine haltT_ ?_)
          refine unhaltT_ ?_
          have hb4 : Below w2.heap.size w2 w4 := hl0.grown hg4 hl0.size (fun q e => (own_ge O0 q e).1)
          have O4 : w4.ownsRow w2.heap.size 45 2 v' k (flatT (L.take k)) := by simpa [flatT] using hO4
          obtain ⟨d4, c4, rfl⟩ := own_slice' O4
          have z0 := (hb4.cell (p := ⟨w.heap.size, 0, none⟩) hws2).trans v0
          have z1 := (hb4.cell (p := ⟨w.heap.size, 1, none⟩) hws2).trans v1
          have R4 := (R2.below hb4 (Nat.le_refl _)).more hb4.size
          have hws4 : w.heap.size < w4.heap.size := Nat.lt_of_lt_of_le hws2 hb4.size
          have e0 := (hb4.cell (p := ⟨b1, o1 + k * 2, none⟩) (Nat.lt_of_lt_of_le hB1 B2.size)).trans c2
          have e1 := (hb4.cell (p := ⟨b1, o1 + k * 2 + 1, none⟩) (Nat.lt_of_lt_of_le hB1 B2.size)).trans c3
          clear c2 c3
          clear hO4 hg4 hat O0 R3 hl0 v0 v1 hq1 hq2 R2
          have hee0 := e0
          have hB5 : b1 < w2.heap.size := Nat.lt_of_lt_of_le hB1 B2.size
          go_wp2_with fail
          go_quiet (fail)
          have hbq : Below w4.heap.size w4 (w4.drewN nq) := below_drewN (Below.refl _ _) nq
          have hb5 := hb4.trans (hbq.mono hb4.size)
          have O5 := own_below O4 hbq
          have z0 := (hbq.cell (p := ⟨w.heap.size, 0, none⟩) hws4).trans z0
          have z1 := (hbq.cell (p := ⟨w.heap.size, 1, none⟩) hws4).trans z1
          have R5 := (R4.below hbq (Nat.le_refl _)).more hbq.size
          have hws5 : w.heap.size < (w4.drewN nq).heap.size := Nat.lt_of_lt_of_le hws4 hbq.size
          have hg8 : w2.heap.size ≤ (w4.drewN nq).heap.size := hb5.size
          have e1 := (hbq.cell (p := ⟨b1, o1 + k * 2 + 1, none⟩) (Nat.lt_of_lt_of_le hB5 hb4.size)).trans e1
          clear hb4 O4 R4 hws4 hbq
          generalize w4.drewN nq = w5 at *
          clear e0 hee0
          have CO := Lib.hid (fun w => l7Both_any tn xn kind w ht9 hx)
          have HN := Lib.hid (cell_totM w5 ⟨xk, cK kind tn xn⟩ 45)
          have HV := Lib.hid (O5.alloc (.cells #[.string xk, .int .i64 (cK kind tn xn)] 45))
          have hg9 : w2.heap.size ≤ (w5.alloc (.cells #[.string xk, .int .i64 (cK kind tn xn)] 45)).heap.size := Nat.le_trans hg8 (bl1 w5 _).size
          have hq1 : k + 1 ≤ maxLen := by unfold maxLen; omega
          have hq2 : (k + 1) * 24 ≤ 140737488355328 := by omega
          go_wp2_with fail
          go_region_law (first | (refine step_l7Both rfl 51 53 54 2 2 2 rfl (.int .i64 tn) (.int .i64 xn) (.int .i64 kind) rfl rfl rfl _ (CO.out _) ?_; rintro e w9 ⟨rfl, rfl⟩; refine ⟨_, rfl, ?_⟩) | (refine step_append_one rfl (.tmp 44) (.tmp 57) 24 rfl w2.heap.size 45 i0 (.agg #[.string ⟨#[]⟩, .int .i64 0]) 2 24 Try.underlying24 hi hz0 hz1 hz2 rfl (by decide) (.slice d4 k c4) k _ rfl HV.out ⟨w5.heap.size, 0, none⟩ 1 1 [.string xk, .int .i64 (cK kind tn xn)] rfl rfl HN.out (tot_one ⟨xk, cK kind tn xn⟩) hq1 hq2 hg9 ?_; intro v' w6 hO6 hg6 hat; obtain ⟨d6, c6, rfl⟩ := own_slice' hO6))
          all_goals
            have hbx := (hb5.trans ((bl1 w5 (.cells #[.string xk, .int .i64 (cK kind tn xn)] 45)).mono hb5.size)).drew
            have hb6 := hbx.grown hg6 hbx.size (fun q e => (own_ge O5 q e).1)
            clear hbx
            have O6 : w6.ownsRow w2.heap.size 45 2 (.slice d6 (k + 1) c6) (k + 1) (flatT (L.take k ++ [⟨xk, cK kind tn xn⟩])) := by rw [flatT_snoc]; exact hO6
            clear hO6 hg6 hat O5 z0 z1 e1 R5 hq1 hq2 HN HV hg9 CO
            have R6 := ((hR.below (B2.trans (hb6.mono B2.size)) (Nat.le_refl _)).more (B2.trans (hb6.mono B2.size)).size).fromT (k := (k + 1)) (cap := cap) (by omega) hnc
            by_cases hce : cap = k + 1
            · have hnk : n = k + 1 := by omega
              have hdn : L.drop (k + 1) = [] := List.drop_of_length_le (by omega)
              have R7 : Rd w6 w6.heap.size 2 (some ⟨b1, o1, none⟩) 0 (flatT []) := ⟨rfl, fun h => absurd h (by omega)⟩
              have hq1 : (k + 1) + 0 ≤ maxLen := by unfold maxLen; omega
              have hq2 : ((k + 1) + 0) * 24 ≤ 140737488355328 := by omega
              clear R6
              go_wp2_with (at_builtin; refine wpList_append_rd rfl _ _ 24 rfl w2.heap.size 45 i0 (.agg #[.string ⟨#[]⟩, .int .i64 0]) 2 24 Try.underlying24 hi hz0 hz1 hz2 rfl (by decide) (.slice d6 (k + 1) c6) (k + 1) (flatT (L.take k ++ [⟨xk, cK kind tn xn⟩])) rfl O6 _ _ 0 0 (flatT []) rfl R7 (flatT_one1 _) hq1 hq2 hb6.size ?_; intro v' w7 hO7 hg7 hat; refine haltT_ ?_)
              refine unhaltT_ ?_
              have hb7 : Below w2.heap.size w2 w7 := hb6.grown hg7 hb6.size (fun q e => (own_ge O6 q e).1)
              have O8 : w7.ownsRow w2.heap.size 45 2 v' (k + 1) (flatT (L.take k ++ [⟨xk, cK kind tn xn⟩])) := by
                have h0 : flatT (L.take k ++ [⟨xk, cK kind tn xn⟩]) ++ flatT [] = flatT (L.take k ++ [⟨xk, cK kind tn xn⟩]) := List.append_nil _
                rw [h0] at hO7
                exact hO7
              obtain ⟨d7, c7, rfl⟩ := own_slice' O8
              have O7 := own_base' O8 (Nat.le_of_lt hws2)
              clear hO7 hg7 hat O6 R7 O8
              go_wp2_with fail
              go_ret
              exact ⟨d7, k + 1, c7, rfl, by rw [HPF.out, hdn, List.append_nil, List.length_append, List.length_take, hll, Nat.min_eq_left hk]; rfl, B2.trans (hb7.mono B2.size), by rw [HPF.out, hdn, List.append_nil]; exact O7⟩
            · have e6 : fromT (some ⟨b1, o1, none⟩) cap (k + 1) = some ⟨b1, o1 + (k + 1) * 2, none⟩ := by
                unfold fromT
                rw [if_neg hce]
                simp [Addr.add_mid]
              rw [e6] at R6
              clear e6
              have hq1 : (k + 1) + (n - (k + 1)) ≤ maxLen := by unfold maxLen; omega
              have hq2 : ((k + 1) + (n - (k + 1))) * 24 ≤ 140737488355328 := by omega
              go_wp2_with (at_builtin; refine wpList_append_rd rfl _ _ 24 rfl w2.heap.size 45 i0 (.agg #[.string ⟨#[]⟩, .int .i64 0]) 2 24 Try.underlying24 hi hz0 hz1 hz2 rfl (by decide) (.slice d6 (k + 1) c6) (k + 1) (flatT (L.take k ++ [⟨xk, cK kind tn xn⟩])) rfl O6 _ _ (n - (k + 1)) (cap - (k + 1)) (flatT (L.drop (k + 1))) rfl R6 (flatT_one1 _) hq1 hq2 hb6.size ?_; intro v' w7 hO7 hg7 hat; refine haltT_ ?_)
              refine unhaltT_ ?_
              obtain ⟨d7, c7, rfl⟩ := own_slice' hO7
              have hb7 : Below w2.heap.size w2 w7 := hb6.grown hg7 hb6.size (fun q e => (own_ge O6 q e).1)
              have O7 := own_base' hO7 (Nat.le_of_lt hws2)
              rw [← flatT_append] at O7
              clear hO7 hg7 hat O6 R6
              go_wp2_with fail
              go_ret
              exact ⟨d7, (k + 1) + (n - (k + 1)), c7, rfl, by rw [HPF.out, List.length_append, List.length_append, List.length_take, List.length_drop, hll, Nat.min_eq_left hk]; rfl, B2.trans (hb7.mono B2.size), by rw [HPF.out]; exact O7⟩
      · have HJ2 := Lib.hid (show ∀ j r, j < k + 1 → L[j]? = some r → lessT r ⟨xk, xn⟩ = true from fun j r hj hr => by
          rcases Nat.lt_or_ge j k with h | h
          · exact HJ.out j r h hr
          · obtain rfl : j = k := by omega
            rw [ht] at hr
            injection hr with hr
            rw [← hr]
            exact hq)
        clear ht HPS
        go_wp2_with fail
        go_quiet (fail)
        have hb2 := hb.trans ((show Below wr.heap.size wr (wr.drewN nq) from below_drewN (Below.refl _ _) nq).mono hb.size)
        generalize wr.drewN nq = w2 at *
        clear c0 c1 y0 y1
        go_wp2_with fail
        go_roundw
        case rel => exact ⟨k + 1, by omega, by go_num, HJ2, hb2⟩
        case measure => simp [intOf]; omega
    · obtain rfl : k = n := by omega
      have HPF := Lib.hid (show putT (cK kind) L ⟨xk, xn⟩ = (L.take k ++ [⟨xk, xn⟩]) ++ L.drop k by rw [HPS.out, List.drop_of_length_le (by omega), List.append_nil]; rfl)
      clear HPS HJ
      go_wp2_with fail
      go_quiet (fail)
      have hb2 := hb.trans ((show Below wr.heap.size wr (wr.drewN nq) from below_drewN (Below.refl _ _) nq).mono hb.size)
      have B2 := hb1.trans (hb2.mono hb1.size)
      have v0 := (hb2.cell (p := ⟨w.heap.size, 0, none⟩) hlx).trans hX0
      have v1 := (hb2.cell (p := ⟨w.heap.size, 1, none⟩) hlx).trans hX1
      have hws2 : w.heap.size < (wr.drewN nq).heap.size := Nat.lt_of_lt_of_le hlx hb2.size
      have R2 := (hR.below B2 (Nat.le_refl _)).more B2.size
      clear hb hbb hws hX0 hX1 hlx hb1 hb2 y0 y1
      generalize wr.drewN nq = w2 at *
      have hl0 := bl1 w2 (.cells #[] 45)
      have O0 : (w2.alloc (.cells #[] 45)).ownsRow w2.heap.size 45 2 (.slice (some ⟨w2.heap.size, 0, none⟩) 0 0) 0 (flatT []) := World.ownsRow_lit (base := w2.heap.size) (size := 2) w2 #[] 0 (Nat.le_refl _) (Nat.zero_le _) rfl
      have R3 := ((R2.headT (k := k) (by omega)).below hl0 (Nat.le_refl _)).more hl0.size
      have hq1 : 0 + k ≤ maxLen := by unfold maxLen; omega
      have hq2 : (0 + k) * 24 ≤ 140737488355328 := by omega
      go_wp2_with (at_builtin; refine wpList_append_rd rfl _ _ 24 rfl w2.heap.size 45 i0 (.agg #[.string ⟨#[]⟩, .int .i64 0]) 2 24 Try.underlying24 hi hz0 hz1 hz2 rfl (by decide) (.slice (some ⟨w2.heap.size, 0, none⟩) 0 0) 0 (flatT []) rfl O0 a _ k cap (flatT (L.take k)) rfl R3 (flatT_one1 _) hq1 hq2 hl0.size ?_; intro v' w4 hO4 hg4 hat; refine haltT_ ?_)
      refine unhaltT_ ?_
      have hb4 : Below w2.heap.size w2 w4 := hl0.grown hg4 hl0.size (fun q e => (own_ge O0 q e).1)
      have O4 : w4.ownsRow w2.heap.size 45 2 v' k (flatT (L.take k)) := by simpa [flatT] using hO4
      obtain ⟨d4, c4, rfl⟩ := own_slice' O4
      have z0 := (hb4.cell (p := ⟨w.heap.size, 0, none⟩) hws2).trans v0
      have z1 := (hb4.cell (p := ⟨w.heap.size, 1, none⟩) hws2).trans v1
      have R4 := (R2.below hb4 (Nat.le_refl _)).more hb4.size
      have hws4 : w.heap.size < w4.heap.size := Nat.lt_of_lt_of_le hws2 hb4.size
      clear hO4 hg4 hat O0 R3 hl0 v0 v1 hq1 hq2 R2
      go_wp2_with fail
      go_quiet (fail)
      have hbq : Below w4.heap.size w4 (w4.drewN nq) := below_drewN (Below.refl _ _) nq
      have hb5 := hb4.trans (hbq.mono hb4.size)
      have O5 := own_below O4 hbq
      have z0 := (hbq.cell (p := ⟨w.heap.size, 0, none⟩) hws4).trans z0
      have z1 := (hbq.cell (p := ⟨w.heap.size, 1, none⟩) hws4).trans z1
      have R5 := (R4.below hbq (Nat.le_refl _)).more hbq.size
      have hws5 : w.heap.size < (w4.drewN nq).heap.size := Nat.lt_of_lt_of_le hws4 hbq.size
      have hg8 : w2.heap.size ≤ (w4.drewN nq).heap.size := hb5.size
      clear hb4 O4 R4 hws4 hbq
      generalize w4.drewN nq = w5 at *
      have hq1 : k + 1 ≤ maxLen := by unfold maxLen; omega
      have hq2 : (k + 1) * 24 ≤ 140737488355328 := by omega
      go_wp2_with (at_builtin; refine wpList_append_own_at _ rfl _ _ 24 rfl w2.heap.size 45 i0 (.agg #[.string ⟨#[]⟩, .int .i64 0]) 2 24 Try.underlying24 hi hz0 hz1 hz2 rfl (by decide) (.slice d4 k c4) _ _ rfl (O5.alloc _) ⟨w5.heap.size, 0, none⟩ 1 1 [.string xk, .int .i64 xn] rfl rfl (cell_totM w5 ⟨xk, xn⟩ _) (by simp [Value.oneCell']) hq1 hq2 (Nat.le_trans hg8 (bl1 w5 _).size) ?_; intro v' w6 hO6 hg6 _ hat; refine haltT_ ?_)
      refine unhaltT_ ?_
      obtain ⟨d6, c6, rfl⟩ := own_slice' hO6
      have hb6 := below_grown1 hb5 O5 hg6
      have O6 : w6.ownsRow w2.heap.size 45 2 (.slice d6 (k + 1) c6) (k + 1) (flatT (L.take k ++ [⟨xk, xn⟩])) := by rw [flatT_snoc]; exact hO6
      clear hO6 hg6 hat O5 z0 z1 R5 hq1 hq2
      rcases Decidable.em (cap = k) with hce | hce
      all_goals
        have hq1 : (k + 1) + 0 ≤ maxLen := by unfold maxLen; omega
        have hq2 : ((k + 1) + 0) * 24 ≤ 140737488355328 := by omega
        go_wp2_with (at_builtin; refine wpList_append_rd rfl _ _ 24 rfl w2.heap.size 45 i0 (.agg #[.string ⟨#[]⟩, .int .i64 0]) 2 24 Try.underlying24 hi hz0 hz1 hz2 rfl (by decide) (.slice d6 (k + 1) c6) (k + 1) (flatT (L.take k ++ [⟨xk, xn⟩])) rfl O6 _ 0 0 _ (flatT []) rfl ⟨rfl, fun h => absurd h (by omega)⟩ (flatT_one1 _) hq1 hq2 hb6.size ?_; intro v' w7 hO7 hg7 hat; refine haltT_ ?_)
        refine unhaltT_ ?_
        have hb7 : Below w2.heap.size w2 w7 := hb6.grown hg7 hb6.size (fun q e => (own_ge O6 q e).1)
        have hdn : L.drop k = [] := List.drop_of_length_le (by omega)
        have h0 : flatT (L.take k ++ [⟨xk, xn⟩]) ++ flatT [] = flatT (L.take k ++ [⟨xk, xn⟩]) := List.append_nil _
        rw [h0] at hO7
        have O8 : w7.ownsRow w2.heap.size 45 2 v' (k + 1) (flatT (L.take k ++ [⟨xk, xn⟩])) := hO7
        obtain ⟨d7, c7, rfl⟩ := own_slice' O8
        have O7 := own_base' O8 (Nat.le_of_lt hws2)
        clear hO7 hg7 hat O6 O8 h0
        go_wp2_with fail
        go_ret
        exact ⟨d7, k + 1, c7, rfl, by rw [HPF.out, hdn, List.append_nil, List.length_append, List.length_take, hll, Nat.min_self]; rfl, B2.trans (hb7.mono B2.size), by rw [HPF.out, hdn, List.append_nil]; exact O7⟩
end Go.Proofs.Ytnmlnenepceabaa

namespace Go.Proofs.Ytnmlnenepceabaa
open Go.RowKit
def inK (k : Int) : Bool := decide (1 ≤ k) && decide (k ≤ 4)
def combinedB (a b : List TotV) (k : Int) : Bool := totsOk a && (totsOk b && (inK k && totsOk (combL (cK k) a b)))
def combinedS (a b : List TotV) (k : Int) : List TotV := if combinedB a b k = true then combL (cK k) a b else []
theorem tots_num {ts : List TotV} (h : totsOk ts = true) : ts.length ≤ 120 ∧ NumT 999999999999 ts := by
  unfold totsOk at h
  rw [Bool.and_eq_true, List.all_eq_true] at h
  refine ⟨of_decide_eq_true h.1, fun t ht => ?_⟩
  obtain ⟨j, hj, e⟩ := List.mem_iff_getElem.1 ht
  have h1 := h.2 j (List.mem_range.2 hj)
  have e1 : ts[j]? = some t := by rw [List.getElem?_eq_getElem hj, e]
  simp only [okAt, e1, Bool.and_eq_true] at h1
  exact (totOkB_parts h1.1).2
theorem acc_all (c : Int → Int → Int) {a b : List TotV} (ha : totsOk a = true) (hb : totsOk b = true) : accT c (mergeT (mergeT [] a) b) (a.length + b.length) = combL c a b := by
  unfold accT
  rw [List.take_of_length_le (by rw [mergeT_length, mergeT_length]; simp)]
  exact (comb_both c ha hb).1
theorem combL_from (c : Int → Int → Int) : ∀ (n : Nat) (a b : List TotV), a.length + b.length ≤ n → ∀ t ∈ combL c a b, t ∈ a ∨ t ∈ b ∨ ∃ x ∈ a, ∃ y ∈ b, t = ⟨x.key, c x.n y.n⟩
  | _, [], b, _, t, ht => by rw [combL] at ht; exact .inr (.inl ht)
  | _, x :: a, [], _, t, ht => by rw [combL] at ht; exact .inl ht
  | 0, x :: a, y :: b, h, _, _ => by simp at h
  | n + 1, x :: a, y :: b, h, t, ht => by
    have hl : a.length + b.length + 1 ≤ n := by simp only [List.length_cons] at h; omega
    rw [combL] at ht
    split at ht
    · rcases List.mem_cons.1 ht with rfl | ht
      · exact .inl List.mem_cons_self
      · rcases combL_from c n a (y :: b) (by simp only [List.length_cons]; omega) t ht with h1 | h1 | ⟨u, hu, v, hv, e⟩
        · exact .inl (List.mem_cons_of_mem _ h1)
        · exact .inr (.inl h1)
        · exact .inr (.inr ⟨u, List.mem_cons_of_mem _ hu, v, hv, e⟩)
    · split at ht
      · rcases List.mem_cons.1 ht with rfl | ht
        · exact .inr (.inl List.mem_cons_self)
        · rcases combL_from c n (x :: a) b (by simp only [List.length_cons]; omega) t ht with h1 | h1 | ⟨u, hu, v, hv, e⟩
          · exact .inl h1
          · exact .inr (.inl (List.mem_cons_of_mem _ h1))
          · exact .inr (.inr ⟨u, hu, v, List.mem_cons_of_mem _ hv, e⟩)
      · rcases List.mem_cons.1 ht with rfl | ht
        · exact .inr (.inr ⟨x, List.mem_cons_self, y, List.mem_cons_self, rfl⟩)
        · rcases combL_from c n a b (by omega) t ht with h1 | h1 | ⟨u, hu, v, hv, e⟩
          · exact .inl (List.mem_cons_of_mem _ h1)
          · exact .inr (.inl (List.mem_cons_of_mem _ h1))
          · exact .inr (.inr ⟨u, List.mem_cons_of_mem _ hu, v, List.mem_cons_of_mem _ hv, e⟩)
theorem combL_length (c : Int → Int → Int) : ∀ (n : Nat) (a b : List TotV), a.length + b.length ≤ n → (combL c a b).length ≤ a.length + b.length
  | _, [], b, _ => by rw [combL]; simp
  | _, x :: a, [], _ => by rw [combL]; simp
  | 0, x :: a, y :: b, h => by simp at h
  | n + 1, x :: a, y :: b, h => by
    have hl : a.length + b.length + 1 ≤ n := by simp only [List.length_cons] at h; omega
    rw [combL]
    split
    · have := combL_length c n a (y :: b) (by simp only [List.length_cons]; omega)
      simp only [List.length_cons] at this ⊢; omega
    · split
      · have := combL_length c n (x :: a) b (by simp only [List.length_cons]; omega)
        simp only [List.length_cons] at this ⊢; omega
      · have := combL_length c n a b (by omega)
        simp only [List.length_cons] at this ⊢; omega
theorem comb_num (k : Int) {a b : List TotV} {M m : Int} (hM : 0 ≤ M) (hm : 0 ≤ m) (ha : NumT M a) (hb : NumT m b) : NumT (M + m) (combL (cK k) a b) := fun t ht => by
  rcases combL_from _ _ a b (Nat.le_refl _) t ht with h | h | ⟨x, hx, y, hy, rfl⟩
  · have := ha t h; omega
  · have := hb t h; omega
  · have h1 := ha x hx
    have h2 := hb y hy
    have := cK_bd k x.n y.n h1.1 h2.1
    show 0 ≤ cK k x.n y.n ∧ cK k x.n y.n ≤ M + m
    omega
theorem int_wfC {z : Int} (h0 : -9223372036854775808 ≤ z) (h1 : z ≤ 9223372036854775807) : (Lit.int .i64 z).wf = true := by
  have := wrap64_wf z
  rwa [IntWalk.wrap64_in z ⟨h0, h1⟩] at this
theorem comb_ok {a b : List TotV} {k : Int} (ha : totsOk a = true) (hb : totsOk b = true) (hA : ∀ t ∈ a, t.Ok) (hB : ∀ t ∈ b, t.Ok) : ∀ t ∈ combL (cK k) a b, t.Ok := fun t ht => by
  have hn := comb_num k (by omega) (by omega) (tots_num ha).2 (tots_num hb).2 t ht
  refine ⟨?_, int_wfC (by omega) (by omega)⟩
  rcases combL_from _ _ a b (Nat.le_refl _) t ht with h | h | ⟨x, hx, y, hy, rfl⟩
  · exact (hA t h).1
  · exact (hB t h).1
  · exact (hA x hx).1
theorem combK_step (c : Int → Int → Int) {X Y : List TotV} (hY : RiseT Y) {k : Nat} {y : TotV} (hy : Y[k]? = some y) : combL c X (Y.take (k + 1)) = putT c (combL c X (Y.take k)) y := by
  rw [← puts_comb c X (hY.sublist (List.take_sublist _ _)), ← puts_comb c X (hY.sublist (List.take_sublist _ _)), List.take_add_one, hy, Option.toList_some, List.foldl_append]
  rfl
theorem combK_num (kind : Int) {X Y : List TotV} (hX : totsOk X = true) (hY : totsOk Y = true) (k : Nat) : NumT 2000000000000 (combL (cK kind) X (Y.take k)) := fun t ht => by
  have := comb_num kind (by omega) (by omega) (tots_num hX).2 (b := Y.take k) (fun t h => (tots_num hY).2 t (List.mem_of_mem_take h)) t ht
  omega
theorem combK_len (c : Int → Int → Int) {X Y : List TotV} (hX : totsOk X = true) (hY : totsOk Y = true) (k : Nat) : (combL c X (Y.take k)).length ≤ 240 := by
  have h := combL_length c _ X (Y.take k) (Nat.le_refl _)
  have h1 := (tots_num hX).1
  have h2 := (tots_num hY).1
  rw [List.length_take] at h
  omega
theorem combinedS_le (a b : List TotV) (k : Int) : (combinedS a b k).length ≤ 1048576 := by
  unfold combinedS
  split
  · rename_i h
    simp only [combinedB, Bool.and_eq_true] at h
    have := (tots_num h.2.2.2).1
    omega
  · simp
theorem combinedS_ok {a b : List TotV} {k : Int} (hA : ∀ t ∈ a, t.Ok) (hB : ∀ t ∈ b, t.Ok) : ∀ t ∈ combinedS a b k, t.Ok := by
  unfold combinedS
  split
  · rename_i h
    simp only [combinedB, Bool.and_eq_true] at h
    exact comb_ok h.1 h.2.1 hA hB
  · intro t h; cases h
def CombQ (w : World) (L : List TotV) (e : Ending) (w' : World) : Prop := ∃ b n c q, e = .returned (.tuple #[.slice b n c, .bool q]) ∧ Below w.heap.size w w' ∧ ((q = false ∧ totsOk L = false ∧ b = none ∧ n = 0 ∧ c = 0) ∨ (q = true ∧ totsOk L = true ∧ n = L.length ∧ w'.ownsRow w.heap.size 45 2 (.slice b n c) n (flatT L)))
theorem combQ_to {w w' : World} {e : Ending} {X Y : List TotV} {N : Int} (h : CombQ w (combL (cK N) X Y) e w') (e1 : combinedB X Y N = totsOk (combL (cK N) X Y)) : TotsB w (combinedS X Y N) (combinedB X Y N) e w' := by
  obtain ⟨b, n, c, q, he, hb, h | h⟩ := h
  · obtain ⟨rfl, h1, rfl, rfl, rfl⟩ := h
    have e2 : combinedS X Y N = [] := by unfold combinedS; rw [e1, h1]; exact if_neg (by decide)
    rw [e2, e1, h1]
    exact ⟨none, 0, he, hb, World.ownsRow_nil _ _ _ _⟩
  · obtain ⟨rfl, h1, rfl, hO⟩ := h
    have e2 : combinedS X Y N = combL (cK N) X Y := by unfold combinedS; rw [e1, h1]; exact if_pos rfl
    rw [e2, e1, h1]
    exact ⟨b, c, he, hb, hO⟩
set_option maxRecDepth 100000 in
theorem l1In_four (n : Int) (b : Bool) (w : World) (h : inK n = b) : Calls Try.prog 77 #[.int .i64 n, .int .i64 1, .int .i64 4] w fun e w' => e = .returned (.bool b) ∧ Below w.heap.size w w' := by
  have E := Lib.hid h
  unfold inK at E
  clear h
  by_cases h1 : 1 ≤ n
  · have d1 : decide (1 ≤ n) = true := by simp [h1]
    go_enter Try.func77, Try.ntmps77
    go_wp2
    go_ret
    exact ⟨ret_bool (by rw [← E.out, d1, Bool.true_and]), Below.refl _ _⟩
  · have d1 : decide (1 ≤ n) = false := by simp [h1]
    go_enter Try.func77, Try.ntmps77
    go_wp2
    go_ret
    exact ⟨ret_bool (by rw [← E.out, d1, Bool.false_and]), Below.refl _ _⟩
end Go.Proofs.Ytnmlnenepceabaa

namespace Go.Proofs.Ytnmlnenepceabaa
open Go.RowKit
set_option maxRecDepth 100000 in
set_option maxHeartbeats 4000000 in
theorem specCombined_any (a : Option Addr) (na ca : Nat) (X : List TotV) (b : Option Addr) (nb cb : Nat) (Y : List TotV) (N : Int) (w : World) (ha : na ≤ 1048576) (hXo : ∀ t ∈ X, t.Ok) (hX : Rd w w.heap.size 2 a na (flatT X)) (hb0 : nb ≤ 1048576) (hYo : ∀ t ∈ Y, t.Ok) (hY : Rd w w.heap.size 2 b nb (flatT Y)) :
    Calls Try.prog 50 #[.slice a na ca, .slice b nb cb, .int .i64 N] w (TotsB w (combinedS X Y N) (combinedB X Y N)) := by
  obtain ⟨i0, hi, hz0, hz1, hz2⟩ := info_parts infoTotal
  have C0 := specTotalsOk_any a na ca X w ha hXo hX
  have C1 := fun w h => specTotalsOk_any b nb cb Y w hb0 hYo h
  have C2 := fun w => l1In_four N (inK N) w rfl
  cases hq : totsOk X && (totsOk Y && inK N)
  · have e1 : combinedB X Y N = false := by
      unfold combinedB
      rw [← Bool.and_assoc, ← Bool.and_assoc, Bool.and_assoc (totsOk X), hq]; rfl
    have e2 : combinedS X Y N = [] := by unfold combinedS; rw [e1]; exact if_neg (by decide)
    rw [e1, e2]
    clear e1 e2
    generalize totsOk X = qx at *
    generalize totsOk Y = qy at *
    generalize inK N = qn at *
    unfold TotsB
    go_enter Try.func50, Try.ntmps50
    go_wp2_with fail
    refine C0.mono ?_
    rintro e w1 ⟨rfl, hb⟩
    cases qx
    · go_wp2_with fail
      go_ret2
      exact ⟨none, 0, rfl, hb, World.ownsRow_nil _ _ _ _⟩
    go_wp2_with fail
    refine (C1 _ ((hY.below hb (Nat.le_refl _)).more hb.size)).mono ?_
    rintro e w2 ⟨rfl, hb2⟩
    have B2 := hb.trans (hb2.mono hb.size)
    cases qy
    · go_wp2_with fail
      go_ret2
      exact ⟨none, 0, rfl, B2, World.ownsRow_nil _ _ _ _⟩
    obtain rfl : qn = false := by simpa using hq
    go_wp2_with fail
    refine (C2 _).mono ?_
    rintro e w3 ⟨rfl, hb3⟩
    have B3 := B2.trans (hb3.mono B2.size)
    go_wp2_with fail
    go_ret2
    exact ⟨none, 0, rfl, B3, World.ownsRow_nil _ _ _ _⟩
  have hq' := hq
  simp only [Bool.and_eq_true] at hq'
  obtain ⟨hx, hy, hk⟩ := hq'
  have hNum := Lib.hid (combK_num N hx hy)
  have hLen := Lib.hid (combK_len (cK N) hx hy)
  have hRise := Lib.hid (rise_of hy)
  have hXl := hX.tots_length
  have hYl := hY.tots_length
  have hYn := Lib.hid (tots_num hy).2
  have hY120 : nb ≤ 120 := by have := (tots_num hy).1; omega
  have hX120 : na ≤ 120 := by have := (tots_num hx).1; omega
  have hSok := Lib.hid (comb_ok (k := N) hx hy hXo hYo)
  have e1 : combinedB X Y N = totsOk (combL (cK N) X Y) := by unfold combinedB; rw [hx, hy, hk]; rfl
  suffices H : Calls Try.prog 50 #[.slice a na ca, .slice b nb cb, .int .i64 N] w (CombQ w (combL (cK N) X Y)) from H.mono fun e w' h => combQ_to h e1
  obtain ⟨L0, hL0⟩ : ∃ L0, combL (cK N) X Y = L0 := ⟨_, rfl⟩
  rw [hL0] at hSok ⊢
  have HL0 := Lib.hid hL0
  rw [hx] at C0
  rw [hy] at C1
  rw [hk] at C2
  clear e1 hL0 hx hy hk hq
  unfold CombQ
  go_enter Try.func50, Try.ntmps50
  go_wp2_with fail
  refine C0.mono ?_
  rintro e w1 ⟨rfl, hb1⟩
  go_wp2_with fail
  refine (C1 _ ((hY.below hb1 (Nat.le_refl _)).more hb1.size)).mono ?_
  rintro e w2 ⟨rfl, hb2⟩
  have B2 := hb1.trans (hb2.mono hb1.size)
  go_wp2_with fail
  refine (C2 _).mono ?_
  rintro e w3 ⟨rfl, hb3⟩
  have B3 := B2.trans (hb3.mono B2.size)
  have RX := (hX.below B3 (Nat.le_refl _)).more B3.size
  have RY := (hY.below B3 (Nat.le_refl _)).more B3.size
  clear hb1 hb2 hb3 B2 C0 C1 C2 hX hY
  have hq1 : 0 + na ≤ maxLen := by unfold maxLen; omega
  have hq2 : (0 + na) * 24 ≤ 140737488355328 := by omega
  have hl0 := bl1 w3 (.cells #[] 45)
  have O0 : (w3.alloc (.cells #[] 45)).ownsRow w3.heap.size 45 2 (.slice (some ⟨w3.heap.size, 0, none⟩) 0 0) 0 (flatT []) := World.ownsRow_lit (base := w3.heap.size) (size := 2) w3 #[] 0 (Nat.le_refl _) (Nat.zero_le _) rfl
  have R0 := (RX.below hl0 (Nat.le_refl _)).more hl0.size
  go_wp2_with (at_builtin; refine wpList_append_rd rfl _ _ 24 rfl w3.heap.size 45 i0 (.agg #[.string ⟨#[]⟩, .int .i64 0]) 2 24 Try.underlying24 hi hz0 hz1 hz2 rfl (by decide) (.slice (some ⟨w3.heap.size, 0, none⟩) 0 0) 0 (flatT []) rfl O0 a _ na ca (flatT X) rfl R0 (flatT_one1 _) hq1 hq2 hl0.size ?_; intro v' w4 hO4 hg4 hat; refine haltT_ ?_)
  refine unhaltT_ ?_
  have hb4 : Below w3.heap.size w3 w4 := hl0.grown hg4 hl0.size (fun q e => (own_ge O0 q e).1)
  have O4 : w4.ownsRow w3.heap.size 45 2 v' na (flatT X) := by simpa [flatT] using hO4
  obtain ⟨d4, c4, rfl⟩ := own_slice' O4
  clear hO4 hg4 hat O0 R0 hl0 hq1 hq2 RX
  have HZ := Lib.hid (show combL (cK N) X (Y.take 0) = X by rw [List.take_zero, combL_nil])
  have HF := Lib.hid (show combL (cK N) X (Y.take nb) = L0 by rw [List.take_of_length_le (by omega), HL0.out])
  have HST := Lib.hid (fun (k : Nat) (y : TotV) (h : Y[k]? = some y) => combK_step (cK N) (X := X) hRise.out h)
  have HYN := Lib.hid (fun (k : Nat) (y : TotV) (h : Y[k]? = some y) => hYn.out y (List.mem_of_getElem? h))
  have hNumK := fun k => Lib.hid (hNum.out k)
  clear hYn hRise hXo hYo hNum
  go_wp2_with fail
  go_loopw [8, 9] (fun v i wr => ∃ (k q c : Nat) (d : Option Addr), k ≤ nb ∧ i = .int .i64 k ∧ v = .slice d q c ∧ Hid ((combL (cK N) X (Y.take k)).length = q) ∧ wr.ownsRow w3.heap.size 45 2 (.slice d q c) q (flatT (combL (cK N) X (Y.take k))) ∧ Below w3.heap.size w3 wr) (fun _ i _ => nb - (intOf i).toNat)
  case atStart => exact ⟨0, na, c4, d4, Nat.zero_le _, rfl, rfl, Lib.hid (by rw [HZ.out]; exact hXl), by rw [HZ.out]; exact O4, hb4⟩
  case round =>
    obtain ⟨k, q, c, d, hk, rfl, rfl, HQ, O, hb⟩ := hrel
    have hq240 : q ≤ 240 := by have := hLen.out k; rw [HQ.out] at this; exact this
    have hqc := capT O
    by_cases hlt : k < nb
    · obtain ⟨bb, off, r, rfl, hB, hr, c0, c1⟩ := (RY.below hb (Nat.le_refl _)).tot hlt
      have HS := Lib.hid (HST.out k r hr)
      have hxn := HYN.out k r hr
      have HN := hNumK k
      obtain ⟨yk, yn⟩ := r
      simp only at c0 c1 hxn
      clear hr
      generalize combL (cK N) X (Y.take k) = L at *
      have CP := l7Put_any d q c L yk yn N wr (by omega) hqc (Rd.of_own O) (fun t ht => by have := HN.out t ht; omega) (by omega)
      go_wp2_with fail
      refine CP.mono ?_
      rintro e w5 ⟨d5, m5, c5, rfl, hm5, hb5, O5⟩
      have B5 := hb.trans (hb5.mono hb.size)
      have O6 := own_base' O5 hb.size
      clear CP O5 c0 c1
      go_wp2_with fail
      go_roundw
      case rel => exact ⟨k + 1, m5, c5, d5, by omega, by go_num, rfl, Lib.hid (by rw [HS.out]; exact hm5), by rw [HS.out]; exact O6, B5⟩
      case measure => simp [intOf]; omega
    · obtain rfl : k = nb := by omega
      rw [HF.out] at HQ O
      have CT := specTotalsOk_any d q c L0 wr (by omega) hSok.out (Rd.of_own O)
      have Bt := B3.trans (hb.mono B3.size)
      have O6 := own_base' O B3.size
      obtain rfl := HQ.out
      cases ht : totsOk L0
      · rw [ht] at CT
        go_wp2_with fail
        refine CT.mono ?_
        rintro e w5 ⟨rfl, hb5⟩
        have B5 := Bt.trans (hb5.mono Bt.size)
        go_wp2_with fail
        go_ret2
        exact ⟨none, 0, 0, false, rfl, B5, .inl ⟨rfl, ht, rfl, rfl, rfl⟩⟩
      · rw [ht] at CT
        go_wp2_with fail
        refine CT.mono ?_
        rintro e w5 ⟨rfl, hb5⟩
        have B5 := Bt.trans (hb5.mono Bt.size)
        have O7 := own_below O6 hb5
        go_wp2_with fail
        go_ret2
        exact ⟨d, L0.length, c, true, rfl, B5, .inr ⟨rfl, ht, rfl, O7⟩⟩
end Go.Proofs.Ytnmlnenepceabaa

namespace Go.Proofs.Ytnmlnenepceabaa
open Go.RowKit
theorem combinedB_not {X Y : List TotV} {N : Int} (h : inK N = false) : combinedB X Y N = false ∧ combinedS X Y N = [] := by
  have e : combinedB X Y N = false := by unfold combinedB; rw [h]; simp
  exact ⟨e, by unfold combinedS; rw [e]; exact if_neg (by decide)⟩
theorem combinedB_no1 {X Y : List TotV} {N : Int} (h : totsOk X = false) : combinedB X Y N = false ∧ combinedS X Y N = [] := by
  have e : combinedB X Y N = false := by unfold combinedB; rw [h]; simp
  exact ⟨e, by unfold combinedS; rw [e]; exact if_neg (by decide)⟩
theorem combinedB_no2 {X Y : List TotV} {N : Int} (h : totsOk Y = false) : combinedB X Y N = false ∧ combinedS X Y N = [] := by
  have e : combinedB X Y N = false := by unfold combinedB; rw [h]; simp
  exact ⟨e, by unfold combinedS; rw [e]; exact if_neg (by decide)⟩
theorem func_not_nil (F : Nat) (w : World) : (binOp BinOp.eql 82 (.func (.func F) #[] #[]) .nilFunc).run Try.prog w = .ok (.bool false) w := by kernel_rfl
theorem nil_is_nil (w : World) : (binOp BinOp.eql 82 .nilFunc .nilFunc).run Try.prog w = .ok (.bool true) w := by kernel_rfl
set_option maxRecDepth 100000 in
set_option maxHeartbeats 4000000 in
theorem implComb_go (F : Nat) (c : Int → Int → Int) (a b : Option Addr) (na ca nb cb : Nat) (X Y : List TotV) (N : Int) (w : World) (ha : na ≤ 1048576) (hb0 : nb ≤ 1048576) (hXo : ∀ t ∈ X, t.Ok) (hYo : ∀ t ∈ Y, t.Ok) (hX : Rd w w.heap.size 2 a na (flatT X)) (hY : Rd w w.heap.size 2 b nb (flatT Y)) (hN : inK N = true) (hcN : c = cK N)
    (hAg : ∀ w, Calls Try.prog 64 #[.int .i64 N] w fun e w' => ∃ tv, FnV tv ∧ e = .returned (.tuple #[.agg #[tv, .func (.func F) #[] #[]], .bool true]) ∧ Below w.heap.size w w')
    (hBy : ∀ (w : World), na ≤ 120 → nb ≤ 120 → Rd w w.heap.size 2 a na (flatT X) → Rd w w.heap.size 2 b nb (flatT Y) → NumT 999999999999 X → NumT 999999999999 Y →
      Calls Try.prog 96 #[.slice a na ca, .slice b nb cb, .func (.func F) #[] #[]] w fun e w' => ∃ d q c', e = .returned (.slice d q c') ∧ (accT c (mergeT (mergeT [] X) Y) (na + nb)).length = q ∧ Below w.heap.size w w' ∧ w'.ownsRow w.heap.size 45 2 (.slice d q c') q (flatT (accT c (mergeT (mergeT [] X) Y) (na + nb)))) :
    Calls Try.prog 52 #[.slice a na ca, .slice b nb cb, .int .i64 N] w (TotsB w (combinedS X Y N) (combinedB X Y N)) := by
  have C0 := fun w h => implTotalsOk_any a na ca X w ha hXo h
  have C1 := fun w h => implTotalsOk_any b nb cb Y w hb0 hYo h
  have hnn := func_not_nil F
  have HC : ∀ q : Bool, q = combinedB X Y N → q = combinedB X Y N := fun _ h => h
  have hXl := hX.tots_length
  have hYl := hY.tots_length
  cases hx : totsOk X
  · obtain ⟨e1, e2⟩ := combinedB_no1 (Y := Y) (N := N) hx
    rw [e1, e2]
    rw [hx] at C0
    clear e1 e2 HC C1 hBy hx
    unfold TotsB
    go_enter Try.func52, Try.ntmps52
    go_wp2_with fail
    refine (hAg _).mono ?_
    rintro e w1 ⟨tv, ht, rfl, hb1⟩
    have BA := hb1.alloc hb1.size (.cells #[tv, .func (.func F) #[] #[]] 84)
    have RA := (hX.below BA (Nat.le_refl _)).more BA.size
    rcases ht with rfl | ⟨f1, a1, b1, rfl⟩
    all_goals
      go_wp2_with fail
      refine (C0 _ RA).mono ?_
      rintro e w2 ⟨rfl, hb2⟩
      have B2 := BA.trans (hb2.mono BA.size)
      go_wp2_with fail
      go_ret2
      exact ⟨none, 0, rfl, B2, World.ownsRow_nil _ _ _ _⟩
  cases hy : totsOk Y
  · obtain ⟨e1, e2⟩ := combinedB_no2 (X := X) (N := N) hy
    rw [e1, e2]
    rw [hx] at C0
    rw [hy] at C1
    clear e1 e2 HC hBy hx hy
    unfold TotsB
    go_enter Try.func52, Try.ntmps52
    go_wp2_with fail
    refine (hAg _).mono ?_
    rintro e w1 ⟨tv, ht, rfl, hb1⟩
    have BA := hb1.alloc hb1.size (.cells #[tv, .func (.func F) #[] #[]] 84)
    have RA := (hX.below BA (Nat.le_refl _)).more BA.size
    rcases ht with rfl | ⟨f1, a1, b1, rfl⟩
    all_goals
      go_wp2_with fail
      refine (C0 _ RA).mono ?_
      rintro e w2 ⟨rfl, hb2⟩
      have B2 := BA.trans (hb2.mono BA.size)
      go_wp2_with fail
      refine (C1 _ ((hY.below B2 (Nat.le_refl _)).more B2.size)).mono ?_
      rintro e w3 ⟨rfl, hb3⟩
      have B3 := B2.trans (hb3.mono B2.size)
      go_wp2_with fail
      go_ret2
      exact ⟨none, 0, rfl, B3, World.ownsRow_nil _ _ _ _⟩
  have e1 : combinedB X Y N = totsOk (combL (cK N) X Y) := by unfold combinedB; rw [hx, hy, hN]; rfl
  suffices H : Calls Try.prog 52 #[.slice a na ca, .slice b nb cb, .int .i64 N] w (CombQ w (combL (cK N) X Y)) from H.mono fun e w' h => combQ_to h e1
  rw [hx] at C0
  rw [hy] at C1
  have hX120 : na ≤ 120 := by have := (tots_num hx).1; omega
  have hY120 : nb ≤ 120 := by have := (tots_num hy).1; omega
  have hac : accT c (mergeT (mergeT [] X) Y) (na + nb) = combL (cK N) X Y := by
    rw [hcN, show na + nb = X.length + Y.length by omega]
    exact acc_all (cK N) hx hy
  rw [hac] at hBy
  have CB := fun w h1 h2 => hBy w hX120 hY120 h1 h2 (tots_num hx).2 (tots_num hy).2
  have hLen := combK_len (cK N) hx hy Y.length
  rw [List.take_length] at hLen
  have CT := fun d q c' w h1 h => implTotalsOk_any d q c' (combL (cK N) X Y) w h1 (comb_ok (k := N) hx hy hXo hYo) h
  clear e1 HC hBy hx hy hac hcN
  generalize combL (cK N) X Y = L at *
  unfold CombQ
  go_enter Try.func52, Try.ntmps52
  go_wp2_with fail
  refine (hAg _).mono ?_
  rintro e w1 ⟨tv, ht, rfl, hb1⟩
  have BA := hb1.alloc hb1.size (.cells #[tv, .func (.func F) #[] #[]] 84)
  have RA := (hX.below BA (Nat.le_refl _)).more BA.size
  have hcl : (w1.alloc (.cells #[tv, .func (.func F) #[] #[]] 84)).cell? ⟨w1.heap.size, 1, none⟩ = some (.func (.func F) #[] #[]) := by simp [go_sem]
  have hsz : w1.heap.size < (w1.alloc (.cells #[tv, .func (.func F) #[] #[]] 84)).heap.size := by simp
  rcases ht with rfl | ⟨f1, a1, b1, rfl⟩
  all_goals
    go_wp2_with fail
    refine (C0 _ RA).mono ?_
    rintro e w2 ⟨rfl, hb2⟩
    have B2 := BA.trans (hb2.mono BA.size)
    have hc2 := (hb2.cell (p := ⟨w1.heap.size, 1, none⟩) hsz).trans hcl
    have hz2 := Nat.lt_of_lt_of_le hsz hb2.size
    clear hcl hsz hb2 RA BA
    go_wp2_with fail
    refine (C1 _ ((hY.below B2 (Nat.le_refl _)).more B2.size)).mono ?_
    rintro e w3 ⟨rfl, hb3⟩
    have B3 := B2.trans (hb3.mono B2.size)
    have hc3 := (hb3.cell (p := ⟨w1.heap.size, 1, none⟩) hz2).trans hc2
    clear hc2 hz2 hb3 B2
    go_wp2_with fail
    refine (CB _ ((hX.below B3 (Nat.le_refl _)).more B3.size) ((hY.below B3 (Nat.le_refl _)).more B3.size)).mono ?_
    rintro e w4 ⟨d, q, c', rfl, hq, hb4, O4⟩
    have B4 := B3.trans (hb4.mono B3.size)
    have O5 := own_base' O4 B3.size
    subst hq
    have CT' := CT d L.length c' w4 (by omega) (Rd.of_own O4)
    clear CT CB hb4 O4
    cases ht : totsOk L
    · rw [ht] at CT'
      go_wp2_with fail
      refine CT'.mono ?_
      rintro e w5 ⟨rfl, hb5⟩
      have B5 := B4.trans (hb5.mono B4.size)
      go_wp2_with fail
      go_ret2
      exact ⟨none, 0, 0, false, rfl, B5, .inl ⟨rfl, ht, rfl, rfl, rfl⟩⟩
    · rw [ht] at CT'
      go_wp2_with fail
      refine CT'.mono ?_
      rintro e w5 ⟨rfl, hb5⟩
      have B5 := B4.trans (hb5.mono B4.size)
      have O7 := own_below O5 hb5
      go_wp2_with fail
      go_ret2
      exact ⟨d, L.length, c', true, rfl, B5, .inr ⟨rfl, ht, rfl, O7⟩⟩
set_option maxRecDepth 100000 in
set_option maxHeartbeats 4000000 in
theorem implComb_no (a b : Option Addr) (na ca nb cb : Nat) (N : Int) (w : World)
    (hAg : ∀ w, Calls Try.prog 64 #[.int .i64 N] w fun e w' => ∃ tv q, FnV tv ∧ e = .returned (.tuple #[.agg #[tv, .nilFunc], .bool q]) ∧ Below w.heap.size w w') :
    Calls Try.prog 52 #[.slice a na ca, .slice b nb cb, .int .i64 N] w (TotsB w [] false) := by
  unfold TotsB
  have hnn := nil_is_nil
  go_enter Try.func52, Try.ntmps52
  go_wp2_with fail
  refine (hAg _).mono ?_
  rintro e w1 ⟨tv, q, ht, rfl, hb1⟩
  have BA := hb1.alloc hb1.size (.cells #[tv, .nilFunc] 84)
  rcases ht with rfl | ⟨f1, a1, b1, rfl⟩ <;> cases q
  all_goals
    go_wp2_with fail
    go_ret2
    exact ⟨none, 0, rfl, BA, World.ownsRow_nil _ _ _ _⟩
theorem implCombined_any (a : Option Addr) (na ca : Nat) (X : List TotV) (b : Option Addr) (nb cb : Nat) (Y : List TotV) (N : Int) (w : World) (ha : na ≤ 1048576) (hXo : ∀ t ∈ X, t.Ok) (hX : Rd w w.heap.size 2 a na (flatT X)) (hb0 : nb ≤ 1048576) (hYo : ∀ t ∈ Y, t.Ok) (hY : Rd w w.heap.size 2 b nb (flatT Y)) :
    Calls Try.prog 52 #[.slice a na ca, .slice b nb cb, .int .i64 N] w (TotsB w (combinedS X Y N) (combinedB X Y N)) := by
  cases hN : inK N
  · rw [(combinedB_not hN).1, (combinedB_not hN).2]
    refine implComb_no a b na ca nb cb N w fun w => ?_
    cases hk : (decide (1 ≤ N) && decide (N ≤ 5))
    · refine (aggr_no N hk w).mono ?_
      rintro e w1 ⟨rfl, hb⟩
      exact ⟨_, _, .inl rfl, rfl, hb⟩
    · obtain rfl : N = 5 := by
        rcases kind_five hk with rfl | rfl | rfl | rfl | rfl
        · exact absurd hN (by decide)
        · exact absurd hN (by decide)
        · exact absurd hN (by decide)
        · exact absurd hN (by decide)
        · rfl
      refine (aggr_5 w).mono ?_
      rintro e w1 ⟨rfl, hb⟩
      exact ⟨_, _, .inr ⟨_, _, _, rfl⟩, rfl, hb⟩
  · have hk : N = 1 ∨ N = 2 ∨ N = 3 ∨ N = 4 := by
      have h := hN
      unfold inK at h
      rw [Bool.and_eq_true, decide_eq_true_eq, decide_eq_true_eq] at h
      omega
    rcases hk with rfl | rfl | rfl | rfl
    · refine implComb_go 106 (fun x y => x + y) a b na ca nb cb X Y 1 w ha hb0 hXo hYo hX hY hN (by funext x y; unfold cK; rw [if_neg (by omega), if_neg (by omega)]) (fun w => (aggr_1 w).mono ?_) (fun w h1 h2 h3 h4 h5 h6 => by_plus a b na ca nb cb X Y w h1 h2 h3 h4 h5 h6)
      rintro e w1 ⟨rfl, hb⟩
      exact ⟨_, .inr ⟨_, _, _, rfl⟩, rfl, hb⟩
    · refine implComb_go 106 (fun x y => x + y) a b na ca nb cb X Y 2 w ha hb0 hXo hYo hX hY hN (by funext x y; unfold cK; rw [if_neg (by omega), if_neg (by omega)]) (fun w => (aggr_2 w).mono ?_) (fun w h1 h2 h3 h4 h5 h6 => by_plus a b na ca nb cb X Y w h1 h2 h3 h4 h5 h6)
      rintro e w1 ⟨B, _, _, _, rfl, hb⟩
      exact ⟨_, .inr ⟨_, _, _, rfl⟩, rfl, hb⟩
    · refine implComb_go 108 min a b na ca nb cb X Y 3 w ha hb0 hXo hYo hX hY hN (by funext x y; unfold cK; rw [if_pos rfl]) (fun w => (aggr_3 w).mono ?_) (fun w h1 h2 h3 h4 h5 h6 => by_lesser a b na ca nb cb X Y w h1 h2 h3 h4 h5 h6)
      rintro e w1 ⟨B, _, _, _, rfl, hb⟩
      exact ⟨_, .inr ⟨_, _, _, rfl⟩, rfl, hb⟩
    · refine implComb_go 109 max a b na ca nb cb X Y 4 w ha hb0 hXo hYo hX hY hN (by funext x y; unfold cK; rw [if_neg (by omega), if_pos rfl]) (fun w => (aggr_4 w).mono ?_) (fun w h1 h2 h3 h4 h5 h6 => by_greater a b na ca nb cb X Y w h1 h2 h3 h4 h5 h6)
      rintro e w1 ⟨B, _, _, _, rfl, hb⟩
      exact ⟨_, .inr ⟨_, _, _, rfl⟩, rfl, hb⟩
end Go.Proofs.Ytnmlnenepceabaa

namespace Go.Proofs.Ytnmlnenepceabaa
open Go.RowKit
def markTot (K : Nat) : TotV := ⟨markB K, ((K + 1 : Nat) : Int)⟩
def marksT (K j : Nat) : List TotV := (List.range j).map fun i => markTot (K + 2 * i)
theorem marksT_succ (K j : Nat) : flatT (marksT K (j + 1)) = flatT (marksT K j) ++ [.string (markB (K + 2 * j)), .int .i64 ((K + 2 * j + 1 : Nat) : Int)] := by
  simp [flatT, marksT, List.range_succ, TotV.cells, markTot]
theorem marksT_get {K n j : Nat} (h : j < n) : (marksT K n)[j]? = some (markTot (K + 2 * j)) := by simp [marksT, h]
set_option maxRecDepth 100000 in
set_option maxHeartbeats 1000000 in
theorem markTotalS_any (a : Option Addr) (n cap K base : Nat) (xs : List Value) (w : World) (hm : n ≤ 1048576) (h1 : 1 ≤ K) (hK : K ≤ 1048576000) (hO : w.ownsRow base 45 2 (.slice a n cap) n xs) :
    Calls Try.prog 22 #[.slice a n cap, .int .i64 K] w fun e w' => e = .returned (.int .i64 (K + 2 * n)) ∧ w'.ownsRow base 45 2 (.slice a n cap) n (flatT (marksT K n)) ∧ w.grownBy w' (Value.slice a n cap).ownBlock := by
  go_enter Try.func22, Try.ntmps22
  go_wp2
  go_loopw [1, 5] (fun q i wr => ∃ (j : Nat) (ys : List Value), j ≤ n ∧ i = .int .i64 j ∧ q = .int .i64 (K + 2 * j) ∧ wr.ownsRow base 45 2 (.slice a n cap) n ys ∧ ys.take (j * 2) = flatT (marksT K j) ∧ w.grownBy wr (Value.slice a n cap).ownBlock) (fun _ i _ => n - (intOf i).toNat)
  case atStart => exact ⟨0, xs, Nat.zero_le _, rfl, by simp, hO, by simp [marksT, flatT], World.grownBy.refl _ _⟩
  case round =>
    obtain ⟨j, ys, hj, rfl, rfl, hY, hx, hg⟩ := hrel
    have Hx := Lib.hid hx
    clear hx
    by_cases hlt : j < n
    · obtain ⟨g, rfl, hbg, hgs⟩ := own_form hY (by omega)
      have hxl : j * 2 + 1 < ys.length := by rw [hY.1]; omega
      have hcast := Lib.hid (show ((K : Int) + 2 * (j : Int)) = ((K + 2 * j : Nat) : Int) by simp)
      go_wp2_with fail
      rw [hcast.out]
      refine (markText_any (K + 2 * j) _ (by omega) (by omega)).mono ?_
      rintro e w1 ⟨rfl, hb1⟩
      have hY1 := own_below hY hb1
      have hg1 : w.grownBy w1 (some g) := gb_trans hg (gb_of_below hb1 _)
      have f0 := hY1.frozenAt (j * 2)
      have f1 := hY1.frozenAt (j * 2 + 1)
      obtain ⟨u0, e0⟩ := own_cell hY1 (j := j * 2) (by omega)
      obtain ⟨u1, e1⟩ := own_cell hY1 (j := j * 2 + 1) (by omega)
      have hY2 := ((hY1.stored (j * 2) (.string (markB (K + 2 * j)))).1.stored (j * 2 + 1) (.int .i64 ((K : Int) + 2 * (j : Int) + 1))).1
      have hg2 := gb_store (gb_store hg1 (j * 2) (.string (markB (K + 2 * j)))) (j * 2 + 1) (.int .i64 ((K : Int) + 2 * (j : Int) + 1))
      clear hb1 hY hY1 hg1
      go_wp2_with fail
      go_roundw
      case rel => exact ⟨j + 1, _, by omega, by go_num, by go_num, hY2, (take_set2 _ _ Hx.out hxl).trans (by rw [marksT_succ]; simp), hg2⟩
      case measure => simp [intOf]; omega
    · obtain rfl : j = n := by omega
      have hx := Hx.out
      rw [List.take_of_length_le (by rw [hY.1]; omega)] at hx
      subst hx
      go_wp2_with fail
      go_ret
      exact ⟨rfl, hY, hg⟩
set_option maxRecDepth 100000 in
set_option maxHeartbeats 1000000 in
theorem heldTotalS_any (a : Option Addr) (n cap K : Nat) (w : World) (hm : n ≤ 1048576) (h1 : 1 ≤ K) (hK : K ≤ 1048576000) (hR : Rd w w.heap.size 2 a n (flatT (marksT K n))) :
    Calls Try.prog 23 #[.slice a n cap, .int .i64 K] w fun e w' => e = .returned (.int .i64 (K + 2 * n)) ∧ Below w.heap.size w w' := by
  go_enter Try.func23, Try.ntmps23
  go_wp2
  go_loopw [1, 5] (fun q i wr => ∃ j : Nat, j ≤ n ∧ i = .int .i64 j ∧ q = .int .i64 (K + 2 * j) ∧ Below w.heap.size w wr) (fun _ i _ => n - (intOf i).toNat)
  case atStart => exact ⟨0, Nat.zero_le _, rfl, by simp, Below.refl _ _⟩
  case round =>
    obtain ⟨j, hj, rfl, rfl, hb⟩ := hrel
    by_cases hlt : j < n
    · obtain ⟨b, off, r, rfl, hB, hs, c0, c1⟩ := (hR.below hb (Nat.le_refl _)).tot hlt
      obtain rfl : markTot (K + 2 * j) = r := by rw [marksT_get hlt] at hs; injection hs
      have hcast := Lib.hid (show ((K : Int) + 2 * (j : Int)) = ((K + 2 * j : Nat) : Int) by simp)
      replace c0 : wr.cell? ⟨b, off + j * 2, none⟩ = some (.string (markB (K + 2 * j))) := c0
      replace c1 : wr.cell? ⟨b, off + j * 2 + 1, none⟩ = some (.int .i64 ((K : Int) + 2 * (j : Int) + 1)) := c1.trans (by simp [markTot])
      clear hs
      go_wp2_with fail
      go_region_held3 (fun w' => w'.cell? ⟨b, off + j * 2, none⟩ = some (.string (markB (K + 2 * j))) ∧ w'.cell? ⟨b, off + j * 2 + 1, none⟩ = some (.int .i64 ((K : Int) + 2 * (j : Int) + 1)) ∧ Below w.heap.size w w')
        (first | exact ⟨c0, c1, hb.drew⟩ | exact ⟨(hb'.cell (p := ⟨b, off + j * 2, none⟩) (Nat.lt_of_lt_of_le hB hb.size)).trans c0, (hb'.cell (p := ⟨b, off + j * 2 + 1, none⟩) (Nat.lt_of_lt_of_le hB hb.size)).trans c1, hb.drew.trans (hb'.mono hb.size)⟩)
        (first | (go_at_call 68; rw [hcast.out]; refine (markText_any (K + 2 * j) _ (by omega) (by omega)).mono ?_; rintro e w' ⟨rfl, hb'⟩))
      rename_i hH
      obtain ⟨d0, d1, hB2⟩ := hH
      clear c0 c1 hb' d0
      go_wp2_with fail
      go_roundw
      case rel => exact ⟨j + 1, by omega, by go_num, by go_num, hB2⟩
      case measure => simp [intOf]; omega
    · obtain rfl : j = n := by omega
      go_wp2_with fail
      go_ret
      exact ⟨rfl, hb⟩
end Go.Proofs.Ytnmlnenepceabaa

namespace Go.Proofs.Ytnmlnenepceabaa
open Go.RowKit

set_option maxRecDepth 100000 in
set_option maxHeartbeats 4000000 in
theorem walk_ExactCombined (a0 : Option Addr) (len0 cap0 : Nat) (x0 : List TotV) (a1 : Option Addr) (len1 cap1 : Nat) (x1 : List TotV) (N2 : Int) (w : World) (hI0 : IsTots w a0 len0 cap0 x0) (hI1 : IsTots w a1 len1 cap1 x1) (_ : (Lit.int .i64 N2).wf = true) :
    Calls Try.prog 10 #[.slice a0 len0 cap0, .slice a1 len1 cap1, .int .i64 N2] w fun e w' => e = .returned (.bool true) ∧ Below w.heap.size w w' := by
  obtain ⟨hlc0, hcm0, hok0, hR0⟩ := hI0
  obtain ⟨hlc1, hcm1, hok1, hR1⟩ := hI1
  have CS : ∀ (b0 : Option Addr) (c0 : Nat) (b1 : Option Addr) (c1 : Nat) (w : World), len0 ≤ 1048576 → Rd w w.heap.size 2 b0 len0 (flatT x0) → len1 ≤ 1048576 → Rd w w.heap.size 2 b1 len1 (flatT x1) → Calls Try.prog 50 #[.slice b0 len0 c0, .slice b1 len1 c1, .int .i64 N2] w fun e w' => ∃ a c, e = .returned (.tuple #[.slice a (combinedS x0 x1 N2).length c, .bool (combinedB x0 x1 N2)]) ∧ Below w.heap.size w w' ∧ w'.ownsRow w.heap.size 45 2 (.slice a (combinedS x0 x1 N2).length c) (combinedS x0 x1 N2).length (flatT (combinedS x0 x1 N2)) := fun b0 c0 b1 c1 w m0 d0 m1 d1 => specCombined_any b0 len0 c0 x0 b1 len1 c1 x1 N2 w  m0 hok0 d0 m1 hok1 d1
  have CI : ∀ (b0 : Option Addr) (c0 : Nat) (b1 : Option Addr) (c1 : Nat) (w : World), len0 ≤ 1048576 → Rd w w.heap.size 2 b0 len0 (flatT x0) → len1 ≤ 1048576 → Rd w w.heap.size 2 b1 len1 (flatT x1) → Calls Try.prog 52 #[.slice b0 len0 c0, .slice b1 len1 c1, .int .i64 N2] w fun e w' => ∃ a c, e = .returned (.tuple #[.slice a (combinedS x0 x1 N2).length c, .bool (combinedB x0 x1 N2)]) ∧ Below w.heap.size w w' ∧ w'.ownsRow w.heap.size 45 2 (.slice a (combinedS x0 x1 N2).length c) (combinedS x0 x1 N2).length (flatT (combinedS x0 x1 N2)) := fun b0 c0 b1 c1 w m0 d0 m1 d1 => implCombined_any b0 len0 c0 x0 b1 len1 c1 x1 N2 w  m0 hok0 d0 m1 hok1 d1
  have hsl := combinedS_le x0 x1 N2
  generalize (combinedB x0 x1 N2) = ok at CS CI
  generalize combinedS x0 x1 N2 = ss at CS CI hsl
  have hsm := hsl
  clear hsl
  generalize hln : ss.length = m at CS CI hsm
  clear hln
  go_enter Try.func10, Try.ntmps10
  have B0 := Below.refl w.heap.size w
  go_wp2_with fail
  refine (szTotalS_any a0 len0 cap0 x0 _ _ (by omega) hok0 ((hR0.below B0 (Nat.le_refl _)).more B0.size) (by omega) (by omega)).mono ?_
  rintro e w1 ⟨z1, rfl, hb, hz⟩
  rcases hz with rfl | ⟨hz0_0, hz1_0, hz2_0⟩
  · go_wp2_with fail
    go_ret
    exact ⟨rfl, B0.trans (hb.mono B0.size)⟩
  have B1 := B0.trans (hb.mono B0.size)
  have s1 : w.heap.size ≤ w1.heap.size := hb.size
  clear hb B0
  have hm0 : len0 ≤ 1048576 := by omega
  go_wp2_with fail
  refine (szTotalS_any a1 len1 cap1 x1 _ _ (by omega) hok1 ((hR1.below B1 (Nat.le_refl _)).more B1.size) (by omega) (by omega)).mono ?_
  rintro e w2 ⟨z2, rfl, hb, hz⟩
  rcases hz with rfl | ⟨hz0_1, hz1_1, hz2_1⟩
  · go_wp2_with fail
    go_ret
    exact ⟨rfl, B1.trans (hb.mono B1.size)⟩
  have B2 := B1.trans (hb.mono B1.size)
  have s2 : w1.heap.size ≤ w2.heap.size := hb.size
  clear hb B1
  have hm1 : len1 ≤ 1048576 := by omega
  go_wp2_with fail
  refine (toTotalS_any a0 len0 cap0 x0 _ hm0 ((hR0.below B2 (Nat.le_refl _)).more B2.size)).mono ?_
  rintro e w3 ⟨rfl, hb, hO⟩
  have B3 := B2.trans (hb.mono B2.size)
  have s3 : w2.heap.size ≤ w3.heap.size := hb.size
  clear hb B2
  have S0_3 := hO
  clear hO
  go_wp2_with fail
  refine (toTotalS_any a1 len1 cap1 x1 _ hm1 ((hR1.below B3 (Nat.le_refl _)).more B3.size)).mono ?_
  rintro e w4 ⟨rfl, hb, hO⟩
  have B4 := B3.trans (hb.mono B3.size)
  have s4 : w3.heap.size ≤ w4.heap.size := hb.size
  have S0_4 := own_below S0_3 hb
  clear S0_3
  clear hb B3
  have S1_4 := hO
  clear hO
  go_wp2_with fail
  refine (CS _ len0 _ len1 _ hm0 (Rd.of_own S0_4) hm1 (Rd.of_own S1_4)).mono ?_
  rintro e w5 ⟨aW, cW, rfl, hb, hO⟩
  have B5 := B4.trans (hb.mono B4.size)
  have s5 : w4.heap.size ≤ w5.heap.size := hb.size
  have S0_5 := own_below S0_4 hb
  clear S0_4
  have S1_5 := own_below S1_4 hb
  clear S1_4
  clear hb B4
  have V_5 := Rd.of_own hO
  clear hO CS
  clear S0_5
  clear S1_5
  go_wp2_with fail
  refine (toTotalS_any a0 len0 cap0 x0 _ hm0 ((hR0.below B5 (Nat.le_refl _)).more B5.size)).mono ?_
  rintro e w6 ⟨rfl, hb, hO⟩
  have B6 := B5.trans (hb.mono B5.size)
  have s6 : w5.heap.size ≤ w6.heap.size := hb.size
  have V_6 := V_5.below hb (by omega)
  clear V_5
  clear hb B5
  have X0_6 := hO
  clear hO
  have hX0 : w5.heap.size < w6.heap.size := (own_ge X0_6 w5.heap.size rfl).2
  go_wp2_with fail
  refine (toTotalS_any a1 len1 cap1 x1 _ hm1 ((hR1.below B6 (Nat.le_refl _)).more B6.size)).mono ?_
  rintro e w7 ⟨rfl, hb, hO⟩
  have B7 := B6.trans (hb.mono B6.size)
  have s7 : w6.heap.size ≤ w7.heap.size := hb.size
  have V_7 := V_6.below hb (by omega)
  clear V_6
  have X0_7 := own_below X0_6 hb
  clear X0_6
  clear hb B6
  have X1_7 := hO
  clear hO
  have hX1 : w6.heap.size < w7.heap.size := (own_ge X1_7 w6.heap.size rfl).2
  go_wp2_with fail
  refine (CI _ len0 _ len1 _ hm0 (Rd.of_own X0_7) hm1 (Rd.of_own X1_7)).mono ?_
  rintro e w8 ⟨aG, cG, rfl, hb, hO⟩
  have B8 := B7.trans (hb.mono B7.size)
  have s8 : w7.heap.size ≤ w8.heap.size := hb.size
  have V_8 := V_7.below hb (by omega)
  clear V_7
  have X0_8 := own_below X0_7 hb
  clear X0_7
  have X1_8 := own_below X1_7 hb
  clear X1_7
  clear hb B7
  have G_8 := hO
  clear hO
  go_wp2_with fail
  refine (eqTotalS_same aG aW m cG cW ss _ (by omega) (Rd.of_own G_8) (V_8.more (by omega))).mono ?_
  rintro e w9 ⟨rfl, hb⟩
  have B9 := B8.trans (hb.mono B8.size)
  have s9 : w8.heap.size ≤ w9.heap.size := hb.size
  have V_9 := V_8.below hb (by omega)
  clear V_8
  have X0_9 := own_below X0_8 hb
  clear X0_8
  have X1_9 := own_below X1_8 hb
  clear X1_8
  have G_9 := own_below G_8 hb
  clear G_8
  clear hb B8
  go_wp2_with fail
  refine (toTotalS_any a0 len0 cap0 x0 _ hm0 ((hR0.below B9 (Nat.le_refl _)).more B9.size)).mono ?_
  rintro e w10 ⟨rfl, hb, hO⟩
  have B10 := B9.trans (hb.mono B9.size)
  have s10 : w9.heap.size ≤ w10.heap.size := hb.size
  have V_10 := V_9.below hb (by omega)
  clear V_9
  have X0_10 := own_below X0_9 hb
  clear X0_9
  have X1_10 := own_below X1_9 hb
  clear X1_9
  have G_10 := own_below G_9 hb
  clear G_9
  clear hb B9
  have Y0_10 := hO
  clear hO
  go_wp2_with fail
  refine (eqTotalS_same _ _ len0 len0 len0 x0 _ hm0 (Rd.of_own X0_10) (Rd.of_own Y0_10)).mono ?_
  rintro e w11 ⟨rfl, hb⟩
  have B11 := B10.trans (hb.mono B10.size)
  have s11 : w10.heap.size ≤ w11.heap.size := hb.size
  have V_11 := V_10.below hb (by omega)
  clear V_10
  have X0_11 := own_below X0_10 hb
  clear X0_10
  have X1_11 := own_below X1_10 hb
  clear X1_10
  have G_11 := own_below G_10 hb
  clear G_10
  have Y0_11 := own_below Y0_10 hb
  clear Y0_10
  clear hb B10
  clear Y0_11
  go_wp2_with fail
  refine (toTotalS_any a1 len1 cap1 x1 _ hm1 ((hR1.below B11 (Nat.le_refl _)).more B11.size)).mono ?_
  rintro e w12 ⟨rfl, hb, hO⟩
  have B12 := B11.trans (hb.mono B11.size)
  have s12 : w11.heap.size ≤ w12.heap.size := hb.size
  have V_12 := V_11.below hb (by omega)
  clear V_11
  have X0_12 := own_below X0_11 hb
  clear X0_11
  have X1_12 := own_below X1_11 hb
  clear X1_11
  have G_12 := own_below G_11 hb
  clear G_11
  clear hb B11
  have Y1_12 := hO
  clear hO
  go_wp2_with fail
  refine (eqTotalS_same _ _ len1 len1 len1 x1 _ hm1 (Rd.of_own X1_12) (Rd.of_own Y1_12)).mono ?_
  rintro e w13 ⟨rfl, hb⟩
  have B13 := B12.trans (hb.mono B12.size)
  have s13 : w12.heap.size ≤ w13.heap.size := hb.size
  have V_13 := V_12.below hb (by omega)
  clear V_12
  have X0_13 := own_below X0_12 hb
  clear X0_12
  have X1_13 := own_below X1_12 hb
  clear X1_12
  have G_13 := own_below G_12 hb
  clear G_12
  have Y1_13 := own_below Y1_12 hb
  clear Y1_12
  clear hb B12
  clear Y1_13
  go_wp2_with fail
  refine (markTotalS_any _ len0 len0 1 w5.heap.size _ _ hm0 (by omega) (by omega) X0_13).mono ?_
  rintro e w14 ⟨rfl, _, hg⟩
  have hS : Since w5.heap.size w6.heap.size w13 w14 := Since.of_gb hg (fun g e => by
    have e1 : w5.heap.size = g := by injection e
    omega)
  clear hg
  clear X0_13
  have s14 : w13.heap.size ≤ w14.heap.size := hS.size
  have B14 := B13.trans (hS.below (B := w.heap.size) (by have := B13.size; omega) B13.size)
  have V_14 := V_13.below (hS.below (B := w5.heap.size) (by omega) (by omega)) (Nat.le_refl _)
  clear V_13
  have X1_14 := Since.own X1_13 hS (by omega)
  clear X1_13
  have G_14 := Since.own G_13 hS (by omega)
  clear G_13
  clear hS B13
  go_wp2_with fail
  rw [show ((1 : Int) + 2 * (len0 : Int)) = ((1 + 2 * len0 : Nat) : Int) by omega]
  refine (markTotalS_any _ len1 len1 (1 + 2 * len0) w6.heap.size _ _ hm1 (by omega) (by omega) X1_14).mono ?_
  rintro e w15 ⟨rfl, _, hg⟩
  have hS : Since w6.heap.size w7.heap.size w14 w15 := Since.of_gb hg (fun g e => by
    have e1 : w6.heap.size = g := by injection e
    omega)
  clear hg
  clear X1_14
  have s15 : w14.heap.size ≤ w15.heap.size := hS.size
  have B15 := B14.trans (hS.below (B := w.heap.size) (by have := B14.size; omega) B14.size)
  have V_15 := V_14.below (hS.below (B := w5.heap.size) (by omega) (by omega)) (Nat.le_refl _)
  clear V_14
  have G_15 := Since.own G_14 hS (by omega)
  clear G_14
  clear hS B14
  go_wp2_with fail
  refine (eqTotalS_same aG aW m cG cW ss _ (by omega) (Rd.of_own G_15) (V_15.more (by omega))).mono ?_
  rintro e w16 ⟨rfl, hb⟩
  have B16 := B15.trans (hb.mono B15.size)
  have s16 : w15.heap.size ≤ w16.heap.size := hb.size
  have V_16 := V_15.below hb (by omega)
  clear V_15
  have G_16 := own_below G_15 hb
  clear G_15
  clear hb B15
  go_wp2_with fail
  refine (markTotalS_any aG m cG 1 w7.heap.size _ _ (by omega) (by omega) (by omega) G_16).mono ?_
  rintro e w17 ⟨rfl, hG2, hg⟩
  have hS : Since w7.heap.size w16.heap.size w16 w17 := Since.of_gb hg (fun g e => own_ge G_16 g e)
  clear hg
  clear G_16
  have s17 : w16.heap.size ≤ w17.heap.size := hS.size
  have B17 := B16.trans (hS.below (B := w.heap.size) (by have := B16.size; omega) B16.size)
  have V_17 := V_16.below (hS.below (B := w5.heap.size) (by omega) (by omega)) (Nat.le_refl _)
  clear V_16
  clear hS B16
  have Z_17 := Rd.of_own hG2
  clear hG2
  go_wp2_with fail
  refine (heldTotalS_any aG m cG 1 _ (by omega) (by omega) (by omega) (Z_17.more (by omega))).mono ?_
  rintro e w18 ⟨rfl, hb⟩
  have B18 := B17.trans (hb.mono B17.size)
  have s18 : w17.heap.size ≤ w18.heap.size := hb.size
  have V_18 := V_17.below hb (by omega)
  clear V_17
  have Z_18 := Z_17.below hb (by omega)
  clear Z_17
  clear hb B17
  go_wp2_with fail
  refine (toTotalS_any a0 len0 cap0 x0 _ hm0 ((hR0.below B18 (Nat.le_refl _)).more B18.size)).mono ?_
  rintro e w19 ⟨rfl, hb, hO⟩
  have B19 := B18.trans (hb.mono B18.size)
  have s19 : w18.heap.size ≤ w19.heap.size := hb.size
  have V_19 := V_18.below hb (by omega)
  clear V_18
  have Z_19 := Z_18.below hb (by omega)
  clear Z_18
  clear hb B18
  have Q0_19 := hO
  clear hO
  go_wp2_with fail
  refine (toTotalS_any a1 len1 cap1 x1 _ hm1 ((hR1.below B19 (Nat.le_refl _)).more B19.size)).mono ?_
  rintro e w20 ⟨rfl, hb, hO⟩
  have B20 := B19.trans (hb.mono B19.size)
  have s20 : w19.heap.size ≤ w20.heap.size := hb.size
  have V_20 := V_19.below hb (by omega)
  clear V_19
  have Z_20 := Z_19.below hb (by omega)
  clear Z_19
  have Q0_20 := own_below Q0_19 hb
  clear Q0_19
  clear hb B19
  have Q1_20 := hO
  clear hO
  go_wp2_with fail
  refine (CI _ len0 _ len1 _ hm0 (Rd.of_own Q0_20) hm1 (Rd.of_own Q1_20)).mono ?_
  rintro e w21 ⟨aH, cH, rfl, hb, hO⟩
  have B21 := B20.trans (hb.mono B20.size)
  have s21 : w20.heap.size ≤ w21.heap.size := hb.size
  have V_21 := V_20.below hb (by omega)
  clear V_20
  have Z_21 := Z_20.below hb (by omega)
  clear Z_20
  have Q0_21 := own_below Q0_20 hb
  clear Q0_20
  have Q1_21 := own_below Q1_20 hb
  clear Q1_20
  clear hb B20
  have H_21 := hO
  clear hO
  clear Q0_21
  clear Q1_21
  go_wp2_with fail
  refine (eqTotalS_same aH aW m cH cW ss _ (by omega) (Rd.of_own H_21) (V_21.more (by omega))).mono ?_
  rintro e w22 ⟨rfl, hb⟩
  have B22 := B21.trans (hb.mono B21.size)
  have s22 : w21.heap.size ≤ w22.heap.size := hb.size
  have V_22 := V_21.below hb (by omega)
  clear V_21
  have Z_22 := Z_21.below hb (by omega)
  clear Z_21
  have H_22 := own_below H_21 hb
  clear H_21
  clear hb B21
  clear H_22
  clear V_22
  go_wp2_with fail
  refine (heldTotalS_any aG m cG 1 _ (by omega) (by omega) (by omega) (Z_22.more (by omega))).mono ?_
  rintro e w23 ⟨rfl, hb⟩
  have B23 := B22.trans (hb.mono B22.size)
  have s23 : w22.heap.size ≤ w23.heap.size := hb.size
  have Z_23 := Z_22.below hb (by omega)
  clear Z_22
  clear hb B22
  go_wp2_with fail
  go_ret
  exact ⟨rfl, B23⟩
end Go.Proofs.Ytnmlnenepceabaa

namespace Go.Proofs.Ytnmlnenepceabaa
open Go.ChangeShapes Go.WideShapes Go.ChangeAt Go.RowKit Go.Joins
open Go.ChangeMaps (open_string shut_string)
namespace ExactCombined

set_option maxRecDepth 100000 in
theorem lifted (os : Os) (started : os.Started) (H : Type) (enc : TypeId × Value → H) :
    ReturnsInHanded {} Try.checked os 10 .any (Rows.fnExactCombinedSpec.pre6 enc Try.prog Try.f10 Rows.fnExactCombinedRow.domain false) (Rows.fnExactCombinedSpec.post enc Try.prog Try.f10 false true false false) := by
  refine returnsInHanded_of_change (C := Try.checked) own started (by kernel_rfl) Try.func10
    (ChangeSpec.witness6 (enc := enc) (C := Try.checked) false ⟨#[], #[.slice none 0 0, .slice none 0 0, .int .i64 0], []⟩ 8 (by kernel_rfl) (by kernel_rfl) (by kernel_rfl) (by kernel_rfl)) ?_
  intro W base args ds gs before hval0 hW _ _
  have hval : ∀ (j : Nat) t v, Try.f10.params[j]? = some t → args[j]? = some v → Value.okWide Try.prog W .any base t v := hval0
  have hW' := hW
  obtain ⟨p, q, hA0, hV, rfl, _, _⟩ := hW
  have hA : DataW.TrodAll enc Try.prog W 0 (fun _ => true) true Try.f10.params.toList args.toList ds p := hA0
  rw [Try.params10] at hA hval
  obtain ⟨v0, vs0, d0, ds0, p0, q0, hargs, rfl, rfl, h0, r0⟩ := trodAll_cons hA
  obtain ⟨v1, vs1, d1, ds1, p1, q1, rfl, rfl, rfl, h1, r1⟩ := trodAll_cons r0
  obtain ⟨v2, vs2, d2, ds2, p2, q2, rfl, rfl, rfl, h2, r2⟩ := trodAll_cons r1
  obtain ⟨rfl, rfl, rfl⟩ := trodAll_nil r2
  obtain rfl : args = #[v0, v1, v2] := by cases args; simp_all
  obtain ⟨rfl, rfl⟩ := trodVars_none hV
  have k0 := h0
  have lt0 : ∀ x ∈ p0, x.block < W.heap.size := by obtain ⟨m, hm⟩ := k0; exact DataW.trod_lt m _ _ _ hm
  obtain ⟨a0, len0, cap0, z0, rfl, w0⟩ := open_Tots (hval 0 66 v0 rfl rfl) h0
  have k1 := h1
  have lt1 : ∀ x ∈ p1, x.block < W.heap.size := by obtain ⟨m, hm⟩ := k1; exact DataW.trod_lt m _ _ _ hm
  obtain ⟨a1, len1, cap1, z1, rfl, w1⟩ := open_Tots (hval 1 66 v1 rfl rfl) h1
  have k2 := h2
  have lt2 : ∀ x ∈ p2, x.block < W.heap.size := by obtain ⟨m, hm⟩ := k2; exact DataW.trod_lt m _ _ _ hm
  obtain ⟨a2, rfl, rfl, rfl, w2⟩ := open_int Try.underlying2 (hval 2 2 v2 rfl rfl) h2
  clear hA0 hval0
  refine (walk_ExactCombined a0 len0 cap0 z0 a1 len1 cap1 z1 a2 W w0 w1 w2).mono fun e W' ⟨he, bel⟩ => ?_
  subst he
  exact ⟨_, rfl, _, _, _, [], _, [], hW', trodAll_mk1 (shut_bool Try.underlying4 _), (trodAll_cons_mk (Below.trod laidOut (by kernel_rfl) (of_decide_eq_true (by kernel_rfl)) k0 bel lt0) (trodAll_cons_mk (Below.trod laidOut (by kernel_rfl) (of_decide_eq_true (by kernel_rfl)) k1 bel lt1) (trodAll_cons_mk (Below.trod laidOut (by kernel_rfl) (of_decide_eq_true (by kernel_rfl)) k2 bel lt2) trodAll_mk0))), rfl, bel.frame _, fun h => by cases h⟩

theorem over : Rows.fnExactCombinedRow.holds Try.pinned (OpenSpec.ofChange Rows.fnExactCombinedSpec) :=
  OpenClaim.holds_of_wide 10 Try.f10 rfl rfl rfl rfl rfl rfl rfl ⟨rfl, rfl, rfl, rfl, rfl⟩ rfl rfl rfl rfl rfl (by kernel_rfl) Try.func10 (by kernel_rfl)
    (of_decide_eq_true (by kernel_rfl)) (by unfold Func.isWrapper; first | (rw [if_pos (by decide +kernel)]; kernel_rfl) | (rw [if_neg (by decide +kernel)]; exact ⟨rfl, rfl⟩))
    (fun os started H enc _ => lifted os started H enc)
end ExactCombined
theorem fnExactCombined_holds : Rows.FnExactCombinedSaid := ExactCombined.over
end Go.Proofs.Ytnmlnenepceabaa
