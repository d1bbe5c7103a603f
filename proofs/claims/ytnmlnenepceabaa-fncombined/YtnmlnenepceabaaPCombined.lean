/-
  Rows.FnCombinedSaid: laws.FnCombined returns true for every input, and each argument reads afterwards as it read before. No conditions.
-/
import Derived.Test.YtnmlnenepceabaaTotMem
import Derived.Test.YtnmlnenepceabaaLowD
import Derived.Test.YtnmlnenepceabaaAppendAny
import Derived.Test.YtnmlnenepceabaaRdIn
import Derived.Test.YtnmlnenepceabaaCmpRows
import Derived.Test.YtnmlnenepceabaaLowC
import Derived.Maps.AppendAt
import Derived.Test.YtnmlnenepceabaaLowE
import Derived.BigQuiet
import Derived.Test.YtnmlnenepceabaaLowA
import Derived.Test.YtnmlnenepceabaaOpen
namespace Go.Proofs.Ytnmlnenepceabaa
open Go.RowKit
def lessT (a b : TotV) : Bool := Op.bytesLess a.key.toList b.key.toList
def cmpT (a b : TotV) : Int := cmpS a.key b.key
def leT (a b : TotV) : Bool := !(lessT b a)
def mergeT (I S : List TotV) : List TotV := List.merge I S leT
theorem mergeT_nil (S : List TotV) : mergeT [] S = S := List.nil_merge S
theorem mergeT_none (I : List TotV) : mergeT I [] = I := List.merge_right I
theorem mergeT_left {r x : TotV} (R S : List TotV) (h : lessT x r = false) : mergeT (r :: R) (x :: S) = r :: mergeT R (x :: S) := by
  unfold mergeT
  rw [List.cons_merge_cons, if_pos (by unfold leT; rw [h]; rfl)]
theorem mergeT_right {r x : TotV} (R S : List TotV) (h : lessT x r = true) : mergeT (r :: R) (x :: S) = x :: mergeT (r :: R) S := by
  unfold mergeT
  rw [List.cons_merge_cons, if_neg (by unfold leT; rw [h]; decide)]
theorem mergeT_one (x : TotV) (S : List TotV) : mergeT [] (x :: S) = x :: mergeT [] S := by rw [mergeT_nil, mergeT_nil]
theorem mergeT_length (I S : List TotV) : (mergeT I S).length = I.length + S.length := by
  have := (List.merge_perm_append leT (xs := I) (ys := S)).length_eq
  rw [List.length_append] at this
  exact this
theorem cmpS_turnT (a b : ByteArray) : cmpS a b = - cmpS b a := by
  unfold cmpS
  cases h : Op.bytesLess a.toList b.toList
  · rcases bl_total h with e | e
    · rw [e]; simp [bl_irrefl]
    · rw [e]
      have hne : (!a.toList == b.toList) = true := by
        rw [Bool.not_eq_true', beq_eq_false_iff_ne]
        intro e2
        rw [e2, bl_irrefl] at e; cases e
      rw [hne]; simp
  · have hne : (!b.toList == a.toList) = true := by
      rw [Bool.not_eq_true', beq_eq_false_iff_ne]
      intro e2
      rw [e2, bl_irrefl] at h; cases h
    rw [bl_asymm h, hne]; simp
theorem cmpT_le (a b : TotV) : decide (cmpT a b ≤ 0) = !(lessT b a) := by
  have e : cmpT a b = - cmpT b a := cmpS_turnT _ _
  have h : decide (cmpT b a < 0) = lessT b a := cmpS_neg _ _
  rw [← h, e]
  by_cases h2 : cmpT b a < 0
  · rw [decide_eq_true h2, decide_eq_false (by omega)]; rfl
  · rw [decide_eq_false h2, decide_eq_true (by omega)]; rfl
def fromT (a : Option Addr) (cap k : Nat) : Option Addr := if cap = k then a else a.map fun b => b.add (k * 2)
theorem Rd.fromT {w : World} {B n k cap : Nat} {a : Option Addr} {rs : List TotV} (h : Rd w B 2 a n (flatT rs)) (hk : k ≤ n) (hn : n ≤ cap) : Rd w B 2 (fromT a cap k) (n - k) (flatT (rs.drop k)) := by
  have hl : rs.length = n := h.tots_length
  refine ⟨by rw [flatT_length, List.length_drop, hl], fun hp => ?_⟩
  obtain ⟨b, off, rfl, hb, hc⟩ := h.2 (by omega)
  refine ⟨b, off + k * 2, ?_, hb, fun j u hu => ?_⟩
  · unfold Go.Proofs.Ytnmlnenepceabaa.fromT
    rw [if_neg (by omega)]
    simp [Addr.add_mid]
  · have e : flatT rs = flatT (rs.take k) ++ flatT (rs.drop k) := by rw [← flatT_append, List.take_append_drop]
    have := hc (k * 2 + j) u (by
      rw [e, List.getElem?_append_right (by rw [flatT_length, List.length_take]; omega), flatT_length, List.length_take, show k * 2 + j - min k rs.length * 2 = j by rw [hl, Nat.min_eq_left hk]; omega]
      exact hu)
    rw [Nat.add_assoc]; exact this
set_option maxRecDepth 100000 in
theorem compareTotals_any (k : ByteArray) (n : Int) (k2 : ByteArray) (n2 : Int) (w : World) :
    Calls Try.prog 131 #[.agg #[.string k, .int .i64 n], .agg #[.string k2, .int .i64 n2]] w fun e w' => e = .returned (.int .i64 (cmpS k k2)) ∧ Below w.heap.size w w' := by
  have hb := bl2 w (.cells #[.string k, .int .i64 n] 45) (.cells #[.string k2, .int .i64 n2] 45)
  go_enter Try.func131, Try.ntmps131
  go_wp2_with fail
  refine (compareS_any k k2 _).mono ?_
  rintro e w1 ⟨rfl, rfl⟩
  go_wp2_with fail
  go_ret
  exact ⟨rfl, hb⟩
def HaltT_ (p : Prop) : Prop := p
theorem haltT_ {p : Prop} (h : HaltT_ p) : p := h
theorem unhaltT_ {p : Prop} (h : p) : HaltT_ p := h
theorem cell_totM (W : World) (r : TotV) (t : TypeId) : ∀ j u, [Value.string r.key, .int .i64 r.n][j]? = some u → (W.alloc (.cells #[.string r.key, .int .i64 r.n] t)).cell? ((⟨W.heap.size, 0, none⟩ : Addr).add j) = some u := by
  intro j u hj
  match j, hj with
  | 0, hj => simp at hj; subst hj; simp [go_sem]
  | 1, hj => simp at hj; subst hj; simp [go_sem, Addr.add]
theorem flat_snocT (l : List TotV) (r : TotV) : flatT (l ++ [r]) = flatT l ++ [.string r.key, .int .i64 r.n] := by rw [flatT_append]; rfl
theorem flat_oneT (l : List TotV) : ∀ u ∈ flatT l, u.oneCell' = true := by
  intro u hu
  unfold flatT at hu
  obtain ⟨r, _, hr⟩ := List.mem_flatMap.1 hu
  simp [TotV.cells] at hr
  rcases hr with rfl | rfl <;> rfl
/-- Block b holds a sorted list of rows, whole; none of its cells is frozen. -/
def SlT (w : World) (b : Nat) (v : Value) : Prop := ∃ ty : TypeId, w.heap[b]? = some (.cells #[.func (.func 131) #[] #[], v] ty (0, 0))
theorem SlT.new (w : World) (v : Value) (t : TypeId) : SlT (w.alloc (.cells #[.func (.func 131) #[] #[], v] t)) w.heap.size v := ⟨t, heap_alloc_new w _⟩
theorem SlT.lt {w : World} {b : Nat} {v : Value} (h : SlT w b v) : b < w.heap.size := by
  obtain ⟨ty, h⟩ := h
  rcases Nat.lt_or_ge b w.heap.size with hlt | hge
  · exact hlt
  · rw [Array.getElem?_eq_none hge] at h; cases h
theorem SlT.cells {w : World} {b : Nat} {v : Value} (h : SlT w b v) : w.cell? ⟨b, 0, none⟩ = some (.func (.func 131) #[] #[]) ∧ w.cell? ⟨b, 1, none⟩ = some v := by
  obtain ⟨ty, h⟩ := h
  refine ⟨?_, ?_⟩ <;> simp [World.cell?, h]
theorem SlT.frozen {w : World} {b : Nat} {v : Value} (h : SlT w b v) : w.frozen? ⟨b, 0, none⟩ = false ∧ w.frozen? ⟨b, 1, none⟩ = false := by
  obtain ⟨ty, h⟩ := h
  refine ⟨?_, ?_⟩ <;> simp [World.frozen?, h]
theorem SlT.below {w w' : World} {B b : Nat} {v : Value} (h : SlT w b v) (hb : Below B w w') (hB : b < B) : SlT w' b v := by
  obtain ⟨ty, h⟩ := h
  exact ⟨ty, (hb.block b hB).trans h⟩
theorem SlT.keep {w w' : World} {b : Nat} {v : Value} (h : SlT w b v) (hb : Below w.heap.size w w') : SlT w' b v := h.below hb h.lt
theorem SlT.put {w : World} {b : Nat} {v : Value} (h : SlT w b v) (u : Value) : SlT (w.setCell ⟨b, 1, none⟩ u) b u := by
  obtain ⟨ty, h⟩ := h
  exact ⟨ty, (heap_setCell_same w b 1 _ ty u h).trans (by simp)⟩
theorem SlT.grown {w w' : World} {b : Nat} {v : Value} {row : Option Nat} (h : SlT w b v) (hg : w.grownBy w' row) (hne : some b ≠ row) : SlT w' b v := by
  have hl := h.lt
  obtain ⟨ty, h⟩ := h
  exact ⟨ty, (hg.block b hl hne).trans h⟩
set_option maxRecDepth 100000 in
set_option maxHeartbeats 4000000 in
theorem mergeT_any (B : Nat) (ia : Option Addr) (ni ic : Nat) (I : List TotV) (sa : Option Addr) (ns sc : Nat) (S : List TotV) (w : World) (hni : ni ≤ 1000) (hns : ns ≤ 1000) (hic : ni ≤ ic) (hL : SlT w B (.slice ia ni ic)) (hI : Rd w w.heap.size 2 ia ni (flatT I)) (hS : Rd w w.heap.size 2 sa ns (flatT S)) :
    Calls Try.prog 132 #[.pointer (some ⟨B, 0, none⟩), .slice sa ns sc] w fun e w' => (∃ v, e = .returned v) ∧ ∃ a c, SlT w' B (.slice a (ni + ns) c) ∧ w.grownBy w' (some B) ∧ w'.ownsRow w.heap.size 45 2 (.slice a (ni + ns) c) (ni + ns) (flatT (mergeT I S)) := by
  obtain ⟨i0, hi, hz0, hz1, hz2⟩ := info_parts infoTotal
  have hBl := hL.lt
  obtain ⟨l0, l1⟩ := hL.cells
  have HL := Lib.hid hL
  have hIl : I.length = ni := hI.tots_length
  have hSl := Lib.hid hS.tots_length
  have HI := Lib.hid hIl
  clear hIl
  generalize hT : mergeT I S = T
  have HT := Lib.hid hT
  clear hT hL
  go_enter Try.func132, Try.ntmps132
  go_wp2_with (at_make; refine wpList_make_own _ rfl _ _ 24 rfl w.heap.size 45 i0 (.agg #[.string ⟨#[]⟩, .int .i64 0]) 2 Try.underlying24 hi hz0 hz1 .i64 .i64 _ (ni + ns) rfl rfl (by omega) (by rw [hz2]; omega) (by unfold maxLen; omega) (Nat.le_refl _) ?_; intro w1 hown hgrow; have hb1 := (Below.refl w.heap.size w).grown hgrow (Nat.le_refl _) (by simp); have l1' := (hb1.cell (p := ⟨B, 1, none⟩) hBl).trans l1; clear hgrow)
  clear l1'
  go_loopw [4, 5, 23] (fun v r i wr => ∃ (k m q : Nat) (g : Option Addr) (c : Nat) (ra : Option Addr) (rc : Nat) (R A : List TotV), k ≤ ns ∧ i = .int .i64 k ∧ v = .slice g q c ∧ r = .slice ra m rc ∧ m ≤ rc ∧ q + m = ni + k ∧ Hid (A.length = q) ∧ Hid (T = A ++ mergeT R (S.drop k)) ∧ Hid (Rd w w.heap.size 2 ra m (flatT R)) ∧ wr.ownsRow w.heap.size 45 2 (.slice g q c) q (flatT A) ∧ Below w.heap.size w wr) (fun _ _ i _ => ns - (intOf i).toNat)
  case atStart => exact ⟨0, ni, 0, _, _, _, _, I, [], Nat.zero_le _, rfl, rfl, rfl, hic, by omega, Lib.hid rfl, Lib.hid HT.out.symm, Lib.hid hI, hown, hb1⟩
  case round =>
    obtain ⟨k, m, q, g, c, ra, rc, R, A, hk, rfl, rfl, rfl, hmr, hqm, HQ, HA, HR, hO, hb⟩ := hrel
    clear hown hb1 hI
    by_cases hlt : k < ns
    · obtain ⟨b1, o1, x, rfl, hB1, hx, c0, c1⟩ := (hS.below hb (Nat.le_refl _)).tot hlt
      have hSd : S.drop k = x :: S.drop (k + 1) := by
        obtain ⟨hk', e⟩ := List.getElem?_eq_some_iff.1 hx
        rw [← e]; exact List.drop_eq_getElem_cons hk'
      have HA0 := Lib.hid (show T = A ++ mergeT R (x :: S.drop (k + 1)) by rw [HA.out, hSd])
      obtain ⟨xk, xt⟩ := x
      have hb2 := bl1 wr (.cells #[.string xk, .int .i64 xt] 45)
      have hX0 : (wr.alloc (.cells #[.string xk, .int .i64 xt] 45)).cell? ⟨wr.heap.size, 0, none⟩ = some (.string xk) := by simp [go_sem]
      have hX1 : (wr.alloc (.cells #[.string xk, .int .i64 xt] 45)).cell? ⟨wr.heap.size, 1, none⟩ = some (.int .i64 xt) := by simp [go_sem]
      have hXl : wr.heap.size < (wr.alloc (.cells #[.string xk, .int .i64 xt] 45)).heap.size := by simp
      have hO2 := own_below hO hb2
      have hB2 := hb.trans (hb2.mono hb.size)
      have hXw : w.heap.size ≤ wr.heap.size := hb.size
      have hNX : ∀ q', (Value.slice g q c).ownBlock = some q' → q' ≠ wr.heap.size := fun q' e => by have := (own_ge hO q' e).2; omega
      clear hb2 hO hb hx hSd HA
      go_wp2_with fail
      generalize wr.alloc (.cells #[.string xk, .int .i64 xt] 45) = w2 at *
      generalize wr.heap.size = X at *
      clear c0 c1
      go_loopw [4, 5] (fun v r wi => ∃ (m q : Nat) (g : Option Addr) (c : Nat) (ra : Option Addr) (rc : Nat) (R A : List TotV), v = .slice g q c ∧ r = .slice ra m rc ∧ m ≤ rc ∧ q + m = ni + k ∧ Hid (A.length = q) ∧ Hid (T = A ++ mergeT R (⟨xk, xt⟩ :: S.drop (k + 1))) ∧ Hid (Rd w w.heap.size 2 ra m (flatT R)) ∧ wi.ownsRow w.heap.size 45 2 (.slice g q c) q (flatT A) ∧ Below w.heap.size w wi ∧ wi.cell? ⟨X, 0, none⟩ = some (.string xk) ∧ wi.cell? ⟨X, 1, none⟩ = some (.int .i64 xt) ∧ X < wi.heap.size ∧ Hid (∀ q', (Value.slice g q c).ownBlock = some q' → q' ≠ X)) (fun _ r _ => match r with | .slice _ n _ => n | _ => 0)
      case atStart => exact ⟨m, q, g, c, ra, rc, R, A, rfl, rfl, hmr, hqm, HQ, HA0, HR, hO2, hB2, hX0, hX1, hXl, Lib.hid hNX⟩
      case round =>
        clear hNX hX0 hX1 hXl hO2 hB2 HQ HA0 HR hmr hqm
        obtain ⟨m, q, g, c, ra, rc, R, A, rfl, rfl, hmr, hqm, HQ, HA, HR, hO, hb, hX0, hX1, hXl, HN⟩ := hrel
        by_cases hm0 : m = 0
        · subst hm0
          have hRn : R = [] := by
            have := HR.out.tots_length
            exact List.length_eq_zero_iff.1 this
          have HT2 := Lib.hid (show T = (A ++ [⟨xk, xt⟩]) ++ mergeT R (S.drop (k + 1)) by rw [HA.out, hRn, mergeT_one, List.append_assoc]; rfl)
          clear hRn HA
          go_wp2_with fail
          go_quiet (fail)
          have hbw : Below wr.heap.size wr (wr.drewN nq) := below_drewN (Below.refl _ _) nq
          have hb3 := hb.trans (hbw.mono hb.size)
          have hO3 := own_below hO hbw
          have y0 := (hbw.cell (p := ⟨X, 0, none⟩) hXl).trans hX0
          have y1 := (hbw.cell (p := ⟨X, 1, none⟩) hXl).trans hX1
          have hXl3 := Nat.lt_of_lt_of_le hXl hbw.size
          clear hbw hb hO hX0 hX1 hXl
          generalize wr.drewN nq = w3 at *
          have hg8 : w.heap.size ≤ w3.heap.size := hb3.size
          have hq1 : q + 1 ≤ maxLen := by unfold maxLen; omega
          have hq2 : (q + 1) * 24 ≤ 140737488355328 := by omega
          go_wp2_with (at_builtin; refine wpList_append_own_at _ rfl _ _ 24 rfl w.heap.size 45 i0 (.agg #[.string ⟨#[]⟩, .int .i64 0]) 2 24 Try.underlying24 hi hz0 hz1 hz2 rfl (by decide) (.slice g q c) _ _ rfl (hO3.alloc _) ⟨w3.heap.size, 0, none⟩ 1 1 [.string xk, .int .i64 xt] rfl rfl (cell_totM w3 ⟨xk, xt⟩ _) (by simp [Value.oneCell']) hq1 hq2 (Nat.le_trans hg8 (bl1 w3 _).size) ?_; intro v' w4 hO4 hg4 _ hat; refine haltT_ ?_)
          refine unhaltT_ ?_
          obtain ⟨a', cap', rfl⟩ := own_slice' hO4
          have hb4 := below_grown1 hb3 hO3 hg4
          have hO5 : w4.ownsRow w.heap.size 45 2 (.slice a' (q + 1) cap') (q + 1) (flatT (A ++ [⟨xk, xt⟩])) := by rw [flat_snocT]; exact hO4
          have HQ2 := Lib.hid (show (A ++ [(⟨xk, xt⟩ : TotV)]).length = q + 1 by rw [List.length_append, HQ.out]; rfl)
          clear hg4 hat hO3 hO4 hb3 y0 y1 hXl3 HN HQ
          go_wp2_with fail
          go_roundw
          case rel => exact ⟨k + 1, 0, q + 1, a', cap', _, rc, R, A ++ [⟨xk, xt⟩], by omega, by go_num, rfl, rfl, hmr, by omega, HQ2, HT2, HR, hO5, hb4⟩
          case measure => simp [intOf]; omega
        obtain ⟨r, R, rfl⟩ : ∃ r R', R = r :: R' := by
          have := HR.out.tots_length
          cases R with
          | nil => simp at this; omega
          | cons r R => exact ⟨r, R, rfl⟩
        obtain ⟨b2, o2, r', rfl, hB2, hr', d0, d1⟩ := (HR.out.below hb (Nat.le_refl _)).tot (show 0 < m by omega)
        obtain rfl : r = r' := by simpa using hr'
        clear hr'
        have hcl := (hb.cell (p := ⟨B, 0, none⟩) hBl).trans l0
        have hcle : decide (cmpS r.key xk ≤ 0) = !(lessT ⟨xk, xt⟩ r) := cmpT_le r ⟨xk, xt⟩
        have CM := fun w => compareTotals_any r.key r.n xk xt w
        simp only [Nat.zero_mul, Nat.add_zero] at d0 d1
        have d0' := fun d os => cell_regrown d0 d os
        have d1' := fun d os => cell_regrown d1 d os
        have x0' := fun d os => cell_regrown hX0 d os
        have x1' := fun d os => cell_regrown hX1 d os
        have l0' := fun d os => cell_regrown hcl d os
        have hm1 : decide ((0 : Int) < (m : Int)) = true := decide_eq_true (by omega)
        have hm2 : decide (0 < m) = true := decide_eq_true (by omega)
        have hm3 : (0 : Int) < (m : Int) := by omega
        have hm4 : 0 < m := by omega
        generalize cmpS r.key xk = z at CM hcle
        cases hq : lessT ⟨xk, xt⟩ r
        · rw [hq] at hcle
          have hcle' : decide (z ≤ 0) = true := hcle
          have HT2 := Lib.hid (show T = (A ++ [r]) ++ mergeT R (⟨xk, xt⟩ :: S.drop (k + 1)) by rw [HA.out, mergeT_left _ _ hq, List.append_assoc]; rfl)
          obtain ⟨rk, rt⟩ := r
          simp only at d0 d1 d0' d1' CM
          clear HA hcle hq
          go_wp2_with fail
          have cM := Lib.hid (fun d os => Calls.regrown_of (w := wr) (d := d) (os := os) (CM _))
          clear CM
          refine wp_region_wq (by kernel_rfl) (by kernel_rfl) ?_
          repeat (refine WQ.step (fun K hK => ?_); go_simp; first | (refine hK _ ?_; clear hK K) | (apply Exists.intro; refine ⟨fun _ => ?_, hK _ ?_⟩; (first | with_reducible exact cM.out _ _); clear hK K))
          refine WQ.nil ?_
          intro _ hw'
          obtain ⟨⟨dq, osq⟩, hw''⟩ := hw'
          subst hw''
          have hbw := below_regrown wr dq osq
          have hb3 := hb.trans (hbw.mono hb.size)
          have hO3 := own_below hO hbw
          have y0 := x0' dq osq
          have y1 := x1' dq osq
          have hXl3 := Nat.lt_of_lt_of_le hXl hbw.size
          have r0 := d0' dq osq
          have r1 := d1' dq osq
          clear d0' d1' x0' x1' l0' cM hbw hb hO hX0 hX1 hXl d0 d1 hcl
          generalize Go.Sort.grow (redrawn wr dq) osq = w3 at *
          have hg8 : w.heap.size ≤ w3.heap.size := hb3.size
          have hq1 : q + 1 ≤ maxLen := by unfold maxLen; omega
          have hq2 : (q + 1) * 24 ≤ 140737488355328 := by omega
          go_wp2_with (at_builtin; refine wpList_append_own_at _ rfl _ _ 24 rfl w.heap.size 45 i0 (.agg #[.string ⟨#[]⟩, .int .i64 0]) 2 24 Try.underlying24 hi hz0 hz1 hz2 rfl (by decide) (.slice g q c) _ _ rfl (hO3.alloc _) ⟨w3.heap.size, 0, none⟩ 1 1 [.string rk, .int .i64 rt] rfl rfl (cell_totM w3 ⟨rk, rt⟩ _) (by simp [Value.oneCell']) hq1 hq2 (Nat.le_trans hg8 (bl1 w3 _).size) ?_; intro v' w4 hO4 hg4 _ hat; refine haltT_ ?_)
          refine unhaltT_ ?_
          obtain ⟨a', cap', rfl⟩ := own_slice' hO4
          have hb4 := below_grown1 hb3 hO3 hg4
          have hO5 : w4.ownsRow w.heap.size 45 2 (.slice a' (q + 1) cap') (q + 1) (flatT (A ++ [⟨rk, rt⟩])) := by rw [flat_snocT]; exact hO4
          have HQ2 := Lib.hid (show (A ++ [(⟨rk, rt⟩ : TotV)]).length = q + 1 by rw [List.length_append, HQ.out]; rfl)
          have hne : some X ≠ (Value.slice g q c).ownBlock := fun e => HN.out X e.symm rfl
          have hY0 : w4.cell? ⟨X, 0, none⟩ = some (.string xk) := hg4.cell (a := ⟨X, 0, none⟩) (by rw [World.cell?_alloc_past _ _ _ hXl3]; exact y0) hne
          have hY1 : w4.cell? ⟨X, 1, none⟩ = some (.int .i64 xt) := hg4.cell (a := ⟨X, 1, none⟩) (by rw [World.cell?_alloc_past _ _ _ hXl3]; exact y1) hne
          have hYl : X < w4.heap.size := Nat.lt_of_lt_of_le (by simp; omega) hg4.size
          have HN4 : Hid (∀ q', (Value.slice a' (q + 1) cap').ownBlock = some q' → q' ≠ X) := Lib.hid (by
            intro q' e
            rcases hat with h | h
            · exact HN.out q' (h ▸ e)
            · rw [h] at e
              have : w3.heap.size + 1 = q' := by simpa using e
              omega)
          have HR2 := Lib.hid (HR.out.fromT (k := 1) (by omega) hmr)
          clear hg4 hat hO3 hO4 hb3 y0 y1 r0 r1 hXl3 hne HN HQ
          go_wp2_with fail
          go_roundw
          case rel => exact ⟨m - 1, q + 1, a', cap', _, rc - 1, R, A ++ [⟨rk, rt⟩], rfl, rfl, by omega, by omega, HQ2, HT2, HR2, hO5, hb4, hY0, hY1, hYl, HN4⟩
          case measure => simp; omega
        · rw [hq] at hcle
          have hcle' : decide (z ≤ 0) = false := hcle
          have HT2 := Lib.hid (show T = (A ++ [⟨xk, xt⟩]) ++ mergeT (r :: R) (S.drop (k + 1)) by rw [HA.out, mergeT_right _ _ hq, List.append_assoc]; rfl)
          obtain ⟨rk, rt⟩ := r
          simp only at d0 d1 d0' d1' CM
          clear HA hcle hq
          go_wp2_with fail
          have cM := Lib.hid (fun d os => Calls.regrown_of (w := wr) (d := d) (os := os) (CM _))
          clear CM
          refine wp_region_wq (by kernel_rfl) (by kernel_rfl) ?_
          repeat (refine WQ.step (fun K hK => ?_); go_simp; first | (refine hK _ ?_; clear hK K) | (apply Exists.intro; refine ⟨fun _ => ?_, hK _ ?_⟩; (first | with_reducible exact cM.out _ _); clear hK K))
          refine WQ.nil ?_
          intro _ hw'
          obtain ⟨⟨dq, osq⟩, hw''⟩ := hw'
          subst hw''
          have hbw := below_regrown wr dq osq
          have hb3 := hb.trans (hbw.mono hb.size)
          have hO3 := own_below hO hbw
          have y0 := x0' dq osq
          have y1 := x1' dq osq
          have hXl3 := Nat.lt_of_lt_of_le hXl hbw.size
          skip
          clear d0' d1' x0' x1' l0' cM hbw hb hO hX0 hX1 hXl d0 d1 hcl
          generalize Go.Sort.grow (redrawn wr dq) osq = w3 at *
          have hg8 : w.heap.size ≤ w3.heap.size := hb3.size
          have hq1 : q + 1 ≤ maxLen := by unfold maxLen; omega
          have hq2 : (q + 1) * 24 ≤ 140737488355328 := by omega
          go_wp2_with (at_builtin; refine wpList_append_own_at _ rfl _ _ 24 rfl w.heap.size 45 i0 (.agg #[.string ⟨#[]⟩, .int .i64 0]) 2 24 Try.underlying24 hi hz0 hz1 hz2 rfl (by decide) (.slice g q c) _ _ rfl (hO3.alloc _) ⟨w3.heap.size, 0, none⟩ 1 1 [.string xk, .int .i64 xt] rfl rfl (cell_totM w3 ⟨xk, xt⟩ _) (by simp [Value.oneCell']) hq1 hq2 (Nat.le_trans hg8 (bl1 w3 _).size) ?_; intro v' w4 hO4 hg4 _ hat; refine haltT_ ?_)
          refine unhaltT_ ?_
          obtain ⟨a', cap', rfl⟩ := own_slice' hO4
          have hb4 := below_grown1 hb3 hO3 hg4
          have hO5 : w4.ownsRow w.heap.size 45 2 (.slice a' (q + 1) cap') (q + 1) (flatT (A ++ [⟨xk, xt⟩])) := by rw [flat_snocT]; exact hO4
          have HQ2 := Lib.hid (show (A ++ [(⟨xk, xt⟩ : TotV)]).length = q + 1 by rw [List.length_append, HQ.out]; rfl)
          clear hg4 hat hO3 hO4 hb3 y0 y1 hXl3 HN HQ
          go_wp2_with fail
          go_roundw
          case rel => exact ⟨k + 1, m, q + 1, a', cap', _, rc, (⟨rk, rt⟩ :: R), A ++ [⟨xk, xt⟩], by omega, by go_num, rfl, rfl, hmr, by omega, HQ2, HT2, HR, hO5, hb4⟩
          case measure => simp [intOf]; omega
    · obtain rfl : k = ns := by omega
      have HTE := Lib.hid (show T = A ++ R by rw [HA.out, List.drop_of_length_le (by rw [hSl.out]; exact Nat.le_refl _), mergeT_none])
      have hR2 := HR.out.below hb (Nat.le_refl _)
      have hL2 := HL.out.below hb hBl
      have hq1 : q + m ≤ maxLen := by unfold maxLen; omega
      have hq2 : (q + m) * 24 ≤ 140737488355328 := by omega
      go_wp2_with (at_builtin; refine wpList_append_rd rfl _ _ 24 rfl w.heap.size 45 i0 (.agg #[.string ⟨#[]⟩, .int .i64 0]) 2 24 Try.underlying24 hi hz0 hz1 hz2 rfl (by decide) (.slice g q c) q (flatT A) rfl hO ra w.heap.size m rc (flatT R) rfl hR2 (flat_oneT _) hq1 hq2 hb.size ?_; intro v' w4 hO4 hg4 hat; refine haltT_ ?_)
      refine unhaltT_ ?_
      obtain ⟨a', cap', rfl⟩ := own_slice' hO4
      have hL4 : SlT w4 B (.slice ia ni ic) := hL2.grown hg4 (fun e => by have := (own_ge hO B e.symm).1; omega)
      have hb4 : Below w.heap.size w w4 := hb.grown hg4 hb.size (fun q' e => (own_ge hO q' e).1)
      obtain ⟨p0, p1⟩ := hL4.cells
      obtain ⟨f0, f1⟩ := hL4.frozen
      rw [← flatT_append, ← HTE.out] at hO4
      have hO5 : (w4.setCell ⟨B, 1, none⟩ (.slice a' (q + m) cap')).ownsRow w.heap.size 45 2 (.slice a' (q + m) cap') (q + m) (flatT T) := hO4.kept (gb_store (World.grownBy.refl w4 (some B)) 1 _) (by
        cases hv : (Value.slice a' (q + m) cap').ownBlock with
        | none => exact .inl rfl
        | some g' =>
          right
          intro he
          have h1 := (own_ge hO4 g' hv).1
          have h2 : g' = B := by simpa using he
          omega)
      have hL5 := hL4.put (.slice a' (q + m) cap')
      have hG5 : w.grownBy (w4.setCell ⟨B, 1, none⟩ (.slice a' (q + m) cap')) (some B) := gb_store (gb_of_below hb4 (some B)) 1 _
      rw [hqm] at hL5 hO5 hG5
      clear hL2 hL4 hO hO4 hg4 hat hb hb4 hR2 HR HA HL
      go_wp2_with fail
      rw [hqm]
      first | (refine bodyPost_ret (results_none rfl _ _ _) rfl ?_) | go_end0
      exact ⟨⟨_, rfl⟩, a', cap', hL5, hG5, hO5⟩
end Go.Proofs.Ytnmlnenepceabaa


namespace Go.Proofs.Ytnmlnenepceabaa
open Go.RowKit
theorem lessT_irrefl (x : TotV) : lessT x x = false := bl_irrefl _
def combL (c : Int → Int → Int) : List TotV → List TotV → List TotV
  | [], b => b
  | x :: a, [] => x :: a
  | x :: a, y :: b => if lessT x y = true then x :: combL c a (y :: b) else if lessT y x = true then y :: combL c (x :: a) b else ⟨x.key, c x.n y.n⟩ :: combL c a b
termination_by a b => a.length + b.length
theorem combL_nil (c : Int → Int → Int) (a : List TotV) : combL c a [] = a := by cases a <;> simp [combL]
theorem comb_first (c : Int → Int → Int) {x : TotV} {P b : List TotV} (h : ∀ z ∈ b, lessT x z = true) : combL c (x :: P) b = x :: combL c P b := by
  cases b with
  | nil => rw [combL_nil, combL_nil]
  | cons z b => rw [combL, if_pos (h z List.mem_cons_self)]
def putT (c : Int → Int → Int) : List TotV → TotV → List TotV
  | [], y => [y]
  | x :: l, y => if lessT x y = true then x :: putT c l y else if lessT y x = true then y :: x :: l else ⟨y.key, c x.n y.n⟩ :: l
theorem lessT_trans {x y z : TotV} (h1 : lessT x y = true) (h2 : lessT y z = true) : lessT x z = true := bl_trans h1 h2
theorem lessT_same {x y : TotV} (h1 : lessT x y = false) (h2 : lessT y x = false) : x.key = y.key := by
  rcases bl_total h1 with e | e
  · have h := e
    rw [ByteArray.toList_eq, ByteArray.toList_eq] at h
    exact ByteArray.ext (Array.toList_inj.1 h)
  · have h3 : lessT y x = true := e
    rw [h2] at h3
    cases h3
theorem lessT_key {x x' y : TotV} (h : x.key = x'.key) : lessT x y = lessT x' y := by unfold lessT; rw [h]
theorem put_comb (c : Int → Int → Int) {y : TotV} {b : List TotV} (h : ∀ z ∈ b, lessT y z = true) : ∀ a : List TotV, combL c (putT c a y) b = combL c a (y :: b)
  | [] => by
    rw [putT, comb_first c h]
    simp [combL]
  | x :: a => by
    rw [putT, combL]
    by_cases h1 : lessT x y = true
    · rw [if_pos h1, if_pos h1, comb_first c (fun z hz => lessT_trans h1 (h z hz)), put_comb c h a]
    · rw [if_neg h1, if_neg h1]
      by_cases h2 : lessT y x = true
      · rw [if_pos h2, if_pos h2, comb_first c h]
      · rw [if_neg h2, if_neg h2]
        have e := lessT_same (Bool.eq_false_iff.2 h1) (Bool.eq_false_iff.2 h2)
        rw [comb_first c (x := ⟨y.key, c x.n y.n⟩) (fun z hz => h z hz), e]
theorem puts_comb (c : Int → Int → Int) : ∀ {b : List TotV} (a : List TotV), b.Pairwise (fun x y => lessT x y = true) → b.foldl (putT c) a = combL c a b
  | [], a, _ => (combL_nil c a).symm
  | y :: b, a, h => by
    obtain ⟨h1, h2⟩ := List.pairwise_cons.1 h
    rw [List.foldl_cons, puts_comb c _ h2, put_comb c h1]
/-- One more total at the end: put together with the last one where the keys are the same. -/
def stepT (c : Int → Int → Int) (acc : List TotV) (x : TotV) : List TotV := match acc.getLast? with
  | none => [x]
  | some t => if (t.key.toList == x.key.toList) = true then acc.dropLast ++ [⟨t.key, c t.n x.n⟩] else acc ++ [x]
theorem stepT_nil (c : Int → Int → Int) (x : TotV) : stepT c [] x = [x] := rfl
theorem stepT_last (c : Int → Int → Int) (A : List TotV) (t x : TotV) : stepT c (A ++ [t]) x = if (t.key.toList == x.key.toList) = true then A ++ [⟨t.key, c t.n x.n⟩] else A ++ [t] ++ [x] := by
  simp [stepT]
def dedT (c : Int → Int → Int) : TotV → List TotV → List TotV
  | x, [] => [x]
  | x, y :: l => if (x.key.toList == y.key.toList) = true then dedT c ⟨x.key, c x.n y.n⟩ l else x :: dedT c y l
theorem fold_ded (c : Int → Int → Int) : ∀ (l A : List TotV) (x : TotV), l.foldl (stepT c) (A ++ [x]) = A ++ dedT c x l
  | [], A, x => rfl
  | y :: l, A, x => by
    rw [List.foldl_cons, stepT_last, dedT]
    by_cases h : (x.key.toList == y.key.toList) = true
    · rw [if_pos h, if_pos h, fold_ded c l A]
    · rw [if_neg h, if_neg h, fold_ded c l (A ++ [x]) y, List.append_assoc]
      rfl
def dedL (c : Int → Int → Int) : List TotV → List TotV
  | [] => []
  | x :: l => dedT c x l
theorem fold_dedL (c : Int → Int → Int) (l : List TotV) : l.foldl (stepT c) [] = dedL c l := by
  cases l with
  | nil => rfl
  | cons x l =>
    rw [List.foldl_cons, stepT_nil]
    exact fold_ded c l [] x
theorem ded_first (c : Int → Int → Int) {x : TotV} {M : List TotV} (h : ∀ m ∈ M, lessT x m = true) : dedT c x M = x :: dedL c M := by
  cases M with
  | nil => rfl
  | cons m M =>
    have h1 := h m List.mem_cons_self
    have hne : ¬ (x.key.toList == m.key.toList) = true := fun e => by
      unfold lessT at h1
      rw [eq_of_beq e, bl_irrefl] at h1
      cases h1
    rw [dedT, if_neg hne]
    rfl
abbrev RiseT (l : List TotV) : Prop := l.Pairwise fun x y => lessT x y = true
theorem merge_all {p : TotV → Prop} {a b : List TotV} (ha : ∀ x ∈ a, p x) (hb : ∀ x ∈ b, p x) : ∀ x ∈ mergeT a b, p x := fun x hx => by
  rcases List.mem_append.1 ((List.merge_perm_append leT).mem_iff.1 hx) with h | h
  · exact ha x h
  · exact hb x h
theorem ded_self (c : Int → Int → Int) : ∀ l : List TotV, RiseT l → dedL c l = l
  | [], _ => rfl
  | y :: b, hb => by
    obtain ⟨h1, h2⟩ := List.pairwise_cons.1 hb
    rw [dedL, ded_first c h1, ded_self c b h2]
theorem merge_comb (c : Int → Int → Int) : ∀ (n : Nat) (a b : List TotV), a.length + b.length ≤ n → RiseT a → RiseT b → dedL c (mergeT a b) = combL c a b
  | _, [], b, _, _, hb => by
    rw [mergeT_nil, combL]
    exact ded_self c b hb
  | _, x :: a, [], _, ha, _ => by
    rw [mergeT_none, combL_nil]
    exact ded_self c _ ha
  | 0, x :: a, y :: b, h, _, _ => by simp at h
  | n + 1, x :: a, y :: b, h, ha, hb => by
    have hl : a.length + b.length + 1 ≤ n := by simp only [List.length_cons] at h; omega
    obtain ⟨ha1, ha2⟩ := List.pairwise_cons.1 ha
    obtain ⟨hb1, hb2⟩ := List.pairwise_cons.1 hb
    rw [combL]
    by_cases h1 : lessT x y = true
    · have h2 : lessT y x = false := by
        cases h2 : lessT y x
        · rfl
        · have := lessT_trans h1 h2
          rw [lessT_irrefl] at this
          cases this
      rw [if_pos h1, mergeT_left _ _ h2, dedL, ded_first c, merge_comb c n a (y :: b) (by simp only [List.length_cons]; omega) ha2 hb]
      exact merge_all ha1 fun z hz => by
        rcases List.mem_cons.1 hz with rfl | hz
        · exact h1
        · exact lessT_trans h1 (hb1 z hz)
    · rw [if_neg h1]
      by_cases h2 : lessT y x = true
      · rw [if_pos h2, mergeT_right _ _ h2, dedL, ded_first c, merge_comb c n (x :: a) b (by simp only [List.length_cons]; omega) ha hb2]
        exact merge_all (fun z hz => by
          rcases List.mem_cons.1 hz with rfl | hz
          · exact h2
          · exact lessT_trans h2 (ha1 z hz)) hb1
      · have h1' := Bool.eq_false_iff.2 h1
        have h2' := Bool.eq_false_iff.2 h2
        have e := lessT_same h1' h2'
        rw [if_neg h2, mergeT_left _ _ h2']
        have e2 : mergeT a (y :: b) = y :: mergeT a b := by
          cases a with
          | nil => rw [mergeT_nil, mergeT_nil]
          | cons z a => exact mergeT_right _ _ (by rw [lessT_key e.symm]; exact ha1 z List.mem_cons_self)
        rw [e2, dedL, dedT, if_pos (by rw [e]; simp), ded_first c, merge_comb c n a b (by omega) ha2 hb2]
        exact merge_all (fun z hz => ha1 z hz) (fun z hz => by
          rw [lessT_key (x := ⟨x.key, c x.n y.n⟩) (x' := y) e]
          exact hb1 z hz)
theorem rise_of {ts : List TotV} (h : totsOk ts = true) : RiseT ts := by
  unfold totsOk at h
  rw [Bool.and_eq_true, List.all_eq_true] at h
  have hadj : ∀ j (hj : j + 1 < ts.length), lessT ts[j] ts[j + 1] = true := by
    intro j hj
    have h1 := h.2 (j + 1) (List.mem_range.2 hj)
    have e1 : ts[j + 1]? = some ts[j + 1] := List.getElem?_eq_getElem hj
    have e0 : ts[j]? = some ts[j] := List.getElem?_eq_getElem (by omega)
    simp only [okAt, e1, Nat.add_sub_cancel, e0, Bool.and_eq_true, Bool.or_eq_true, decide_eq_true_eq] at h1
    rcases h1.2 with h2 | h2
    · omega
    · exact h2
  refine List.pairwise_iff_getElem.2 fun i j hi hj hij => ?_
  obtain ⟨d, rfl⟩ : ∃ d, j = i + 1 + d := ⟨j - i - 1, by omega⟩
  clear hij
  induction d with
  | zero => exact hadj i hj
  | succ d ih => exact lessT_trans (ih (by omega)) (hadj (i + 1 + d) (by omega))
theorem comb_both (c : Int → Int → Int) {a b : List TotV} (ha : totsOk a = true) (hb : totsOk b = true) : (mergeT (mergeT [] a) b).foldl (stepT c) [] = combL c a b ∧ b.foldl (putT c) a = combL c a b := by
  rw [mergeT_nil, fold_dedL]
  exact ⟨merge_comb c _ a b (Nat.le_refl _) (rise_of ha) (rise_of hb), puts_comb c a (rise_of hb)⟩
end Go.Proofs.Ytnmlnenepceabaa

namespace Go.Proofs.Ytnmlnenepceabaa
open Go.RowKit
theorem capT {w : World} {base e s n c : Nat} {a : Option Addr} {xs : List Value} (h : w.ownsRow base e s (.slice a n c) n xs) : n ≤ c := by
  cases a with
  | none =>
    rcases h.2 with ⟨h0, h1⟩ | ⟨g', c', cur, hv, _⟩
    · first | omega | (injection h0; omega)
    · injection hv with e1; cases e1
  | some x =>
    rcases h.2 with ⟨h0, _⟩ | ⟨g', c', cur, hv, _, _, hnc, _⟩
    · cases h0
    · injection hv with _ _ e3; rw [e3]; exact hnc
def NumT (m : Int) (l : List TotV) : Prop := ∀ t ∈ l, 0 ≤ t.n ∧ t.n ≤ m
theorem step_bd {c : Int → Int → Int} (hc : ∀ x y, 0 ≤ x → 0 ≤ y → 0 ≤ c x y ∧ c x y ≤ x + y) {M m : Int} (hM : 0 ≤ M) {A : List TotV} {x : TotV} (hA : NumT M A) (hx : 0 ≤ x.n ∧ x.n ≤ m) : NumT (M + m) (stepT c A x) := by
  rcases List.eq_nil_or_concat A with rfl | ⟨B, t, rfl⟩
  · intro y hy
    rw [stepT_nil, List.mem_singleton] at hy
    subst hy
    exact ⟨hx.1, by omega⟩
  · rw [List.concat_eq_append] at hA ⊢
    have ht := hA t (by simp)
    rw [stepT_last]
    split
    · intro y hy
      rcases List.mem_append.1 hy with hy | hy
      · have := hA y (List.mem_append_left _ hy)
        omega
      · rw [List.mem_singleton] at hy
        subst hy
        have := hc t.n x.n ht.1 hx.1
        exact ⟨this.1, by show c t.n x.n ≤ _; omega⟩
    · intro y hy
      rcases List.mem_append.1 hy with hy | hy
      · have := hA y hy
        omega
      · rw [List.mem_singleton] at hy
        subst hy
        exact ⟨hx.1, by omega⟩
def accT (c : Int → Int → Int) (l : List TotV) (k : Nat) : List TotV := (l.take k).foldl (stepT c) []
theorem accT_succ (c : Int → Int → Int) {l : List TotV} {k : Nat} {x : TotV} (h : l[k]? = some x) : accT c l (k + 1) = stepT c (accT c l k) x := by
  unfold accT
  rw [List.take_add_one, h, Option.toList_some, List.foldl_append]
  rfl
theorem stepT_len (c : Int → Int → Int) (A : List TotV) (x : TotV) : (stepT c A x).length ≤ A.length + 1 := by
  rcases List.eq_nil_or_concat A with rfl | ⟨B, t, rfl⟩
  · rw [stepT_nil]; simp
  · rw [List.concat_eq_append, stepT_last]
    split <;> simp
theorem accT_bd {c : Int → Int → Int} (hc : ∀ x y, 0 ≤ x → 0 ≤ y → 0 ≤ c x y ∧ c x y ≤ x + y) {l : List TotV} (h : NumT 999999999999 l) : ∀ k : Nat, k ≤ l.length → NumT (999999999999 * (k : Int)) (accT c l k) ∧ (accT c l k).length ≤ k
  | 0, _ => ⟨fun t ht => by simp [accT] at ht, by simp [accT]⟩
  | k + 1, hk => by
    obtain ⟨ih, ih2⟩ := accT_bd hc h k (by omega)
    have hx : l[k]? = some l[k] := List.getElem?_eq_getElem (by omega)
    have e : (999999999999 : Int) * ((k + 1 : Nat) : Int) = 999999999999 * (k : Int) + 999999999999 := by push_cast; omega
    have hl := stepT_len c (accT c l k) l[k]
    rw [accT_succ c hx, e]
    exact ⟨step_bd hc (by omega) ih (h _ (List.getElem_mem _)), by omega⟩
theorem merge_num {m : Int} {a b : List TotV} (ha : NumT m a) (hb : NumT m b) : NumT m (mergeT a b) := merge_all (p := fun t => 0 ≤ t.n ∧ t.n ≤ m) ha hb
theorem flatT_two (A : List TotV) (t : TotV) : flatT (A ++ [t]) = flatT A ++ [.string t.key, .int .i64 t.n] := by rw [flatT_append]; rfl
theorem flatT_setlast (A : List TotV) (t : TotV) (n : Int) : (flatT (A ++ [t])).set (A.length * 2 + 1) (.int .i64 n) = flatT (A ++ [⟨t.key, n⟩]) := by
  rw [flatT_two, flatT_two, List.set_append_right _ _ (by rw [flatT_length]; omega), flatT_length, show A.length * 2 + 1 - A.length * 2 = 1 by omega]
  rfl
theorem own_set1 {w : World} {base e s n g cap k : Nat} {xs : List Value} (h : w.ownsRow base e s (.slice (some ⟨g, 0, none⟩) n cap) n xs) (a : Value) :
    (w.setCell ⟨g, k, none⟩ a).ownsRow base e s (.slice (some ⟨g, 0, none⟩) n cap) n (xs.set k a) := (h.stored k a).1
set_option maxRecDepth 100000 in
theorem plusC_any (x y : Int) (w : World) (_hx : 0 ≤ x ∧ x ≤ 1000000000000000) (_hy : 0 ≤ y ∧ y ≤ 1000000000000000) : Calls Try.prog 106 #[.int .i64 x, .int .i64 y] w fun e w' => e = .returned (.int .i64 (x + y)) ∧ w' = w := by
  have hw : IntKind.i64.wrap (x + y) = x + y := IntWalk.i64_in _ (by omega)
  go_enter Try.func106, Try.ntmps106
  go_wp2
  go_ret
  exact ⟨by simp [go_sem], rfl⟩
set_option maxRecDepth 100000 in
set_option maxHeartbeats 4000000 in
theorem by_plus (a b : Option Addr) (na ca nb cb : Nat) (X Y : List TotV) (w : World) (ha : na ≤ 120) (hb0 : nb ≤ 120) (hX : Rd w w.heap.size 2 a na (flatT X)) (hY : Rd w w.heap.size 2 b nb (flatT Y)) (hnX : NumT 999999999999 X) (hnY : NumT 999999999999 Y) :
    Calls Try.prog 96 #[.slice a na ca, .slice b nb cb, .func (.func 106) #[] #[]] w fun e w' => ∃ d q c, e = .returned (.slice d q c) ∧ (accT (fun x y => x + y) (mergeT (mergeT [] X) Y) (na + nb)).length = q ∧ Below w.heap.size w w' ∧ w'.ownsRow w.heap.size 45 2 (.slice d q c) q (flatT (accT (fun x y => x + y) (mergeT (mergeT [] X) Y) (na + nb))) := by
  obtain ⟨i0, hi, hz0, hz1, hz2⟩ := info_parts infoTotal
  have hXl := hX.tots_length
  have hYl := hY.tots_length
  have hNI := merge_num (merge_num (a := []) (fun _ h => by cases h) hnX) hnY
  have hIl : (mergeT (mergeT [] X) Y).length = na + nb := by rw [mergeT_length, mergeT_length, hXl, hYl]; simp
  have hBD := Lib.hid (accT_bd (c := (fun x y => x + y)) (fun x y hx hy => by first | (constructor <;> (show _ ≤ _; omega)) | (show _ ∧ _; omega)) hNI)
  have hIB := Lib.hid hNI
  have hb1 := bl1 w (.cells #[.func (.func 131) #[] #[], .slice none 0 0] 164)
  have L0 := SlT.new w (.slice none 0 0) 164
  have X1 := (hX.below hb1 (Nat.le_refl _)).more hb1.size
  clear hX hnX hnY hNI
  go_enter Try.func96, Try.ntmps96
  go_wp2_with fail
  generalize w.alloc (.cells #[.func (.func 131) #[] #[], .slice none 0 0] 164) = w1 at *
  refine (mergeT_any w.heap.size none 0 0 [] a na ca X w1 (by omega) (by omega) (Nat.le_refl _) L0 ⟨rfl, fun h => absurd h (by omega)⟩ X1).mono ?_
  rintro e w2 ⟨⟨v, rfl⟩, a2, c2, L2, G2, O2⟩
  have hb2 := hb1.trans (gb_below G2 hb1.size (fun g e => Nat.le_of_eq (Option.some.inj e)))
  have hlt2 := L2.lt
  have Y2 := (hY.below hb2 (Nat.le_refl _)).more hb2.size
  have hc2 := capT O2
  have I2 := Rd.of_own O2
  go_wp2_with fail
  refine (mergeT_any w.heap.size a2 (0 + na) c2 (mergeT [] X) b nb cb Y w2 (by omega) (by omega) hc2 L2 I2 Y2).mono ?_
  rintro e w3 ⟨⟨v, rfl⟩, a3, c3, L3, G3, O3⟩
  have hb3 := hb2.trans (gb_below G3 hb2.size (fun g e => Nat.le_of_eq (Option.some.inj e)))
  have I3 := Rd.of_own O3
  obtain ⟨p0, p1⟩ := L3.cells
  rw [Nat.zero_add] at p1 I3
  obtain ⟨IT, hIT⟩ : ∃ IT, mergeT (mergeT [] X) Y = IT := ⟨_, rfl⟩
  rw [hIT] at I3 hIl hBD hIB
  have HT := Lib.hid hIT
  clear hIT
  obtain ⟨N, hN⟩ : ∃ N, na + nb = N := ⟨_, rfl⟩
  rw [hN] at p1 I3 hIl
  have hN2 : N ≤ 240 := by omega
  have HN := Lib.hid hN
  have HIL := Lib.hid hIl
  clear L0 X1 hY O2 I2 Y2 G2 L2 G3 O3 L3 hc2 hb1 hb2 hN hIl hXl hYl
  go_wp2_with fail
  go_loopw [8, 20] (fun v i wr => ∃ (k q c : Nat) (d : Option Addr), k ≤ N ∧ i = .int .i64 k ∧ v = .slice d q c ∧ Hid ((accT (fun x y => x + y) IT k).length = q) ∧ wr.ownsRow w3.heap.size 45 2 (.slice d q c) q (flatT (accT (fun x y => x + y) IT k)) ∧ Below w3.heap.size w3 wr) (fun _ i _ => N - (intOf i).toNat)
  case atStart => exact ⟨0, 0, 0, none, Nat.zero_le _, rfl, rfl, Lib.hid rfl, World.ownsRow_nil _ _ _ _, Below.refl _ _⟩
  case round =>
    obtain ⟨k, q, c, d, hk, rfl, rfl, HQ, hO, hb⟩ := hrel
    by_cases hlt : k < N
    · obtain ⟨b1, o1, x, rfl, hB1, hx, c0, c1⟩ := (I3.below hb (Nat.le_refl _)).tot hlt
      have hxb := hIB.out x (List.mem_of_getElem? hx)
      have HS := Lib.hid (accT_succ (fun x y => x + y) hx)
      obtain ⟨hab, hal⟩ := hBD.out k (by rw [HIL.out]; omega)
      have HA2 := HIL.out
      rw [HQ.out] at hal
      have hb2 := bl1 wr (.cells #[.string x.key, .int .i64 x.n] 45)
      have hO2 := own_below hO hb2
      have hB2 := hb.trans (hb2.mono hb.size)
      have hX0 : (wr.alloc (.cells #[.string x.key, .int .i64 x.n] 45)).cell? ⟨wr.heap.size, 0, none⟩ = some (.string x.key) := by simp [go_sem]
      have hX1 : (wr.alloc (.cells #[.string x.key, .int .i64 x.n] 45)).cell? ⟨wr.heap.size, 1, none⟩ = some (.int .i64 x.n) := by simp [go_sem]
      have hNX : ∀ g, (Value.slice d q c).ownBlock = some g → g ≠ wr.heap.size := fun g e => by have := (own_ge hO g e).2; omega
      generalize accT (fun x y => x + y) IT k = A at *
      have hlx : wr.heap.size < (wr.alloc (.cells #[.string x.key, .int .i64 x.n] 45)).heap.size := by simp
      obtain ⟨xk, xn⟩ := x
      simp only at c0 c1 hxb hX0 hX1 hO2 hB2 hb2 hlx
      rcases List.eq_nil_or_concat A with rfl | ⟨A, t, rfl⟩
      · obtain rfl : 0 = q := HQ.out
        have HE := Lib.hid (show accT (fun x y => x + y) IT (k + 1) = [] ++ [⟨xk, xn⟩] from HS.out)
        clear hO hb hb2 hx
        go_wp2_with fail
        generalize wr.alloc (.cells #[.string xk, .int .i64 xn] 45) = w4 at *
        generalize wr.heap.size = xa at *
        go_quiet (fail)
        have hbw : Below w4.heap.size w4 (w4.drewN nq) := below_drewN (Below.refl _ _) nq
        have hb5 := hB2.trans (hbw.mono hB2.size)
        have O4 := own_below hO2 hbw
        have y0 := (hbw.cell (p := ⟨xa, 0, none⟩) hlx).trans hX0
        have y1 := (hbw.cell (p := ⟨xa, 1, none⟩) hlx).trans hX1
        clear hbw hX0 hX1 hlx hO2 hB2 hNX
        generalize w4.drewN nq = w5 at *
        have hg8 : w3.heap.size ≤ w5.heap.size := hb5.size
        have hq1 : 0 + 1 ≤ maxLen := by unfold maxLen; omega
        have hq2 : (0 + 1) * 24 ≤ 140737488355328 := by omega
        go_wp2_with (at_builtin; refine wpList_append_own_at _ rfl _ _ 24 rfl w3.heap.size 45 i0 (.agg #[.string ⟨#[]⟩, .int .i64 0]) 2 24 Try.underlying24 hi hz0 hz1 hz2 rfl (by decide) (.slice d 0 c) _ _ rfl (O4.alloc _) ⟨w5.heap.size, 0, none⟩ 1 1 [.string xk, .int .i64 xn] rfl rfl (cell_totM w5 ⟨xk, xn⟩ _) (by simp [Value.oneCell']) hq1 hq2 (Nat.le_trans hg8 (bl1 w5 _).size) ?_; intro v' w6 hO6 hg6 _ hat; refine haltT_ ?_)
        refine unhaltT_ ?_
        obtain ⟨a', cap', rfl⟩ := own_slice' hO6
        have hb6 := below_grown1 hb5 O4 hg6
        have hO7 : w6.ownsRow w3.heap.size 45 2 (.slice a' (0 + 1) cap') (0 + 1) (flatT ([] ++ [⟨xk, xn⟩])) := by rw [flatT_two]; exact hO6
        clear hg6 hat O4 hO6 hb5 y0 y1
        go_wp2_with fail
        go_roundw
        case rel => exact ⟨k + 1, 0 + 1, cap', a', by omega, by go_num, rfl, Lib.hid (by rw [HE.out]; rfl), by rw [HE.out]; exact hO7, hb6⟩
        case measure => simp [intOf]; omega
      · rw [List.concat_eq_append] at *
        obtain ⟨p, hp⟩ : ∃ p, A.length = p := ⟨_, rfl⟩
        obtain rfl : p + 1 = q := by rw [← HQ.out, List.length_append, hp]; rfl
        have ht := hab t (by simp)
        obtain ⟨g, rfl, hg0, hg1⟩ := own_form hO2 (by omega)
        have hga : g ≠ wr.heap.size := hNX g rfl
        have hgt : (A ++ [t])[p]? = some t := by rw [List.getElem?_append_right (by omega), hp]; simp
        have hfl := flatT_get _ p t hgt
        have d0 := (hO2.cellAt (p * 2) (by omega)).trans hfl.1
        have d1 := (hO2.cellAt (p * 2 + 1) (by omega)).trans hfl.2
        have f1 := hO2.frozenAt (p * 2 + 1)
        have HSS := Lib.hid (HS.out.trans (stepT_last (fun x y => x + y) A t ⟨xk, xn⟩))
        have HP := Lib.hid hp
        obtain ⟨tk, tn⟩ := t
        simp only at d0 d1 ht
        clear hO hb hb2 hx hgt hfl HS hab hp
        have z3 : IntKind.i64.wrap ((p : Int) + 1 - 1) = (p : Int) := by rw [show (p : Int) + 1 - 1 = (p : Int) by omega]; exact IntWalk.i64_in _ (by omega)
        have z4 : decide ((0 : Int) ≤ (p : Int)) = true := decide_eq_true (by omega)
        have z5 : decide ((p : Int) < 0) = false := decide_eq_false (by omega)
        cases hq : (tk.toList == xk.toList)
        · have hd2 : (tk == xk) = false := by rw [beq_toListBytes]; exact hq
          have HE := Lib.hid (show accT (fun x y => x + y) IT (k + 1) = (A ++ [⟨tk, tn⟩]) ++ [⟨xk, xn⟩] by rw [HSS.out, if_neg (by show ¬ (tk.toList == xk.toList) = true; rw [hq]; decide)])
          clear HSS
          go_wp2_with fail
          generalize wr.alloc (.cells #[.string xk, .int .i64 xn] 45) = w4 at *
          generalize wr.heap.size = xa at *
          go_quiet (fail)
          clear d0 d1 f1 z3 z4 z5
          have hbw : Below w4.heap.size w4 (w4.drewN nq) := below_drewN (Below.refl _ _) nq
          have hb5 := hB2.trans (hbw.mono hB2.size)
          have O4 := own_below hO2 hbw
          have y0 := (hbw.cell (p := ⟨xa, 0, none⟩) hlx).trans hX0
          have y1 := (hbw.cell (p := ⟨xa, 1, none⟩) hlx).trans hX1
          clear hbw hX0 hX1 hlx hO2 hB2 hNX
          generalize w4.drewN nq = w5 at *
          have hg8 : w3.heap.size ≤ w5.heap.size := hb5.size
          have hq1 : (p + 1) + 1 ≤ maxLen := by unfold maxLen; omega
          have hq2 : ((p + 1) + 1) * 24 ≤ 140737488355328 := by omega
          go_wp2_with (at_builtin; refine wpList_append_own_at _ rfl _ _ 24 rfl w3.heap.size 45 i0 (.agg #[.string ⟨#[]⟩, .int .i64 0]) 2 24 Try.underlying24 hi hz0 hz1 hz2 rfl (by decide) (.slice (some ⟨g, 0, none⟩) (p + 1) c) _ _ rfl (O4.alloc _) ⟨w5.heap.size, 0, none⟩ 1 1 [.string xk, .int .i64 xn] rfl rfl (cell_totM w5 ⟨xk, xn⟩ _) (by simp [Value.oneCell']) hq1 hq2 (Nat.le_trans hg8 (bl1 w5 _).size) ?_; intro v' w6 hO6 hg6 _ hat; refine haltT_ ?_)
          refine unhaltT_ ?_
          obtain ⟨a', cap', rfl⟩ := own_slice' hO6
          have hb6 := below_grown1 hb5 O4 hg6
          have hO7 : w6.ownsRow w3.heap.size 45 2 (.slice a' ((p + 1) + 1) cap') ((p + 1) + 1) (flatT ((A ++ [⟨tk, tn⟩]) ++ [⟨xk, xn⟩])) := by rw [flatT_two]; exact hO6
          clear hg6 hat O4 hO6 hb5 y0 y1
          go_wp2_with fail
          go_roundw
          case rel => exact ⟨k + 1, (p + 1) + 1, cap', a', by omega, by go_num, rfl, Lib.hid (by rw [HE.out]; simp [HP.out]), by rw [HE.out]; exact hO7, hb6⟩
          case measure => simp [intOf]; omega
        · have hd2 : (tk == xk) = true := by rw [beq_toListBytes]; exact hq
          have HE := Lib.hid (show accT (fun x y => x + y) IT (k + 1) = A ++ [⟨tk, tn + xn⟩] by rw [HSS.out, if_pos (by show (tk.toList == xk.toList) = true; exact hq)])
          clear HSS
          go_wp2_with fail
          generalize wr.alloc (.cells #[.string xk, .int .i64 xn] 45) = w4 at *
          generalize wr.heap.size = xa at *
          go_quiet (fail)
          have hbw : Below w4.heap.size w4 (w4.drewN nq) := below_drewN (Below.refl _ _) nq
          have hb5 := hB2.trans (hbw.mono hB2.size)
          have O4 := own_below hO2 hbw
          have y1 := (hbw.cell (p := ⟨xa, 1, none⟩) hlx).trans hX1
          have e1 := (hbw.cell (p := ⟨g, p * 2 + 1, none⟩) hg1).trans d1
          have f2 := O4.frozenAt (p * 2 + 1)
          clear hbw hX0 hX1 hlx hO2 hB2 hNX d0 d1 f1
          generalize w4.drewN nq = w5 at *
          go_wp2_with fail
          go_region_with (go_at_call 106; refine (plusC_any tn xn _ ⟨by omega, by omega⟩ ⟨by omega, by omega⟩).mono ?_; rintro e w' ⟨rfl, rfl⟩)
          all_goals
            have O6 := own_set1 (k := p * 2 + 1) O4 (.int .i64 (tn + xn))
            have e6 : (flatT (A ++ [⟨tk, tn⟩])).set (p * 2 + 1) (.int .i64 (tn + xn)) = flatT (A ++ [⟨tk, tn + xn⟩]) := by rw [← HP.out]; exact flatT_setlast A ⟨tk, tn⟩ _
            rw [e6] at O6
            have hb6 := (hb5.setCell (p := ⟨g, p * 2 + 1, none⟩) hg0 (.int .i64 (tn + xn))).drew
            have O7 := own_below O6 (Below.refl (w5.setCell ⟨g, p * 2 + 1, none⟩ (.int .i64 (tn + xn))).heap.size (w5.setCell ⟨g, p * 2 + 1, none⟩ (.int .i64 (tn + xn)))).drew
            clear O4 O6 e6 hb5 y1 e1 f2
            generalize (w5.setCell ⟨g, p * 2 + 1, none⟩ (.int .i64 (tn + xn))).drew = w6 at *
            go_wp2_with fail
            go_roundw
            case rel => exact ⟨k + 1, p + 1, c, some ⟨g, 0, none⟩, by omega, by go_num, rfl, Lib.hid (by rw [HE.out]; simp [HP.out]), by rw [HE.out]; exact O7, hb6⟩
            case measure => simp [intOf]; omega
    · obtain rfl : k = N := by omega
      have HR := HQ.out
      have hb9 := hb3.trans (hb.mono hb3.size)
      have O9 := own_base' hO hb3.size
      rw [← HN.out, ← HT.out] at HR O9
      clear hO hb HQ p0 p1
      go_wp2_with fail
      go_ret
      exact ⟨d, q, c, rfl, HR, hb9, O9⟩
set_option maxRecDepth 100000 in
theorem lesserC_any (x y : Int) (w : World) (_hx : 0 ≤ x ∧ x ≤ 1000000000000000) (_hy : 0 ≤ y ∧ y ≤ 1000000000000000) : Calls Try.prog 108 #[.int .i64 x, .int .i64 y] w fun e w' => e = .returned (.int .i64 (min x y)) ∧ w' = w := by
  go_enter Try.func108, Try.ntmps108
  go_wp2
  go_ret
  exact ⟨rfl, rfl⟩
set_option maxRecDepth 100000 in
set_option maxHeartbeats 4000000 in
theorem by_lesser (a b : Option Addr) (na ca nb cb : Nat) (X Y : List TotV) (w : World) (ha : na ≤ 120) (hb0 : nb ≤ 120) (hX : Rd w w.heap.size 2 a na (flatT X)) (hY : Rd w w.heap.size 2 b nb (flatT Y)) (hnX : NumT 999999999999 X) (hnY : NumT 999999999999 Y) :
    Calls Try.prog 96 #[.slice a na ca, .slice b nb cb, .func (.func 108) #[] #[]] w fun e w' => ∃ d q c, e = .returned (.slice d q c) ∧ (accT (min) (mergeT (mergeT [] X) Y) (na + nb)).length = q ∧ Below w.heap.size w w' ∧ w'.ownsRow w.heap.size 45 2 (.slice d q c) q (flatT (accT (min) (mergeT (mergeT [] X) Y) (na + nb))) := by
  obtain ⟨i0, hi, hz0, hz1, hz2⟩ := info_parts infoTotal
  have hXl := hX.tots_length
  have hYl := hY.tots_length
  have hNI := merge_num (merge_num (a := []) (fun _ h => by cases h) hnX) hnY
  have hIl : (mergeT (mergeT [] X) Y).length = na + nb := by rw [mergeT_length, mergeT_length, hXl, hYl]; simp
  have hBD := Lib.hid (accT_bd (c := (min)) (fun x y hx hy => by first | (constructor <;> (show _ ≤ _; omega)) | (show _ ∧ _; omega)) hNI)
  have hIB := Lib.hid hNI
  have hb1 := bl1 w (.cells #[.func (.func 131) #[] #[], .slice none 0 0] 164)
  have L0 := SlT.new w (.slice none 0 0) 164
  have X1 := (hX.below hb1 (Nat.le_refl _)).more hb1.size
  clear hX hnX hnY hNI
  go_enter Try.func96, Try.ntmps96
  go_wp2_with fail
  generalize w.alloc (.cells #[.func (.func 131) #[] #[], .slice none 0 0] 164) = w1 at *
  refine (mergeT_any w.heap.size none 0 0 [] a na ca X w1 (by omega) (by omega) (Nat.le_refl _) L0 ⟨rfl, fun h => absurd h (by omega)⟩ X1).mono ?_
  rintro e w2 ⟨⟨v, rfl⟩, a2, c2, L2, G2, O2⟩
  have hb2 := hb1.trans (gb_below G2 hb1.size (fun g e => Nat.le_of_eq (Option.some.inj e)))
  have hlt2 := L2.lt
  have Y2 := (hY.below hb2 (Nat.le_refl _)).more hb2.size
  have hc2 := capT O2
  have I2 := Rd.of_own O2
  go_wp2_with fail
  refine (mergeT_any w.heap.size a2 (0 + na) c2 (mergeT [] X) b nb cb Y w2 (by omega) (by omega) hc2 L2 I2 Y2).mono ?_
  rintro e w3 ⟨⟨v, rfl⟩, a3, c3, L3, G3, O3⟩
  have hb3 := hb2.trans (gb_below G3 hb2.size (fun g e => Nat.le_of_eq (Option.some.inj e)))
  have I3 := Rd.of_own O3
  obtain ⟨p0, p1⟩ := L3.cells
  rw [Nat.zero_add] at p1 I3
  obtain ⟨IT, hIT⟩ : ∃ IT, mergeT (mergeT [] X) Y = IT := ⟨_, rfl⟩
  rw [hIT] at I3 hIl hBD hIB
  have HT := Lib.hid hIT
  clear hIT
  obtain ⟨N, hN⟩ : ∃ N, na + nb = N := ⟨_, rfl⟩
  rw [hN] at p1 I3 hIl
  have hN2 : N ≤ 240 := by omega
  have HN := Lib.hid hN
  have HIL := Lib.hid hIl
  clear L0 X1 hY O2 I2 Y2 G2 L2 G3 O3 L3 hc2 hb1 hb2 hN hIl hXl hYl
  go_wp2_with fail
  go_loopw [8, 20] (fun v i wr => ∃ (k q c : Nat) (d : Option Addr), k ≤ N ∧ i = .int .i64 k ∧ v = .slice d q c ∧ Hid ((accT (min) IT k).length = q) ∧ wr.ownsRow w3.heap.size 45 2 (.slice d q c) q (flatT (accT (min) IT k)) ∧ Below w3.heap.size w3 wr) (fun _ i _ => N - (intOf i).toNat)
  case atStart => exact ⟨0, 0, 0, none, Nat.zero_le _, rfl, rfl, Lib.hid rfl, World.ownsRow_nil _ _ _ _, Below.refl _ _⟩
  case round =>
    obtain ⟨k, q, c, d, hk, rfl, rfl, HQ, hO, hb⟩ := hrel
    by_cases hlt : k < N
    · obtain ⟨b1, o1, x, rfl, hB1, hx, c0, c1⟩ := (I3.below hb (Nat.le_refl _)).tot hlt
      have hxb := hIB.out x (List.mem_of_getElem? hx)
      have HS := Lib.hid (accT_succ (min) hx)
      obtain ⟨hab, hal⟩ := hBD.out k (by rw [HIL.out]; omega)
      have HA2 := HIL.out
      rw [HQ.out] at hal
      have hb2 := bl1 wr (.cells #[.string x.key, .int .i64 x.n] 45)
      have hO2 := own_below hO hb2
      have hB2 := hb.trans (hb2.mono hb.size)
      have hX0 : (wr.alloc (.cells #[.string x.key, .int .i64 x.n] 45)).cell? ⟨wr.heap.size, 0, none⟩ = some (.string x.key) := by simp [go_sem]
      have hX1 : (wr.alloc (.cells #[.string x.key, .int .i64 x.n] 45)).cell? ⟨wr.heap.size, 1, none⟩ = some (.int .i64 x.n) := by simp [go_sem]
      have hNX : ∀ g, (Value.slice d q c).ownBlock = some g → g ≠ wr.heap.size := fun g e => by have := (own_ge hO g e).2; omega
      generalize accT (min) IT k = A at *
      have hlx : wr.heap.size < (wr.alloc (.cells #[.string x.key, .int .i64 x.n] 45)).heap.size := by simp
      obtain ⟨xk, xn⟩ := x
      simp only at c0 c1 hxb hX0 hX1 hO2 hB2 hb2 hlx
      rcases List.eq_nil_or_concat A with rfl | ⟨A, t, rfl⟩
      · obtain rfl : 0 = q := HQ.out
        have HE := Lib.hid (show accT (min) IT (k + 1) = [] ++ [⟨xk, xn⟩] from HS.out)
        clear hO hb hb2 hx
        go_wp2_with fail
        generalize wr.alloc (.cells #[.string xk, .int .i64 xn] 45) = w4 at *
        generalize wr.heap.size = xa at *
        go_quiet (fail)
        have hbw : Below w4.heap.size w4 (w4.drewN nq) := below_drewN (Below.refl _ _) nq
        have hb5 := hB2.trans (hbw.mono hB2.size)
        have O4 := own_below hO2 hbw
        have y0 := (hbw.cell (p := ⟨xa, 0, none⟩) hlx).trans hX0
        have y1 := (hbw.cell (p := ⟨xa, 1, none⟩) hlx).trans hX1
        clear hbw hX0 hX1 hlx hO2 hB2 hNX
        generalize w4.drewN nq = w5 at *
        have hg8 : w3.heap.size ≤ w5.heap.size := hb5.size
        have hq1 : 0 + 1 ≤ maxLen := by unfold maxLen; omega
        have hq2 : (0 + 1) * 24 ≤ 140737488355328 := by omega
        go_wp2_with (at_builtin; refine wpList_append_own_at _ rfl _ _ 24 rfl w3.heap.size 45 i0 (.agg #[.string ⟨#[]⟩, .int .i64 0]) 2 24 Try.underlying24 hi hz0 hz1 hz2 rfl (by decide) (.slice d 0 c) _ _ rfl (O4.alloc _) ⟨w5.heap.size, 0, none⟩ 1 1 [.string xk, .int .i64 xn] rfl rfl (cell_totM w5 ⟨xk, xn⟩ _) (by simp [Value.oneCell']) hq1 hq2 (Nat.le_trans hg8 (bl1 w5 _).size) ?_; intro v' w6 hO6 hg6 _ hat; refine haltT_ ?_)
        refine unhaltT_ ?_
        obtain ⟨a', cap', rfl⟩ := own_slice' hO6
        have hb6 := below_grown1 hb5 O4 hg6
        have hO7 : w6.ownsRow w3.heap.size 45 2 (.slice a' (0 + 1) cap') (0 + 1) (flatT ([] ++ [⟨xk, xn⟩])) := by rw [flatT_two]; exact hO6
        clear hg6 hat O4 hO6 hb5 y0 y1
        go_wp2_with fail
        go_roundw
        case rel => exact ⟨k + 1, 0 + 1, cap', a', by omega, by go_num, rfl, Lib.hid (by rw [HE.out]; rfl), by rw [HE.out]; exact hO7, hb6⟩
        case measure => simp [intOf]; omega
      · rw [List.concat_eq_append] at *
        obtain ⟨p, hp⟩ : ∃ p, A.length = p := ⟨_, rfl⟩
        obtain rfl : p + 1 = q := by rw [← HQ.out, List.length_append, hp]; rfl
        have ht := hab t (by simp)
        obtain ⟨g, rfl, hg0, hg1⟩ := own_form hO2 (by omega)
        have hga : g ≠ wr.heap.size := hNX g rfl
        have hgt : (A ++ [t])[p]? = some t := by rw [List.getElem?_append_right (by omega), hp]; simp
        have hfl := flatT_get _ p t hgt
        have d0 := (hO2.cellAt (p * 2) (by omega)).trans hfl.1
        have d1 := (hO2.cellAt (p * 2 + 1) (by omega)).trans hfl.2
        have f1 := hO2.frozenAt (p * 2 + 1)
        have HSS := Lib.hid (HS.out.trans (stepT_last (min) A t ⟨xk, xn⟩))
        have HP := Lib.hid hp
        obtain ⟨tk, tn⟩ := t
        simp only at d0 d1 ht
        clear hO hb hb2 hx hgt hfl HS hab hp
        have z3 : IntKind.i64.wrap ((p : Int) + 1 - 1) = (p : Int) := by rw [show (p : Int) + 1 - 1 = (p : Int) by omega]; exact IntWalk.i64_in _ (by omega)
        have z4 : decide ((0 : Int) ≤ (p : Int)) = true := decide_eq_true (by omega)
        have z5 : decide ((p : Int) < 0) = false := decide_eq_false (by omega)
        cases hq : (tk.toList == xk.toList)
        · have hd2 : (tk == xk) = false := by rw [beq_toListBytes]; exact hq
          have HE := Lib.hid (show accT (min) IT (k + 1) = (A ++ [⟨tk, tn⟩]) ++ [⟨xk, xn⟩] by rw [HSS.out, if_neg (by show ¬ (tk.toList == xk.toList) = true; rw [hq]; decide)])
          clear HSS
          go_wp2_with fail
          generalize wr.alloc (.cells #[.string xk, .int .i64 xn] 45) = w4 at *
          generalize wr.heap.size = xa at *
          go_quiet (fail)
          clear d0 d1 f1 z3 z4 z5
          have hbw : Below w4.heap.size w4 (w4.drewN nq) := below_drewN (Below.refl _ _) nq
          have hb5 := hB2.trans (hbw.mono hB2.size)
          have O4 := own_below hO2 hbw
          have y0 := (hbw.cell (p := ⟨xa, 0, none⟩) hlx).trans hX0
          have y1 := (hbw.cell (p := ⟨xa, 1, none⟩) hlx).trans hX1
          clear hbw hX0 hX1 hlx hO2 hB2 hNX
          generalize w4.drewN nq = w5 at *
          have hg8 : w3.heap.size ≤ w5.heap.size := hb5.size
          have hq1 : (p + 1) + 1 ≤ maxLen := by unfold maxLen; omega
          have hq2 : ((p + 1) + 1) * 24 ≤ 140737488355328 := by omega
          go_wp2_with (at_builtin; refine wpList_append_own_at _ rfl _ _ 24 rfl w3.heap.size 45 i0 (.agg #[.string ⟨#[]⟩, .int .i64 0]) 2 24 Try.underlying24 hi hz0 hz1 hz2 rfl (by decide) (.slice (some ⟨g, 0, none⟩) (p + 1) c) _ _ rfl (O4.alloc _) ⟨w5.heap.size, 0, none⟩ 1 1 [.string xk, .int .i64 xn] rfl rfl (cell_totM w5 ⟨xk, xn⟩ _) (by simp [Value.oneCell']) hq1 hq2 (Nat.le_trans hg8 (bl1 w5 _).size) ?_; intro v' w6 hO6 hg6 _ hat; refine haltT_ ?_)
          refine unhaltT_ ?_
          obtain ⟨a', cap', rfl⟩ := own_slice' hO6
          have hb6 := below_grown1 hb5 O4 hg6
          have hO7 : w6.ownsRow w3.heap.size 45 2 (.slice a' ((p + 1) + 1) cap') ((p + 1) + 1) (flatT ((A ++ [⟨tk, tn⟩]) ++ [⟨xk, xn⟩])) := by rw [flatT_two]; exact hO6
          clear hg6 hat O4 hO6 hb5 y0 y1
          go_wp2_with fail
          go_roundw
          case rel => exact ⟨k + 1, (p + 1) + 1, cap', a', by omega, by go_num, rfl, Lib.hid (by rw [HE.out]; simp [HP.out]), by rw [HE.out]; exact hO7, hb6⟩
          case measure => simp [intOf]; omega
        · have hd2 : (tk == xk) = true := by rw [beq_toListBytes]; exact hq
          have HE := Lib.hid (show accT (min) IT (k + 1) = A ++ [⟨tk, min tn xn⟩] by rw [HSS.out, if_pos (by show (tk.toList == xk.toList) = true; exact hq)])
          clear HSS
          go_wp2_with fail
          generalize wr.alloc (.cells #[.string xk, .int .i64 xn] 45) = w4 at *
          generalize wr.heap.size = xa at *
          go_quiet (fail)
          have hbw : Below w4.heap.size w4 (w4.drewN nq) := below_drewN (Below.refl _ _) nq
          have hb5 := hB2.trans (hbw.mono hB2.size)
          have O4 := own_below hO2 hbw
          have y1 := (hbw.cell (p := ⟨xa, 1, none⟩) hlx).trans hX1
          have e1 := (hbw.cell (p := ⟨g, p * 2 + 1, none⟩) hg1).trans d1
          have f2 := O4.frozenAt (p * 2 + 1)
          clear hbw hX0 hX1 hlx hO2 hB2 hNX d0 d1 f1
          generalize w4.drewN nq = w5 at *
          go_wp2_with fail
          go_region_with (go_at_call 108; refine (lesserC_any tn xn _ ⟨by omega, by omega⟩ ⟨by omega, by omega⟩).mono ?_; rintro e w' ⟨rfl, rfl⟩)
          all_goals
            have O6 := own_set1 (k := p * 2 + 1) O4 (.int .i64 (min tn xn))
            have e6 : (flatT (A ++ [⟨tk, tn⟩])).set (p * 2 + 1) (.int .i64 (min tn xn)) = flatT (A ++ [⟨tk, min tn xn⟩]) := by rw [← HP.out]; exact flatT_setlast A ⟨tk, tn⟩ _
            rw [e6] at O6
            have hb6 := (hb5.setCell (p := ⟨g, p * 2 + 1, none⟩) hg0 (.int .i64 (min tn xn))).drew
            have O7 := own_below O6 (Below.refl (w5.setCell ⟨g, p * 2 + 1, none⟩ (.int .i64 (min tn xn))).heap.size (w5.setCell ⟨g, p * 2 + 1, none⟩ (.int .i64 (min tn xn)))).drew
            clear O4 O6 e6 hb5 y1 e1 f2
            generalize (w5.setCell ⟨g, p * 2 + 1, none⟩ (.int .i64 (min tn xn))).drew = w6 at *
            go_wp2_with fail
            go_roundw
            case rel => exact ⟨k + 1, p + 1, c, some ⟨g, 0, none⟩, by omega, by go_num, rfl, Lib.hid (by rw [HE.out]; simp [HP.out]), by rw [HE.out]; exact O7, hb6⟩
            case measure => simp [intOf]; omega
    · obtain rfl : k = N := by omega
      have HR := HQ.out
      have hb9 := hb3.trans (hb.mono hb3.size)
      have O9 := own_base' hO hb3.size
      rw [← HN.out, ← HT.out] at HR O9
      clear hO hb HQ p0 p1
      go_wp2_with fail
      go_ret
      exact ⟨d, q, c, rfl, HR, hb9, O9⟩
set_option maxRecDepth 100000 in
theorem greaterC_any (x y : Int) (w : World) (_hx : 0 ≤ x ∧ x ≤ 1000000000000000) (_hy : 0 ≤ y ∧ y ≤ 1000000000000000) : Calls Try.prog 109 #[.int .i64 x, .int .i64 y] w fun e w' => e = .returned (.int .i64 (max x y)) ∧ w' = w := by
  go_enter Try.func109, Try.ntmps109
  go_wp2
  go_ret
  exact ⟨rfl, rfl⟩
set_option maxRecDepth 100000 in
set_option maxHeartbeats 4000000 in
theorem by_greater (a b : Option Addr) (na ca nb cb : Nat) (X Y : List TotV) (w : World) (ha : na ≤ 120) (hb0 : nb ≤ 120) (hX : Rd w w.heap.size 2 a na (flatT X)) (hY : Rd w w.heap.size 2 b nb (flatT Y)) (hnX : NumT 999999999999 X) (hnY : NumT 999999999999 Y) :
    Calls Try.prog 96 #[.slice a na ca, .slice b nb cb, .func (.func 109) #[] #[]] w fun e w' => ∃ d q c, e = .returned (.slice d q c) ∧ (accT (max) (mergeT (mergeT [] X) Y) (na + nb)).length = q ∧ Below w.heap.size w w' ∧ w'.ownsRow w.heap.size 45 2 (.slice d q c) q (flatT (accT (max) (mergeT (mergeT [] X) Y) (na + nb))) := by
  obtain ⟨i0, hi, hz0, hz1, hz2⟩ := info_parts infoTotal
  have hXl := hX.tots_length
  have hYl := hY.tots_length
  have hNI := merge_num (merge_num (a := []) (fun _ h => by cases h) hnX) hnY
  have hIl : (mergeT (mergeT [] X) Y).length = na + nb := by rw [mergeT_length, mergeT_length, hXl, hYl]; simp
  have hBD := Lib.hid (accT_bd (c := (max)) (fun x y hx hy => by first | (constructor <;> (show _ ≤ _; omega)) | (show _ ∧ _; omega)) hNI)
  have hIB := Lib.hid hNI
  have hb1 := bl1 w (.cells #[.func (.func 131) #[] #[], .slice none 0 0] 164)
  have L0 := SlT.new w (.slice none 0 0) 164
  have X1 := (hX.below hb1 (Nat.le_refl _)).more hb1.size
  clear hX hnX hnY hNI
  go_enter Try.func96, Try.ntmps96
  go_wp2_with fail
  generalize w.alloc (.cells #[.func (.func 131) #[] #[], .slice none 0 0] 164) = w1 at *
  refine (mergeT_any w.heap.size none 0 0 [] a na ca X w1 (by omega) (by omega) (Nat.le_refl _) L0 ⟨rfl, fun h => absurd h (by omega)⟩ X1).mono ?_
  rintro e w2 ⟨⟨v, rfl⟩, a2, c2, L2, G2, O2⟩
  have hb2 := hb1.trans (gb_below G2 hb1.size (fun g e => Nat.le_of_eq (Option.some.inj e)))
  have hlt2 := L2.lt
  have Y2 := (hY.below hb2 (Nat.le_refl _)).more hb2.size
  have hc2 := capT O2
  have I2 := Rd.of_own O2
  go_wp2_with fail
  refine (mergeT_any w.heap.size a2 (0 + na) c2 (mergeT [] X) b nb cb Y w2 (by omega) (by omega) hc2 L2 I2 Y2).mono ?_
  rintro e w3 ⟨⟨v, rfl⟩, a3, c3, L3, G3, O3⟩
  have hb3 := hb2.trans (gb_below G3 hb2.size (fun g e => Nat.le_of_eq (Option.some.inj e)))
  have I3 := Rd.of_own O3
  obtain ⟨p0, p1⟩ := L3.cells
  rw [Nat.zero_add] at p1 I3
  obtain ⟨IT, hIT⟩ : ∃ IT, mergeT (mergeT [] X) Y = IT := ⟨_, rfl⟩
  rw [hIT] at I3 hIl hBD hIB
  have HT := Lib.hid hIT
  clear hIT
  obtain ⟨N, hN⟩ : ∃ N, na + nb = N := ⟨_, rfl⟩
  rw [hN] at p1 I3 hIl
  have hN2 : N ≤ 240 := by omega
  have HN := Lib.hid hN
  have HIL := Lib.hid hIl
  clear L0 X1 hY O2 I2 Y2 G2 L2 G3 O3 L3 hc2 hb1 hb2 hN hIl hXl hYl
  go_wp2_with fail
  go_loopw [8, 20] (fun v i wr => ∃ (k q c : Nat) (d : Option Addr), k ≤ N ∧ i = .int .i64 k ∧ v = .slice d q c ∧ Hid ((accT (max) IT k).length = q) ∧ wr.ownsRow w3.heap.size 45 2 (.slice d q c) q (flatT (accT (max) IT k)) ∧ Below w3.heap.size w3 wr) (fun _ i _ => N - (intOf i).toNat)
  case atStart => exact ⟨0, 0, 0, none, Nat.zero_le _, rfl, rfl, Lib.hid rfl, World.ownsRow_nil _ _ _ _, Below.refl _ _⟩
  case round =>
    obtain ⟨k, q, c, d, hk, rfl, rfl, HQ, hO, hb⟩ := hrel
    by_cases hlt : k < N
    · obtain ⟨b1, o1, x, rfl, hB1, hx, c0, c1⟩ := (I3.below hb (Nat.le_refl _)).tot hlt
      have hxb := hIB.out x (List.mem_of_getElem? hx)
      have HS := Lib.hid (accT_succ (max) hx)
      obtain ⟨hab, hal⟩ := hBD.out k (by rw [HIL.out]; omega)
      have HA2 := HIL.out
      rw [HQ.out] at hal
      have hb2 := bl1 wr (.cells #[.string x.key, .int .i64 x.n] 45)
      have hO2 := own_below hO hb2
      have hB2 := hb.trans (hb2.mono hb.size)
      have hX0 : (wr.alloc (.cells #[.string x.key, .int .i64 x.n] 45)).cell? ⟨wr.heap.size, 0, none⟩ = some (.string x.key) := by simp [go_sem]
      have hX1 : (wr.alloc (.cells #[.string x.key, .int .i64 x.n] 45)).cell? ⟨wr.heap.size, 1, none⟩ = some (.int .i64 x.n) := by simp [go_sem]
      have hNX : ∀ g, (Value.slice d q c).ownBlock = some g → g ≠ wr.heap.size := fun g e => by have := (own_ge hO g e).2; omega
      generalize accT (max) IT k = A at *
      have hlx : wr.heap.size < (wr.alloc (.cells #[.string x.key, .int .i64 x.n] 45)).heap.size := by simp
      obtain ⟨xk, xn⟩ := x
      simp only at c0 c1 hxb hX0 hX1 hO2 hB2 hb2 hlx
      rcases List.eq_nil_or_concat A with rfl | ⟨A, t, rfl⟩
      · obtain rfl : 0 = q := HQ.out
        have HE := Lib.hid (show accT (max) IT (k + 1) = [] ++ [⟨xk, xn⟩] from HS.out)
        clear hO hb hb2 hx
        go_wp2_with fail
        generalize wr.alloc (.cells #[.string xk, .int .i64 xn] 45) = w4 at *
        generalize wr.heap.size = xa at *
        go_quiet (fail)
        have hbw : Below w4.heap.size w4 (w4.drewN nq) := below_drewN (Below.refl _ _) nq
        have hb5 := hB2.trans (hbw.mono hB2.size)
        have O4 := own_below hO2 hbw
        have y0 := (hbw.cell (p := ⟨xa, 0, none⟩) hlx).trans hX0
        have y1 := (hbw.cell (p := ⟨xa, 1, none⟩) hlx).trans hX1
        clear hbw hX0 hX1 hlx hO2 hB2 hNX
        generalize w4.drewN nq = w5 at *
        have hg8 : w3.heap.size ≤ w5.heap.size := hb5.size
        have hq1 : 0 + 1 ≤ maxLen := by unfold maxLen; omega
        have hq2 : (0 + 1) * 24 ≤ 140737488355328 := by omega
        go_wp2_with (at_builtin; refine wpList_append_own_at _ rfl _ _ 24 rfl w3.heap.size 45 i0 (.agg #[.string ⟨#[]⟩, .int .i64 0]) 2 24 Try.underlying24 hi hz0 hz1 hz2 rfl (by decide) (.slice d 0 c) _ _ rfl (O4.alloc _) ⟨w5.heap.size, 0, none⟩ 1 1 [.string xk, .int .i64 xn] rfl rfl (cell_totM w5 ⟨xk, xn⟩ _) (by simp [Value.oneCell']) hq1 hq2 (Nat.le_trans hg8 (bl1 w5 _).size) ?_; intro v' w6 hO6 hg6 _ hat; refine haltT_ ?_)
        refine unhaltT_ ?_
        obtain ⟨a', cap', rfl⟩ := own_slice' hO6
        have hb6 := below_grown1 hb5 O4 hg6
        have hO7 : w6.ownsRow w3.heap.size 45 2 (.slice a' (0 + 1) cap') (0 + 1) (flatT ([] ++ [⟨xk, xn⟩])) := by rw [flatT_two]; exact hO6
        clear hg6 hat O4 hO6 hb5 y0 y1
        go_wp2_with fail
        go_roundw
        case rel => exact ⟨k + 1, 0 + 1, cap', a', by omega, by go_num, rfl, Lib.hid (by rw [HE.out]; rfl), by rw [HE.out]; exact hO7, hb6⟩
        case measure => simp [intOf]; omega
      · rw [List.concat_eq_append] at *
        obtain ⟨p, hp⟩ : ∃ p, A.length = p := ⟨_, rfl⟩
        obtain rfl : p + 1 = q := by rw [← HQ.out, List.length_append, hp]; rfl
        have ht := hab t (by simp)
        obtain ⟨g, rfl, hg0, hg1⟩ := own_form hO2 (by omega)
        have hga : g ≠ wr.heap.size := hNX g rfl
        have hgt : (A ++ [t])[p]? = some t := by rw [List.getElem?_append_right (by omega), hp]; simp
        have hfl := flatT_get _ p t hgt
        have d0 := (hO2.cellAt (p * 2) (by omega)).trans hfl.1
        have d1 := (hO2.cellAt (p * 2 + 1) (by omega)).trans hfl.2
        have f1 := hO2.frozenAt (p * 2 + 1)
        have HSS := Lib.hid (HS.out.trans (stepT_last (max) A t ⟨xk, xn⟩))
        have HP := Lib.hid hp
        obtain ⟨tk, tn⟩ := t
        simp only at d0 d1 ht
        clear hO hb hb2 hx hgt hfl HS hab hp
        have z3 : IntKind.i64.wrap ((p : Int) + 1 - 1) = (p : Int) := by rw [show (p : Int) + 1 - 1 = (p : Int) by omega]; exact IntWalk.i64_in _ (by omega)
        have z4 : decide ((0 : Int) ≤ (p : Int)) = true := decide_eq_true (by omega)
        have z5 : decide ((p : Int) < 0) = false := decide_eq_false (by omega)
        cases hq : (tk.toList == xk.toList)
        · have hd2 : (tk == xk) = false := by rw [beq_toListBytes]; exact hq
          have HE := Lib.hid (show accT (max) IT (k + 1) = (A ++ [⟨tk, tn⟩]) ++ [⟨xk, xn⟩] by rw [HSS.out, if_neg (by show ¬ (tk.toList == xk.toList) = true; rw [hq]; decide)])
          clear HSS
          go_wp2_with fail
          generalize wr.alloc (.cells #[.string xk, .int .i64 xn] 45) = w4 at *
          generalize wr.heap.size = xa at *
          go_quiet (fail)
          clear d0 d1 f1 z3 z4 z5
          have hbw : Below w4.heap.size w4 (w4.drewN nq) := below_drewN (Below.refl _ _) nq
          have hb5 := hB2.trans (hbw.mono hB2.size)
          have O4 := own_below hO2 hbw
          have y0 := (hbw.cell (p := ⟨xa, 0, none⟩) hlx).trans hX0
          have y1 := (hbw.cell (p := ⟨xa, 1, none⟩) hlx).trans hX1
          clear hbw hX0 hX1 hlx hO2 hB2 hNX
          generalize w4.drewN nq = w5 at *
          have hg8 : w3.heap.size ≤ w5.heap.size := hb5.size
          have hq1 : (p + 1) + 1 ≤ maxLen := by unfold maxLen; omega
          have hq2 : ((p + 1) + 1) * 24 ≤ 140737488355328 := by omega
          go_wp2_with (at_builtin; refine wpList_append_own_at _ rfl _ _ 24 rfl w3.heap.size 45 i0 (.agg #[.string ⟨#[]⟩, .int .i64 0]) 2 24 Try.underlying24 hi hz0 hz1 hz2 rfl (by decide) (.slice (some ⟨g, 0, none⟩) (p + 1) c) _ _ rfl (O4.alloc _) ⟨w5.heap.size, 0, none⟩ 1 1 [.string xk, .int .i64 xn] rfl rfl (cell_totM w5 ⟨xk, xn⟩ _) (by simp [Value.oneCell']) hq1 hq2 (Nat.le_trans hg8 (bl1 w5 _).size) ?_; intro v' w6 hO6 hg6 _ hat; refine haltT_ ?_)
          refine unhaltT_ ?_
          obtain ⟨a', cap', rfl⟩ := own_slice' hO6
          have hb6 := below_grown1 hb5 O4 hg6
          have hO7 : w6.ownsRow w3.heap.size 45 2 (.slice a' ((p + 1) + 1) cap') ((p + 1) + 1) (flatT ((A ++ [⟨tk, tn⟩]) ++ [⟨xk, xn⟩])) := by rw [flatT_two]; exact hO6
          clear hg6 hat O4 hO6 hb5 y0 y1
          go_wp2_with fail
          go_roundw
          case rel => exact ⟨k + 1, (p + 1) + 1, cap', a', by omega, by go_num, rfl, Lib.hid (by rw [HE.out]; simp [HP.out]), by rw [HE.out]; exact hO7, hb6⟩
          case measure => simp [intOf]; omega
        · have hd2 : (tk == xk) = true := by rw [beq_toListBytes]; exact hq
          have HE := Lib.hid (show accT (max) IT (k + 1) = A ++ [⟨tk, max tn xn⟩] by rw [HSS.out, if_pos (by show (tk.toList == xk.toList) = true; exact hq)])
          clear HSS
          go_wp2_with fail
          generalize wr.alloc (.cells #[.string xk, .int .i64 xn] 45) = w4 at *
          generalize wr.heap.size = xa at *
          go_quiet (fail)
          have hbw : Below w4.heap.size w4 (w4.drewN nq) := below_drewN (Below.refl _ _) nq
          have hb5 := hB2.trans (hbw.mono hB2.size)
          have O4 := own_below hO2 hbw
          have y1 := (hbw.cell (p := ⟨xa, 1, none⟩) hlx).trans hX1
          have e1 := (hbw.cell (p := ⟨g, p * 2 + 1, none⟩) hg1).trans d1
          have f2 := O4.frozenAt (p * 2 + 1)
          clear hbw hX0 hX1 hlx hO2 hB2 hNX d0 d1 f1
          generalize w4.drewN nq = w5 at *
          go_wp2_with fail
          go_region_with (go_at_call 109; refine (greaterC_any tn xn _ ⟨by omega, by omega⟩ ⟨by omega, by omega⟩).mono ?_; rintro e w' ⟨rfl, rfl⟩)
          all_goals
            have O6 := own_set1 (k := p * 2 + 1) O4 (.int .i64 (max tn xn))
            have e6 : (flatT (A ++ [⟨tk, tn⟩])).set (p * 2 + 1) (.int .i64 (max tn xn)) = flatT (A ++ [⟨tk, max tn xn⟩]) := by rw [← HP.out]; exact flatT_setlast A ⟨tk, tn⟩ _
            rw [e6] at O6
            have hb6 := (hb5.setCell (p := ⟨g, p * 2 + 1, none⟩) hg0 (.int .i64 (max tn xn))).drew
            have O7 := own_below O6 (Below.refl (w5.setCell ⟨g, p * 2 + 1, none⟩ (.int .i64 (max tn xn))).heap.size (w5.setCell ⟨g, p * 2 + 1, none⟩ (.int .i64 (max tn xn)))).drew
            clear O4 O6 e6 hb5 y1 e1 f2
            generalize (w5.setCell ⟨g, p * 2 + 1, none⟩ (.int .i64 (max tn xn))).drew = w6 at *
            go_wp2_with fail
            go_roundw
            case rel => exact ⟨k + 1, p + 1, c, some ⟨g, 0, none⟩, by omega, by go_num, rfl, Lib.hid (by rw [HE.out]; simp [HP.out]), by rw [HE.out]; exact O7, hb6⟩
            case measure => simp [intOf]; omega
    · obtain rfl : k = N := by omega
      have HR := HQ.out
      have hb9 := hb3.trans (hb.mono hb3.size)
      have O9 := own_base' hO hb3.size
      rw [← HN.out, ← HT.out] at HR O9
      clear hO hb HQ p0 p1
      go_wp2_with fail
      go_ret
      exact ⟨d, q, c, rfl, HR, hb9, O9⟩
end Go.Proofs.Ytnmlnenepceabaa

namespace Go.Proofs.Ytnmlnenepceabaa
open Go.RowKit
def cK (k : Int) (x y : Int) : Int := if k = 3 then min x y else if k = 4 then max x y else x + y
theorem cK_bd (k : Int) (x y : Int) (hx : 0 ≤ x) (hy : 0 ≤ y) : 0 ≤ cK k x y ∧ cK k x y ≤ x + y := by
  unfold cK
  split
  · omega
  · split <;> omega
set_option maxRecDepth 100000 in
theorem l7Both_any (x y k : Int) (w : World) (hx : 0 ≤ x ∧ x ≤ 1000000000000000) (hy : 0 ≤ y ∧ y ≤ 1000000000000000) :
    Calls Try.prog 130 #[.int .i64 x, .int .i64 y, .int .i64 k] w fun e w' => e = .returned (.int .i64 (cK k x y)) ∧ w' = w := by
  have hw : IntKind.i64.wrap (x + y) = x + y := IntWalk.i64_in _ (by omega)
  by_cases h3 : k = 3
  · subst h3
    go_enter Try.func130, Try.ntmps130
    go_wp2
    go_ret
    exact ⟨by simp [cK], rfl⟩
  by_cases h4 : k = 4
  · subst h4
    go_enter Try.func130, Try.ntmps130
    go_wp2
    go_ret
    exact ⟨by simp [cK], rfl⟩
  have e3 : (k == 3) = false := by rw [beq_eq_false_iff_ne]; exact h3
  have e4 : (k == 4) = false := by rw [beq_eq_false_iff_ne]; exact h4
  go_enter Try.func130, Try.ntmps130
  go_wp2
  go_ret
  exact ⟨by simp [cK, h3, h4], rfl⟩
theorem step_l7Both {ops : Array Oper} {o : Oper} {a : Act} {w : World} {K : Act → World → Prop} {Q : Exit → Act → World → Prop} {E : Prop}
    (hgd : o.guard = none) (x y s : Nat) (t u r : TypeId) (hop : o.op = Op.call { callee := .value (.func 130), args := #[.tmp x, .tmp y, .tmp s], argTypes := #[t, u, r] })
    (v z q : Value) (hv : a.tmps[x]?.getD undef = v) (hz : a.tmps[y]?.getD undef = z) (hq : a.tmps[s]?.getD undef = q) (R : Ending → World → Prop) (hc : Calls Try.prog 130 #[v, z, q] w R) (h : ∀ e w', R e w' → ∃ v, e = .returned v ∧ K (a.put o.dst v) w') :
    if Region.wanted o (yielded ops a.tmps) = true then Oper.wp Try.prog o a w K Q else E := by
  have hw : Region.wanted o (yielded ops a.tmps) = true := by simp [Region.wanted, hgd]
  rw [if_pos hw]
  unfold Oper.wp
  simp only [execOp, hop, resolve, invoke]
  have he : a.eval (Operand.func 130) = .func (.func 130) #[] #[] := rfl
  rw [he]
  go_simp
  refine hc.mono ?_
  intro e w' hr
  obtain ⟨v', rfl, hk⟩ := h e w' hr
  exact hk
theorem Rd.headT {w : World} {B n k : Nat} {a : Option Addr} {rs : List TotV} (h : Rd w B 2 a n (flatT rs)) (hk : k ≤ n) : Rd w B 2 a k (flatT (rs.take k)) := by
  have hl : rs.length = n := h.tots_length
  refine ⟨by rw [flatT_length, List.length_take, hl, Nat.min_eq_left hk], fun hp => ?_⟩
  obtain ⟨b, off, rfl, hb, hc⟩ := h.2 (by omega)
  refine ⟨b, off, rfl, hb, fun j u hu => hc j u ?_⟩
  have e : flatT rs = flatT (rs.take k) ++ flatT (rs.drop k) := by rw [← flatT_append, List.take_append_drop]
  rw [e, List.getElem?_append_left (List.getElem?_eq_some_iff.1 hu).1]
  exact hu
theorem put_skip (c : Int → Int → Int) (x : TotV) : ∀ (k : Nat) (L : List TotV), (∀ j r, j < k → L[j]? = some r → lessT r x = true) → k ≤ L.length → putT c L x = L.take k ++ putT c (L.drop k) x
  | 0, L, _, _ => by simp
  | k + 1, [], _, h => by simp at h
  | k + 1, r :: L, hl, h => by
    have h0 := hl 0 r (by omega) rfl
    rw [putT, if_pos h0, put_skip c x k L (fun j r' hj hr => hl (j + 1) r' (by omega) (by simpa using hr)) (by simpa using h)]
    rfl
theorem putT_length (c : Int → Int → Int) (x : TotV) : ∀ L : List TotV, (putT c L x).length ≤ L.length + 1
  | [] => by simp [putT]
  | r :: L => by
    have := putT_length c x L
    rw [putT]
    split
    · simp; omega
    · split <;> simp
theorem flatT_one1 (l : List TotV) : ∀ u ∈ flatT l, u.oneCell' = true := by
  intro u hu
  unfold flatT at hu
  obtain ⟨r, _, hr⟩ := List.mem_flatMap.1 hu
  simp [TotV.cells] at hr
  rcases hr with rfl | rfl <;> rfl
set_option maxRecDepth 100000 in
set_option maxHeartbeats 4000000 in
theorem l7Put_any (a : Option Addr) (n cap : Nat) (L : List TotV) (xk : ByteArray) (xn kind : Int) (w : World) (hn : n ≤ 1000) (hnc : n ≤ cap) (hR : Rd w w.heap.size 2 a n (flatT L)) (hL : ∀ t ∈ L, 0 ≤ t.n ∧ t.n ≤ 1000000000000000) (hx : 0 ≤ xn ∧ xn ≤ 1000000000000000) :
    Calls Try.prog 94 #[.slice a n cap, .agg #[.string xk, .int .i64 xn], .int .i64 kind] w fun e w' => ∃ d m c, e = .returned (.slice d m c) ∧ (putT (cK kind) L ⟨xk, xn⟩).length = m ∧ Below w.heap.size w w' ∧ w'.ownsRow w.heap.size 45 2 (.slice d m c) m (flatT (putT (cK kind) L ⟨xk, xn⟩)) := by
  obtain ⟨i0, hi, hz0, hz1, hz2⟩ := info_parts infoTotal
  have hll := hR.tots_length
  have hb1 := bl1 w (.cells #[.string xk, .int .i64 xn] 45)
  have hX0 : (w.alloc (.cells #[.string xk, .int .i64 xn] 45)).cell? ⟨w.heap.size, 0, none⟩ = some (.string xk) := by simp [go_sem]
  have hX1 : (w.alloc (.cells #[.string xk, .int .i64 xn] 45)).cell? ⟨w.heap.size, 1, none⟩ = some (.int .i64 xn) := by simp [go_sem]
  have hlx : w.heap.size < (w.alloc (.cells #[.string xk, .int .i64 xn] 45)).heap.size := by simp
  go_enter Try.func94, Try.ntmps94
  go_wp2_with fail
  generalize w.alloc (.cells #[.string xk, .int .i64 xn] 45) = w1 at *
  go_loopw [7] (fun i wr => ∃ k : Nat, k ≤ n ∧ i = .int .i64 k ∧ Hid (∀ j r, j < k → L[j]? = some r → lessT r ⟨xk, xn⟩ = true) ∧ Below w1.heap.size w1 wr) (fun i _ => n - (intOf i).toNat)
  case atStart => exact ⟨0, Nat.zero_le _, rfl, Lib.hid (fun j r h => absurd h (by omega)), Below.refl _ _⟩
  case round =>
    obtain ⟨k, hk, rfl, HJ, hb⟩ := hrel
    have hbb := hb1.trans (hb.mono hb1.size)
    have y0 := (hb.cell (p := ⟨w.heap.size, 0, none⟩) hlx).trans hX0
    have y1 := (hb.cell (p := ⟨w.heap.size, 1, none⟩) hlx).trans hX1
    have hws : w.heap.size < wr.heap.size := Nat.lt_of_lt_of_le hlx hb.size
    have HPS := Lib.hid (put_skip (cK kind) ⟨xk, xn⟩ k L HJ.out (by omega))
    by_cases hlt : k < n
    · obtain ⟨b1, o1, t, rfl, hB1, ht, c0, c1⟩ := (hR.below hbb (Nat.le_refl _)).tot hlt
      obtain ⟨tk, tn⟩ := t
      simp only at c0 c1
      cases hq : Op.bytesLess tk.toList xk.toList
      · have hdr : L.drop k = ⟨tk, tn⟩ :: L.drop (k + 1) := by
          obtain ⟨hk', e⟩ := List.getElem?_eq_some_iff.1 ht
          rw [← e]; exact List.drop_eq_getElem_cons hk'
        have ht9 := hL ⟨tk, tn⟩ (List.mem_of_getElem? ht)
        simp only at ht9
        have hqL : lessT ⟨tk, tn⟩ ⟨xk, xn⟩ = false := hq
        clear HJ
        cases he : (tk.toList == xk.toList)
        · have hd2 : (tk == xk) = false := by rw [beq_toListBytes]; exact he
          have hlx2 : lessT ⟨xk, xn⟩ ⟨tk, tn⟩ = true := by
            rcases bl_total hq with e | e
            · rw [e] at he
              simp at he
            · exact e
          have HPF := Lib.hid (show putT (cK kind) L ⟨xk, xn⟩ = (L.take k ++ [⟨xk, xn⟩]) ++ L.drop k by
            rw [HPS.out, hdr, putT, if_neg (by rw [hqL]; decide), if_pos hlx2, List.append_assoc]; rfl)
          clear HPS hdr hlx2 hqL ht
          go_wp2_with fail
          go_quiet (fail)
          have hb2 := hb.trans ((show Below wr.heap.size wr (wr.drewN nq) from below_drewN (Below.refl _ _) nq).mono hb.size)
          have B2 := hb1.trans (hb2.mono hb1.size)
          have v0 := (hb2.cell (p := ⟨w.heap.size, 0, none⟩) hlx).trans hX0
          have v1 := (hb2.cell (p := ⟨w.heap.size, 1, none⟩) hlx).trans hX1
          have hws2 : w.heap.size < (wr.drewN nq).heap.size := Nat.lt_of_lt_of_le hlx hb2.size
          have R2 := (hR.below B2 (Nat.le_refl _)).more B2.size
          have c2 := ((show Below wr.heap.size wr (wr.drewN nq) from below_drewN (Below.refl _ _) nq).cell (p := ⟨b1, o1 + k * 2, none⟩) (Nat.lt_of_lt_of_le hB1 hbb.size)).trans c0
          have c3 := ((show Below wr.heap.size wr (wr.drewN nq) from below_drewN (Below.refl _ _) nq).cell (p := ⟨b1, o1 + k * 2 + 1, none⟩) (Nat.lt_of_lt_of_le hB1 hbb.size)).trans c1
          clear hb hbb hws hX0 hX1 hlx hb1 hb2 y0 y1 c0 c1
          generalize wr.drewN nq = w2 at *
          have hl0 := bl1 w2 (.cells #[] 45)
          have O0 : (w2.alloc (.cells #[] 45)).ownsRow w2.heap.size 45 2 (.slice (some ⟨w2.heap.size, 0, none⟩) 0 0) 0 (flatT []) := World.ownsRow_lit (base := w2.heap.size) (size := 2) w2 #[] 0 (Nat.le_refl _) (Nat.zero_le _) rfl
          have R3 := ((R2.headT (k := k) (by omega)).below hl0 (Nat.le_refl _)).more hl0.size
          have hq1 : 0 + k ≤ maxLen := by unfold maxLen; omega
          have hq2 : (0 + k) * 24 ≤ 140737488355328 := by omega
          go_wp2_with (at_builtin; refine wpList_append_rd rfl _ _ 24 rfl w2.heap.size 45 i0 (.agg #[.string ⟨#[]⟩, .int .i64 0]) 2 24 Try.underlying24 hi hz0 hz1 hz2 rfl (by decide) (.slice (some ⟨w2.heap.size, 0, none⟩) 0 0) 0 (flatT []) rfl O0 (some ⟨b1, o1, none⟩) _ k cap (flatT (L.take k)) rfl R3 (flatT_one1 _) hq1 hq2 hl0.size ?_; intro v' w4 hO4 hg4 hat; refine haltT_ ?_)
          refine unhaltT_ ?_
          have hb4 : Below w2.heap.size w2 w4 := hl0.grown hg4 hl0.size (fun q e => (own_ge O0 q e).1)
          have O4 : w4.ownsRow w2.heap.size 45 2 v' k (flatT (L.take k)) := by simpa [flatT] using hO4
          obtain ⟨d4, c4, rfl⟩ := own_slice' O4
          have z0 := (hb4.cell (p := ⟨w.heap.size, 0, none⟩) hws2).trans v0
          have z1 := (hb4.cell (p := ⟨w.heap.size, 1, none⟩) hws2).trans v1
          have R4 := (R2.below hb4 (Nat.le_refl _)).more hb4.size
          have hws4 : w.heap.size < w4.heap.size := Nat.lt_of_lt_of_le hws2 hb4.size
          have e0 := (hb4.cell (p := ⟨b1, o1 + k * 2, none⟩) (Nat.lt_of_lt_of_le hB1 B2.size)).trans c2
          have e1 := (hb4.cell (p := ⟨b1, o1 + k * 2 + 1, none⟩) (Nat.lt_of_lt_of_le hB1 B2.size)).trans c3
          clear c2 c3
          clear hO4 hg4 hat O0 R3 hl0 v0 v1 hq1 hq2 R2
          go_wp2_with fail
          go_quiet (fail)
          have hbq : Below w4.heap.size w4 (w4.drewN nq) := below_drewN (Below.refl _ _) nq
          have hb5 := hb4.trans (hbq.mono hb4.size)
          have O5 := own_below O4 hbq
          have z0 := (hbq.cell (p := ⟨w.heap.size, 0, none⟩) hws4).trans z0
          have z1 := (hbq.cell (p := ⟨w.heap.size, 1, none⟩) hws4).trans z1
          have R5 := (R4.below hbq (Nat.le_refl _)).more hbq.size
          have hws5 : w.heap.size < (w4.drewN nq).heap.size := Nat.lt_of_lt_of_le hws4 hbq.size
          have hg8 : w2.heap.size ≤ (w4.drewN nq).heap.size := hb5.size
          clear hb4 O4 R4 hws4 hbq
          generalize w4.drewN nq = w5 at *
          clear e0 e1
          have hq1 : k + 1 ≤ maxLen := by unfold maxLen; omega
          have hq2 : (k + 1) * 24 ≤ 140737488355328 := by omega
          go_wp2_with (at_builtin; refine wpList_append_own_at _ rfl _ _ 24 rfl w2.heap.size 45 i0 (.agg #[.string ⟨#[]⟩, .int .i64 0]) 2 24 Try.underlying24 hi hz0 hz1 hz2 rfl (by decide) (.slice d4 k c4) _ _ rfl (O5.alloc _) ⟨w5.heap.size, 0, none⟩ 1 1 [.string xk, .int .i64 xn] rfl rfl (cell_totM w5 ⟨xk, xn⟩ _) (by simp [Value.oneCell']) hq1 hq2 (Nat.le_trans hg8 (bl1 w5 _).size) ?_; intro v' w6 hO6 hg6 _ hat; refine haltT_ ?_)
          refine unhaltT_ ?_
          obtain ⟨d6, c6, rfl⟩ := own_slice' hO6
          have hb6 := below_grown1 hb5 O5 hg6
          have O6 : w6.ownsRow w2.heap.size 45 2 (.slice d6 (k + 1) c6) (k + 1) (flatT (L.take k ++ [⟨xk, xn⟩])) := by rw [flatT_snoc]; exact hO6
          clear hO6 hg6 hat O5 z0 z1 R5 hq1 hq2
          have R6 := ((hR.below (B2.trans (hb6.mono B2.size)) (Nat.le_refl _)).more (B2.trans (hb6.mono B2.size)).size).fromT (k := k) (cap := cap) (by omega) hnc
          have e6 : fromT (some ⟨b1, o1, none⟩) cap k = some ⟨b1, o1 + k * 2, none⟩ := by
            unfold fromT
            rw [if_neg (by omega)]
            simp [Addr.add_mid]
          rw [e6] at R6
          clear e6
          have hq1 : (k + 1) + (n - k) ≤ maxLen := by unfold maxLen; omega
          have hq2 : ((k + 1) + (n - k)) * 24 ≤ 140737488355328 := by omega
          go_wp2_with (at_builtin; refine wpList_append_rd rfl _ _ 24 rfl w2.heap.size 45 i0 (.agg #[.string ⟨#[]⟩, .int .i64 0]) 2 24 Try.underlying24 hi hz0 hz1 hz2 rfl (by decide) (.slice d6 (k + 1) c6) (k + 1) (flatT (L.take k ++ [⟨xk, xn⟩])) rfl O6 _ _ (n - k) (cap - k) (flatT (L.drop k)) rfl R6 (flatT_one1 _) hq1 hq2 hb6.size ?_; intro v' w7 hO7 hg7 hat; refine haltT_ ?_)
          refine unhaltT_ ?_
          obtain ⟨d7, c7, rfl⟩ := own_slice' hO7
          have hb7 : Below w2.heap.size w2 w7 := hb6.grown hg7 hb6.size (fun q e => (own_ge O6 q e).1)
          have O7 := own_base' hO7 (Nat.le_of_lt hws2)
          rw [← flatT_append] at O7
          clear hO7 hg7 hat O6 R6
          go_wp2_with fail
          go_ret
          exact ⟨d7, (k + 1) + (n - k), c7, rfl, by rw [HPF.out, List.length_append, List.length_append, List.length_take, List.length_drop, hll, Nat.min_eq_left hk]; rfl, B2.trans (hb7.mono B2.size), by rw [HPF.out]; exact O7⟩
        · have hd2 : (tk == xk) = true := by rw [beq_toListBytes]; exact he
          have hlx2 : lessT ⟨xk, xn⟩ ⟨tk, tn⟩ = false := by
            show Op.bytesLess xk.toList tk.toList = false
            rw [eq_of_beq he]
            exact bl_irrefl _
          have HPF := Lib.hid (show putT (cK kind) L ⟨xk, xn⟩ = (L.take k ++ [⟨xk, cK kind tn xn⟩]) ++ L.drop (k + 1) by
            rw [HPS.out, hdr, putT, if_neg (by rw [hqL]; decide), if_neg (by rw [hlx2]; decide), List.append_assoc]; rfl)
          clear HPS hdr hlx2 hqL ht
          go_wp2_with fail
          go_quiet (fail)
          have hb2 := hb.trans ((show Below wr.heap.size wr (wr.drewN nq) from below_drewN (Below.refl _ _) nq).mono hb.size)
          have B2 := hb1.trans (hb2.mono hb1.size)
          have v0 := (hb2.cell (p := ⟨w.heap.size, 0, none⟩) hlx).trans hX0
          have v1 := (hb2.cell (p := ⟨w.heap.size, 1, none⟩) hlx).trans hX1
          have hws2 : w.heap.size < (wr.drewN nq).heap.size := Nat.lt_of_lt_of_le hlx hb2.size
          have R2 := (hR.below B2 (Nat.le_refl _)).more B2.size
          have c2 := ((show Below wr.heap.size wr (wr.drewN nq) from below_drewN (Below.refl _ _) nq).cell (p := ⟨b1, o1 + k * 2, none⟩) (Nat.lt_of_lt_of_le hB1 hbb.size)).trans c0
          have c3 := ((show Below wr.heap.size wr (wr.drewN nq) from below_drewN (Below.refl _ _) nq).cell (p := ⟨b1, o1 + k * 2 + 1, none⟩) (Nat.lt_of_lt_of_le hB1 hbb.size)).trans c1
          clear hb hbb hws hX0 hX1 hlx hb1 hb2 y0 y1 c0 c1
          generalize wr.drewN nq = w2 at *
          have hl0 := bl1 w2 (.cells #[] 45)
          have O0 : (w2.alloc (.cells #[] 45)).ownsRow w2.heap.size 45 2 (.slice (some ⟨w2.heap.size, 0, none⟩) 0 0) 0 (flatT []) := World.ownsRow_lit (base := w2.heap.size) (size := 2) w2 #[] 0 (Nat.le_refl _) (Nat.zero_le _) rfl
          have R3 := ((R2.headT (k := k) (by omega)).below hl0 (Nat.le_refl _)).more hl0.size
          have hq1 : 0 + k ≤ maxLen := by unfold maxLen; omega
          have hq2 : (0 + k) * 24 ≤ 140737488355328 := by omega
          go_wp2_with (at_builtin; refine wpList_append_rd rfl _ _ 24 rfl w2.heap.size 45 i0 (.agg #[.string ⟨#[]⟩, .int .i64 0]) 2 24 Try.underlying24 hi hz0 hz1 hz2 rfl (by decide) (.slice (some ⟨w2.heap.size, 0, none⟩) 0 0) 0 (flatT []) rfl O0 (some ⟨b1, o1, none⟩) _ k cap (flatT (L.take k)) rfl R3 (flatT_one1 _) hq1 hq2 hl0.size ?_; intro v' w4 hO4 hg4 hat; refine haltT_ ?_)
          refine unhaltT_ ?_
          have hb4 : Below w2.heap.size w2 w4 := hl0.grown hg4 hl0.size (fun q e => (own_ge O0 q e).1)
          have O4 : w4.ownsRow w2.heap.size 45 2 v' k (flatT (L.take k)) := by simpa [flatT] using hO4
          obtain ⟨d4, c4, rfl⟩ := own_slice' O4
          have z0 := (hb4.cell (p := ⟨w.heap.size, 0, none⟩) hws2).trans v0
          have z1 := (hb4.cell (p := ⟨w.heap.size, 1, none⟩) hws2).trans v1
          have R4 := (R2.below hb4 (Nat.le_refl _)).more hb4.size
          have hws4 : w.heap.size < w4.heap.size := Nat.lt_of_lt_of_le hws2 hb4.size
          have e0 := (hb4.cell (p := ⟨b1, o1 + k * 2, none⟩) (Nat.lt_of_lt_of_le hB1 B2.size)).trans c2
          have e1 := (hb4.cell (p := ⟨b1, o1 + k * 2 + 1, none⟩) (Nat.lt_of_lt_of_le hB1 B2.size)).trans c3
          clear c2 c3
          clear hO4 hg4 hat O0 R3 hl0 v0 v1 hq1 hq2 R2
          have hee0 := e0
          have hB5 : b1 < w2.heap.size := Nat.lt_of_lt_of_le hB1 B2.size
          go_wp2_with fail
          go_quiet (fail)
          have hbq : Below w4.heap.size w4 (w4.drewN nq) := below_drewN (Below.refl _ _) nq
          have hb5 := hb4.trans (hbq.mono hb4.size)
          have O5 := own_below O4 hbq
          have z0 := (hbq.cell (p := ⟨w.heap.size, 0, none⟩) hws4).trans z0
          have z1 := (hbq.cell (p := ⟨w.heap.size, 1, none⟩) hws4).trans z1
          have R5 := (R4.below hbq (Nat.le_refl _)).more hbq.size
          have hws5 : w.heap.size < (w4.drewN nq).heap.size := Nat.lt_of_lt_of_le hws4 hbq.size
          have hg8 : w2.heap.size ≤ (w4.drewN nq).heap.size := hb5.size
          have e1 := (hbq.cell (p := ⟨b1, o1 + k * 2 + 1, none⟩) (Nat.lt_of_lt_of_le hB5 hb4.size)).trans e1
          clear hb4 O4 R4 hws4 hbq
          generalize w4.drewN nq = w5 at *
          clear e0 hee0
          have CO := Lib.hid (fun w => l7Both_any tn xn kind w ht9 hx)
          have HN := Lib.hid (cell_totM w5 ⟨xk, cK kind tn xn⟩ 45)
          have HV := Lib.hid (O5.alloc (.cells #[.string xk, .int .i64 (cK kind tn xn)] 45))
          have hg9 : w2.heap.size ≤ (w5.alloc (.cells #[.string xk, .int .i64 (cK kind tn xn)] 45)).heap.size := Nat.le_trans hg8 (bl1 w5 _).size
          have hq1 : k + 1 ≤ maxLen := by unfold maxLen; omega
          have hq2 : (k + 1) * 24 ≤ 140737488355328 := by omega
          go_wp2_with fail
          go_region_law (first | (refine step_l7Both rfl 51 53 54 2 2 2 rfl (.int .i64 tn) (.int .i64 xn) (.int .i64 kind) rfl rfl rfl _ (CO.out _) ?_; rintro e w9 ⟨rfl, rfl⟩; refine ⟨_, rfl, ?_⟩) | (refine step_append_one rfl (.tmp 44) (.tmp 57) 24 rfl w2.heap.size 45 i0 (.agg #[.string ⟨#[]⟩, .int .i64 0]) 2 24 Try.underlying24 hi hz0 hz1 hz2 rfl (by decide) (.slice d4 k c4) k _ rfl HV.out ⟨w5.heap.size, 0, none⟩ 1 1 [.string xk, .int .i64 (cK kind tn xn)] rfl rfl HN.out (tot_one ⟨xk, cK kind tn xn⟩) hq1 hq2 hg9 ?_; intro v' w6 hO6 hg6 hat; obtain ⟨d6, c6, rfl⟩ := own_slice' hO6))
          all_goals
            have hbx := (hb5.trans ((bl1 w5 (.cells #[.string xk, .int .i64 (cK kind tn xn)] 45)).mono hb5.size)).drew
            have hb6 := hbx.grown hg6 hbx.size (fun q e => (own_ge O5 q e).1)
            clear hbx
            have O6 : w6.ownsRow w2.heap.size 45 2 (.slice d6 (k + 1) c6) (k + 1) (flatT (L.take k ++ [⟨xk, cK kind tn xn⟩])) := by rw [flatT_snoc]; exact hO6
            clear hO6 hg6 hat O5 z0 z1 e1 R5 hq1 hq2 HN HV hg9 CO
            have R6 := ((hR.below (B2.trans (hb6.mono B2.size)) (Nat.le_refl _)).more (B2.trans (hb6.mono B2.size)).size).fromT (k := (k + 1)) (cap := cap) (by omega) hnc
            by_cases hce : cap = k + 1
            · have hnk : n = k + 1 := by omega
              have hdn : L.drop (k + 1) = [] := List.drop_of_length_le (by omega)
              have R7 : Rd w6 w6.heap.size 2 (some ⟨b1, o1, none⟩) 0 (flatT []) := ⟨rfl, fun h => absurd h (by omega)⟩
              have hq1 : (k + 1) + 0 ≤ maxLen := by unfold maxLen; omega
              have hq2 : ((k + 1) + 0) * 24 ≤ 140737488355328 := by omega
              clear R6
              go_wp2_with (at_builtin; refine wpList_append_rd rfl _ _ 24 rfl w2.heap.size 45 i0 (.agg #[.string ⟨#[]⟩, .int .i64 0]) 2 24 Try.underlying24 hi hz0 hz1 hz2 rfl (by decide) (.slice d6 (k + 1) c6) (k + 1) (flatT (L.take k ++ [⟨xk, cK kind tn xn⟩])) rfl O6 _ _ 0 0 (flatT []) rfl R7 (flatT_one1 _) hq1 hq2 hb6.size ?_; intro v' w7 hO7 hg7 hat; refine haltT_ ?_)
              refine unhaltT_ ?_
              have hb7 : Below w2.heap.size w2 w7 := hb6.grown hg7 hb6.size (fun q e => (own_ge O6 q e).1)
              have O8 : w7.ownsRow w2.heap.size 45 2 v' (k + 1) (flatT (L.take k ++ [⟨xk, cK kind tn xn⟩])) := by
                have h0 : flatT (L.take k ++ [⟨xk, cK kind tn xn⟩]) ++ flatT [] = flatT (L.take k ++ [⟨xk, cK kind tn xn⟩]) := List.append_nil _
                rw [h0] at hO7
                exact hO7
              obtain ⟨d7, c7, rfl⟩ := own_slice' O8
              have O7 := own_base' O8 (Nat.le_of_lt hws2)
              clear hO7 hg7 hat O6 R7 O8
              go_wp2_with fail
              go_ret
              exact ⟨d7, k + 1, c7, rfl, by rw [HPF.out, hdn, List.append_nil, List.length_append, List.length_take, hll, Nat.min_eq_left hk]; rfl, B2.trans (hb7.mono B2.size), by rw [HPF.out, hdn, List.append_nil]; exact O7⟩
            · have e6 : fromT (some ⟨b1, o1, none⟩) cap (k + 1) = some ⟨b1, o1 + (k + 1) * 2, none⟩ := by
                unfold fromT
                rw [if_neg hce]
                simp [Addr.add_mid]
              rw [e6] at R6
              clear e6
              have hq1 : (k + 1) + (n - (k + 1)) ≤ maxLen := by unfold maxLen; omega
              have hq2 : ((k + 1) + (n - (k + 1))) * 24 ≤ 140737488355328 := by omega
              go_wp2_with (at_builtin; refine wpList_append_rd rfl _ _ 24 rfl w2.heap.size 45 i0 (.agg #[.string ⟨#[]⟩, .int .i64 0]) 2 24 Try.underlying24 hi hz0 hz1 hz2 rfl (by decide) (.slice d6 (k + 1) c6) (k + 1) (flatT (L.take k ++ [⟨xk, cK kind tn xn⟩])) rfl O6 _ _ (n - (k + 1)) (cap - (k + 1)) (flatT (L.drop (k + 1))) rfl R6 (flatT_one1 _) hq1 hq2 hb6.size ?_; intro v' w7 hO7 hg7 hat; refine haltT_ ?_)
              refine unhaltT_ ?_
              obtain ⟨d7, c7, rfl⟩ := own_slice' hO7
              have hb7 : Below w2.heap.size w2 w7 := hb6.grown hg7 hb6.size (fun q e => (own_ge O6 q e).1)
              have O7 := own_base' hO7 (Nat.le_of_lt hws2)
              rw [← flatT_append] at O7
              clear hO7 hg7 hat O6 R6
              go_wp2_with fail
              go_ret
              exact ⟨d7, (k + 1) + (n - (k + 1)), c7, rfl, by rw [HPF.out, List.length_append, List.length_append, List.length_take, List.length_drop, hll, Nat.min_eq_left hk]; rfl, B2.trans (hb7.mono B2.size), by rw [HPF.out]; exact O7⟩
      · have HJ2 := Lib.hid (show ∀ j r, j < k + 1 → L[j]? = some r → lessT r ⟨xk, xn⟩ = true from fun j r hj hr => by
          rcases Nat.lt_or_ge j k with h | h
          · exact HJ.out j r h hr
          · obtain rfl : j = k := by omega
            rw [ht] at hr
            injection hr with hr
            rw [← hr]
            exact hq)
        clear ht HPS
        go_wp2_with fail
        go_quiet (fail)
        have hb2 := hb.trans ((show Below wr.heap.size wr (wr.drewN nq) from below_drewN (Below.refl _ _) nq).mono hb.size)
        generalize wr.drewN nq = w2 at *
        clear c0 c1 y0 y1
        go_wp2_with fail
        go_roundw
        case rel => exact ⟨k + 1, by omega, by go_num, HJ2, hb2⟩
        case measure => simp [intOf]; omega
    · obtain rfl : k = n := by omega
      have HPF := Lib.hid (show putT (cK kind) L ⟨xk, xn⟩ = (L.take k ++ [⟨xk, xn⟩]) ++ L.drop k by rw [HPS.out, List.drop_of_length_le (by omega), List.append_nil]; rfl)
      clear HPS HJ
      go_wp2_with fail
      go_quiet (fail)
      have hb2 := hb.trans ((show Below wr.heap.size wr (wr.drewN nq) from below_drewN (Below.refl _ _) nq).mono hb.size)
      have B2 := hb1.trans (hb2.mono hb1.size)
      have v0 := (hb2.cell (p := ⟨w.heap.size, 0, none⟩) hlx).trans hX0
      have v1 := (hb2.cell (p := ⟨w.heap.size, 1, none⟩) hlx).trans hX1
      have hws2 : w.heap.size < (wr.drewN nq).heap.size := Nat.lt_of_lt_of_le hlx hb2.size
      have R2 := (hR.below B2 (Nat.le_refl _)).more B2.size
      clear hb hbb hws hX0 hX1 hlx hb1 hb2 y0 y1
      generalize wr.drewN nq = w2 at *
      have hl0 := bl1 w2 (.cells #[] 45)
      have O0 : (w2.alloc (.cells #[] 45)).ownsRow w2.heap.size 45 2 (.slice (some ⟨w2.heap.size, 0, none⟩) 0 0) 0 (flatT []) := World.ownsRow_lit (base := w2.heap.size) (size := 2) w2 #[] 0 (Nat.le_refl _) (Nat.zero_le _) rfl
      have R3 := ((R2.headT (k := k) (by omega)).below hl0 (Nat.le_refl _)).more hl0.size
      have hq1 : 0 + k ≤ maxLen := by unfold maxLen; omega
      have hq2 : (0 + k) * 24 ≤ 140737488355328 := by omega
      go_wp2_with (at_builtin; refine wpList_append_rd rfl _ _ 24 rfl w2.heap.size 45 i0 (.agg #[.string ⟨#[]⟩, .int .i64 0]) 2 24 Try.underlying24 hi hz0 hz1 hz2 rfl (by decide) (.slice (some ⟨w2.heap.size, 0, none⟩) 0 0) 0 (flatT []) rfl O0 a _ k cap (flatT (L.take k)) rfl R3 (flatT_one1 _) hq1 hq2 hl0.size ?_; intro v' w4 hO4 hg4 hat; refine haltT_ ?_)
      refine unhaltT_ ?_
      have hb4 : Below w2.heap.size w2 w4 := hl0.grown hg4 hl0.size (fun q e => (own_ge O0 q e).1)
      have O4 : w4.ownsRow w2.heap.size 45 2 v' k (flatT (L.take k)) := by simpa [flatT] using hO4
      obtain ⟨d4, c4, rfl⟩ := own_slice' O4
      have z0 := (hb4.cell (p := ⟨w.heap.size, 0, none⟩) hws2).trans v0
      have z1 := (hb4.cell (p := ⟨w.heap.size, 1, none⟩) hws2).trans v1
      have R4 := (R2.below hb4 (Nat.le_refl _)).more hb4.size
      have hws4 : w.heap.size < w4.heap.size := Nat.lt_of_lt_of_le hws2 hb4.size
      clear hO4 hg4 hat O0 R3 hl0 v0 v1 hq1 hq2 R2
      go_wp2_with fail
      go_quiet (fail)
      have hbq : Below w4.heap.size w4 (w4.drewN nq) := below_drewN (Below.refl _ _) nq
      have hb5 := hb4.trans (hbq.mono hb4.size)
      have O5 := own_below O4 hbq
      have z0 := (hbq.cell (p := ⟨w.heap.size, 0, none⟩) hws4).trans z0
      have z1 := (hbq.cell (p := ⟨w.heap.size, 1, none⟩) hws4).trans z1
      have R5 := (R4.below hbq (Nat.le_refl _)).more hbq.size
      have hws5 : w.heap.size < (w4.drewN nq).heap.size := Nat.lt_of_lt_of_le hws4 hbq.size
      have hg8 : w2.heap.size ≤ (w4.drewN nq).heap.size := hb5.size
      clear hb4 O4 R4 hws4 hbq
      generalize w4.drewN nq = w5 at *
      have hq1 : k + 1 ≤ maxLen := by unfold maxLen; omega
      have hq2 : (k + 1) * 24 ≤ 140737488355328 := by omega
      go_wp2_with (at_builtin; refine wpList_append_own_at _ rfl _ _ 24 rfl w2.heap.size 45 i0 (.agg #[.string ⟨#[]⟩, .int .i64 0]) 2 24 Try.underlying24 hi hz0 hz1 hz2 rfl (by decide) (.slice d4 k c4) _ _ rfl (O5.alloc _) ⟨w5.heap.size, 0, none⟩ 1 1 [.string xk, .int .i64 xn] rfl rfl (cell_totM w5 ⟨xk, xn⟩ _) (by simp [Value.oneCell']) hq1 hq2 (Nat.le_trans hg8 (bl1 w5 _).size) ?_; intro v' w6 hO6 hg6 _ hat; refine haltT_ ?_)
      refine unhaltT_ ?_
      obtain ⟨d6, c6, rfl⟩ := own_slice' hO6
      have hb6 := below_grown1 hb5 O5 hg6
      have O6 : w6.ownsRow w2.heap.size 45 2 (.slice d6 (k + 1) c6) (k + 1) (flatT (L.take k ++ [⟨xk, xn⟩])) := by rw [flatT_snoc]; exact hO6
      clear hO6 hg6 hat O5 z0 z1 R5 hq1 hq2
      rcases Decidable.em (cap = k) with hce | hce
      all_goals
        have hq1 : (k + 1) + 0 ≤ maxLen := by unfold maxLen; omega
        have hq2 : ((k + 1) + 0) * 24 ≤ 140737488355328 := by omega
        go_wp2_with (at_builtin; refine wpList_append_rd rfl _ _ 24 rfl w2.heap.size 45 i0 (.agg #[.string ⟨#[]⟩, .int .i64 0]) 2 24 Try.underlying24 hi hz0 hz1 hz2 rfl (by decide) (.slice d6 (k + 1) c6) (k + 1) (flatT (L.take k ++ [⟨xk, xn⟩])) rfl O6 _ 0 0 _ (flatT []) rfl ⟨rfl, fun h => absurd h (by omega)⟩ (flatT_one1 _) hq1 hq2 hb6.size ?_; intro v' w7 hO7 hg7 hat; refine haltT_ ?_)
        refine unhaltT_ ?_
        have hb7 : Below w2.heap.size w2 w7 := hb6.grown hg7 hb6.size (fun q e => (own_ge O6 q e).1)
        have hdn : L.drop k = [] := List.drop_of_length_le (by omega)
        have h0 : flatT (L.take k ++ [⟨xk, xn⟩]) ++ flatT [] = flatT (L.take k ++ [⟨xk, xn⟩]) := List.append_nil _
        rw [h0] at hO7
        have O8 : w7.ownsRow w2.heap.size 45 2 v' (k + 1) (flatT (L.take k ++ [⟨xk, xn⟩])) := hO7
        obtain ⟨d7, c7, rfl⟩ := own_slice' O8
        have O7 := own_base' O8 (Nat.le_of_lt hws2)
        clear hO7 hg7 hat O6 O8 h0
        go_wp2_with fail
        go_ret
        exact ⟨d7, k + 1, c7, rfl, by rw [HPF.out, hdn, List.append_nil, List.length_append, List.length_take, hll, Nat.min_self]; rfl, B2.trans (hb7.mono B2.size), by rw [HPF.out, hdn, List.append_nil]; exact O7⟩
end Go.Proofs.Ytnmlnenepceabaa

namespace Go.Proofs.Ytnmlnenepceabaa
open Go.RowKit
def inK (k : Int) : Bool := decide (1 ≤ k) && decide (k ≤ 4)
def combinedB (a b : List TotV) (k : Int) : Bool := totsOk a && (totsOk b && (inK k && totsOk (combL (cK k) a b)))
def combinedS (a b : List TotV) (k : Int) : List TotV := if combinedB a b k = true then combL (cK k) a b else []
theorem tots_num {ts : List TotV} (h : totsOk ts = true) : ts.length ≤ 120 ∧ NumT 999999999999 ts := by
  unfold totsOk at h
  rw [Bool.and_eq_true, List.all_eq_true] at h
  refine ⟨of_decide_eq_true h.1, fun t ht => ?_⟩
  obtain ⟨j, hj, e⟩ := List.mem_iff_getElem.1 ht
  have h1 := h.2 j (List.mem_range.2 hj)
  have e1 : ts[j]? = some t := by rw [List.getElem?_eq_getElem hj, e]
  simp only [okAt, e1, Bool.and_eq_true] at h1
  exact (totOkB_parts h1.1).2
theorem acc_all (c : Int → Int → Int) {a b : List TotV} (ha : totsOk a = true) (hb : totsOk b = true) : accT c (mergeT (mergeT [] a) b) (a.length + b.length) = combL c a b := by
  unfold accT
  rw [List.take_of_length_le (by rw [mergeT_length, mergeT_length]; simp)]
  exact (comb_both c ha hb).1
theorem combL_from (c : Int → Int → Int) : ∀ (n : Nat) (a b : List TotV), a.length + b.length ≤ n → ∀ t ∈ combL c a b, t ∈ a ∨ t ∈ b ∨ ∃ x ∈ a, ∃ y ∈ b, t = ⟨x.key, c x.n y.n⟩
  | _, [], b, _, t, ht => by rw [combL] at ht; exact .inr (.inl ht)
  | _, x :: a, [], _, t, ht => by rw [combL] at ht; exact .inl ht
  | 0, x :: a, y :: b, h, _, _ => by simp at h
  | n + 1, x :: a, y :: b, h, t, ht => by
    have hl : a.length + b.length + 1 ≤ n := by simp only [List.length_cons] at h; omega
    rw [combL] at ht
    split at ht
    · rcases List.mem_cons.1 ht with rfl | ht
      · exact .inl List.mem_cons_self
      · rcases combL_from c n a (y :: b) (by simp only [List.length_cons]; omega) t ht with h1 | h1 | ⟨u, hu, v, hv, e⟩
        · exact .inl (List.mem_cons_of_mem _ h1)
        · exact .inr (.inl h1)
        · exact .inr (.inr ⟨u, List.mem_cons_of_mem _ hu, v, hv, e⟩)
    · split at ht
      · rcases List.mem_cons.1 ht with rfl | ht
        · exact .inr (.inl List.mem_cons_self)
        · rcases combL_from c n (x :: a) b (by simp only [List.length_cons]; omega) t ht with h1 | h1 | ⟨u, hu, v, hv, e⟩
          · exact .inl h1
          · exact .inr (.inl (List.mem_cons_of_mem _ h1))
          · exact .inr (.inr ⟨u, hu, v, List.mem_cons_of_mem _ hv, e⟩)
      · rcases List.mem_cons.1 ht with rfl | ht
        · exact .inr (.inr ⟨x, List.mem_cons_self, y, List.mem_cons_self, rfl⟩)
        · rcases combL_from c n a b (by omega) t ht with h1 | h1 | ⟨u, hu, v, hv, e⟩
          · exact .inl (List.mem_cons_of_mem _ h1)
          · exact .inr (.inl (List.mem_cons_of_mem _ h1))
          · exact .inr (.inr ⟨u, List.mem_cons_of_mem _ hu, v, List.mem_cons_of_mem _ hv, e⟩)
theorem combL_length (c : Int → Int → Int) : ∀ (n : Nat) (a b : List TotV), a.length + b.length ≤ n → (combL c a b).length ≤ a.length + b.length
  | _, [], b, _ => by rw [combL]; simp
  | _, x :: a, [], _ => by rw [combL]; simp
  | 0, x :: a, y :: b, h => by simp at h
  | n + 1, x :: a, y :: b, h => by
    have hl : a.length + b.length + 1 ≤ n := by simp only [List.length_cons] at h; omega
    rw [combL]
    split
    · have := combL_length c n a (y :: b) (by simp only [List.length_cons]; omega)
      simp only [List.length_cons] at this ⊢; omega
    · split
      · have := combL_length c n (x :: a) b (by simp only [List.length_cons]; omega)
        simp only [List.length_cons] at this ⊢; omega
      · have := combL_length c n a b (by omega)
        simp only [List.length_cons] at this ⊢; omega
theorem comb_num (k : Int) {a b : List TotV} {M m : Int} (hM : 0 ≤ M) (hm : 0 ≤ m) (ha : NumT M a) (hb : NumT m b) : NumT (M + m) (combL (cK k) a b) := fun t ht => by
  rcases combL_from _ _ a b (Nat.le_refl _) t ht with h | h | ⟨x, hx, y, hy, rfl⟩
  · have := ha t h; omega
  · have := hb t h; omega
  · have h1 := ha x hx
    have h2 := hb y hy
    have := cK_bd k x.n y.n h1.1 h2.1
    show 0 ≤ cK k x.n y.n ∧ cK k x.n y.n ≤ M + m
    omega
theorem int_wfC {z : Int} (h0 : -9223372036854775808 ≤ z) (h1 : z ≤ 9223372036854775807) : (Lit.int .i64 z).wf = true := by
  have := wrap64_wf z
  rwa [IntWalk.wrap64_in z ⟨h0, h1⟩] at this
theorem comb_ok {a b : List TotV} {k : Int} (ha : totsOk a = true) (hb : totsOk b = true) (hA : ∀ t ∈ a, t.Ok) (hB : ∀ t ∈ b, t.Ok) : ∀ t ∈ combL (cK k) a b, t.Ok := fun t ht => by
  have hn := comb_num k (by omega) (by omega) (tots_num ha).2 (tots_num hb).2 t ht
  refine ⟨?_, int_wfC (by omega) (by omega)⟩
  rcases combL_from _ _ a b (Nat.le_refl _) t ht with h | h | ⟨x, hx, y, hy, rfl⟩
  · exact (hA t h).1
  · exact (hB t h).1
  · exact (hA x hx).1
theorem combK_step (c : Int → Int → Int) {X Y : List TotV} (hY : RiseT Y) {k : Nat} {y : TotV} (hy : Y[k]? = some y) : combL c X (Y.take (k + 1)) = putT c (combL c X (Y.take k)) y := by
  rw [← puts_comb c X (hY.sublist (List.take_sublist _ _)), ← puts_comb c X (hY.sublist (List.take_sublist _ _)), List.take_add_one, hy, Option.toList_some, List.foldl_append]
  rfl
theorem combK_num (kind : Int) {X Y : List TotV} (hX : totsOk X = true) (hY : totsOk Y = true) (k : Nat) : NumT 2000000000000 (combL (cK kind) X (Y.take k)) := fun t ht => by
  have := comb_num kind (by omega) (by omega) (tots_num hX).2 (b := Y.take k) (fun t h => (tots_num hY).2 t (List.mem_of_mem_take h)) t ht
  omega
theorem combK_len (c : Int → Int → Int) {X Y : List TotV} (hX : totsOk X = true) (hY : totsOk Y = true) (k : Nat) : (combL c X (Y.take k)).length ≤ 240 := by
  have h := combL_length c _ X (Y.take k) (Nat.le_refl _)
  have h1 := (tots_num hX).1
  have h2 := (tots_num hY).1
  rw [List.length_take] at h
  omega
theorem combinedS_le (a b : List TotV) (k : Int) : (combinedS a b k).length ≤ 1048576 := by
  unfold combinedS
  split
  · rename_i h
    simp only [combinedB, Bool.and_eq_true] at h
    have := (tots_num h.2.2.2).1
    omega
  · simp
theorem combinedS_ok {a b : List TotV} {k : Int} (hA : ∀ t ∈ a, t.Ok) (hB : ∀ t ∈ b, t.Ok) : ∀ t ∈ combinedS a b k, t.Ok := by
  unfold combinedS
  split
  · rename_i h
    simp only [combinedB, Bool.and_eq_true] at h
    exact comb_ok h.1 h.2.1 hA hB
  · intro t h; cases h
def CombQ (w : World) (L : List TotV) (e : Ending) (w' : World) : Prop := ∃ b n c q, e = .returned (.tuple #[.slice b n c, .bool q]) ∧ Below w.heap.size w w' ∧ ((q = false ∧ totsOk L = false ∧ b = none ∧ n = 0 ∧ c = 0) ∨ (q = true ∧ totsOk L = true ∧ n = L.length ∧ w'.ownsRow w.heap.size 45 2 (.slice b n c) n (flatT L)))
theorem combQ_to {w w' : World} {e : Ending} {X Y : List TotV} {N : Int} (h : CombQ w (combL (cK N) X Y) e w') (e1 : combinedB X Y N = totsOk (combL (cK N) X Y)) : TotsB w (combinedS X Y N) (combinedB X Y N) e w' := by
  obtain ⟨b, n, c, q, he, hb, h | h⟩ := h
  · obtain ⟨rfl, h1, rfl, rfl, rfl⟩ := h
    have e2 : combinedS X Y N = [] := by unfold combinedS; rw [e1, h1]; exact if_neg (by decide)
    rw [e2, e1, h1]
    exact ⟨none, 0, he, hb, World.ownsRow_nil _ _ _ _⟩
  · obtain ⟨rfl, h1, rfl, hO⟩ := h
    have e2 : combinedS X Y N = combL (cK N) X Y := by unfold combinedS; rw [e1, h1]; exact if_pos rfl
    rw [e2, e1, h1]
    exact ⟨b, c, he, hb, hO⟩
set_option maxRecDepth 100000 in
theorem l1In_four (n : Int) (b : Bool) (w : World) (h : inK n = b) : Calls Try.prog 77 #[.int .i64 n, .int .i64 1, .int .i64 4] w fun e w' => e = .returned (.bool b) ∧ Below w.heap.size w w' := by
  have E := Lib.hid h
  unfold inK at E
  clear h
  by_cases h1 : 1 ≤ n
  · have d1 : decide (1 ≤ n) = true := by simp [h1]
    go_enter Try.func77, Try.ntmps77
    go_wp2
    go_ret
    exact ⟨ret_bool (by rw [← E.out, d1, Bool.true_and]), Below.refl _ _⟩
  · have d1 : decide (1 ≤ n) = false := by simp [h1]
    go_enter Try.func77, Try.ntmps77
    go_wp2
    go_ret
    exact ⟨ret_bool (by rw [← E.out, d1, Bool.false_and]), Below.refl _ _⟩
end Go.Proofs.Ytnmlnenepceabaa

namespace Go.Proofs.Ytnmlnenepceabaa
open Go.RowKit
def isT (k : ByteArray) (t : TotV) : Bool := t.key.toList == k.toList
theorem isT_iff {k : ByteArray} {t : TotV} : isT k t = true ↔ t.key = k := by
  unfold isT
  rw [beq_iff_eq]
  exact ⟨fun h => by rw [ByteArray.toList_eq, ByteArray.toList_eq] at h; exact ByteArray.ext (Array.toList_inj.1 h), fun h => by rw [h]⟩
/-- What a key has. -/
def valT : List TotV → ByteArray → Option Int
  | [], _ => none
  | t :: l, k => if isT k t = true then some t.n else valT l k
def optC (c : Int → Int → Int) : Option Int → Option Int → Option Int
  | none, y => y
  | some x, none => some x
  | some x, some y => some (c x y)
theorem optC_none (c : Int → Int → Int) (x : Option Int) : optC c x none = x := by cases x <;> rfl
theorem optC_comm {c : Int → Int → Int} (hc : ∀ x y, c x y = c y x) (x y : Option Int) : optC c x y = optC c y x := by
  cases x <;> cases y <;> simp [optC, hc]
theorem optC_assoc {c : Int → Int → Int} (hc : ∀ x y z, c (c x y) z = c x (c y z)) (x y z : Option Int) : optC c (optC c x y) z = optC c x (optC c y z) := by
  cases x <;> cases y <;> cases z <;> simp [optC, hc]
theorem valT_none {k : ByteArray} : ∀ {l : List TotV}, (∀ t ∈ l, Op.bytesLess k.toList t.key.toList = true) → valT l k = none
  | [], _ => rfl
  | t :: l, h => by
    have h1 := h t List.mem_cons_self
    rw [valT, if_neg, valT_none fun u hu => h u (List.mem_cons_of_mem _ hu)]
    intro e
    rw [isT_iff.1 e, bl_irrefl] at h1
    cases h1
theorem val_cons (t : TotV) (l : List TotV) (k : ByteArray) : valT (t :: l) k = if isT k t = true then some t.n else valT l k := rfl
theorem val_head (t : TotV) (l : List TotV) : valT (t :: l) t.key = some t.n := by rw [valT, if_pos (isT_iff.2 rfl)]
theorem val_ext : ∀ {A B : List TotV}, RiseT A → RiseT B → (∀ k, valT A k = valT B k) → A = B
  | [], [], _, _, _ => rfl
  | [], y :: B, _, _, h => by
    have := h y.key
    rw [val_head] at this
    cases this
  | x :: A, [], _, _, h => by
    have := h x.key
    rw [val_head] at this
    cases this
  | x :: A, y :: B, hA, hB, h => by
    obtain ⟨a1, a2⟩ := List.pairwise_cons.1 hA
    obtain ⟨b1, b2⟩ := List.pairwise_cons.1 hB
    have k1 : lessT x y = false := by
      cases e : lessT x y
      · rfl
      · have h1 := h x.key
        rw [val_head, valT_none] at h1
        · cases h1
        · intro t ht
          rcases List.mem_cons.1 ht with rfl | ht
          · exact e
          · exact lessT_trans e (b1 t ht)
    have k2 : lessT y x = false := by
      cases e : lessT y x
      · rfl
      · have h1 := h y.key
        rw [val_head, valT_none] at h1
        · cases h1
        · intro t ht
          rcases List.mem_cons.1 ht with rfl | ht
          · exact e
          · exact lessT_trans e (a1 t ht)
    have ek := lessT_same k1 k2
    have h0 := h x.key
    rw [val_head, ek, val_head] at h0
    injection h0 with en
    obtain ⟨xk, xn⟩ := x
    obtain ⟨yk, yn⟩ := y
    have ek' : xk = yk := ek
    have en' : xn = yn := en
    subst ek' en'
    congr 1
    refine val_ext a2 b2 fun k => ?_
    have h1 := h k
    rw [valT, valT] at h1
    by_cases hk : isT k ⟨xk, xn⟩ = true
    · have hk' : xk = k := isT_iff.1 hk
      subst hk'
      rw [valT_none a1, valT_none b1]
    · rw [if_neg hk, if_neg hk] at h1
      exact h1
theorem comb_rise (c : Int → Int → Int) : ∀ (n : Nat) (a b : List TotV), a.length + b.length ≤ n → RiseT a → RiseT b → RiseT (combL c a b)
  | _, [], b, _, _, hb => by rw [combL]; exact hb
  | _, x :: a, [], _, ha, _ => by rw [combL]; exact ha
  | 0, x :: a, y :: b, h, _, _ => by simp at h
  | n + 1, x :: a, y :: b, h, ha, hb => by
    have hl : a.length + b.length + 1 ≤ n := by simp only [List.length_cons] at h; omega
    obtain ⟨a1, a2⟩ := List.pairwise_cons.1 ha
    obtain ⟨b1, b2⟩ := List.pairwise_cons.1 hb
    rw [combL]
    split
    · rename_i h1
      refine List.pairwise_cons.2 ⟨fun t ht => ?_, comb_rise c n a (y :: b) (by simp only [List.length_cons]; omega) a2 hb⟩
      rcases combL_from c _ _ _ (Nat.le_refl _) t ht with h2 | h2 | ⟨u, hu, v, hv, rfl⟩
      · exact a1 t h2
      · rcases List.mem_cons.1 h2 with rfl | h2
        · exact h1
        · exact lessT_trans h1 (b1 t h2)
      · exact a1 u hu
    · rename_i h1
      split
      · rename_i h2
        refine List.pairwise_cons.2 ⟨fun t ht => ?_, comb_rise c n (x :: a) b (by simp only [List.length_cons]; omega) ha b2⟩
        rcases combL_from c _ _ _ (Nat.le_refl _) t ht with h3 | h3 | ⟨u, hu, v, hv, rfl⟩
        · rcases List.mem_cons.1 h3 with rfl | h3
          · exact h2
          · exact lessT_trans h2 (a1 t h3)
        · exact b1 t h3
        · rcases List.mem_cons.1 hu with rfl | hu
          · exact h2
          · exact lessT_trans h2 (a1 u hu)
      · rename_i h2
        have ek := lessT_same (Bool.eq_false_iff.2 h1) (Bool.eq_false_iff.2 h2)
        refine List.pairwise_cons.2 ⟨fun t ht => ?_, comb_rise c n a b (by omega) a2 b2⟩
        rcases combL_from c _ _ _ (Nat.le_refl _) t ht with h3 | h3 | ⟨u, hu, v, hv, rfl⟩
        · exact a1 t h3
        · rw [lessT_key (x := ⟨x.key, c x.n y.n⟩) (x' := y) ek]
          exact b1 t h3
        · exact a1 u hu
theorem comb_val (c : Int → Int → Int) (k : ByteArray) : ∀ (n : Nat) (a b : List TotV), a.length + b.length ≤ n → RiseT a → RiseT b → valT (combL c a b) k = optC c (valT a k) (valT b k)
  | _, [], b, _, _, hb => by rw [combL]; rfl
  | _, x :: a, [], _, ha, _ => by rw [combL, show valT [] k = none from rfl, optC_none]
  | 0, x :: a, y :: b, h, _, _ => by simp at h
  | n + 1, x :: a, y :: b, h, ha, hb => by
    have hl : a.length + b.length + 1 ≤ n := by simp only [List.length_cons] at h; omega
    obtain ⟨a1, a2⟩ := List.pairwise_cons.1 ha
    obtain ⟨b1, b2⟩ := List.pairwise_cons.1 hb
    rw [combL]
    split
    · rename_i h1
      rw [val_cons, comb_val c k n a (y :: b) (by simp only [List.length_cons]; omega) a2 hb, val_cons x]
      by_cases hk : isT k x = true
      · rw [if_pos hk, if_pos hk]
        obtain rfl := isT_iff.1 hk
        rw [valT_none (l := y :: b)]
        · rfl
        · intro t ht
          rcases List.mem_cons.1 ht with rfl | ht
          · exact h1
          · exact lessT_trans h1 (b1 t ht)
      · rw [if_neg hk, if_neg hk]
    · rename_i h1
      split
      · rename_i h2
        rw [val_cons, comb_val c k n (x :: a) b (by simp only [List.length_cons]; omega) ha b2, val_cons y]
        by_cases hk : isT k y = true
        · rw [if_pos hk, if_pos hk]
          obtain rfl := isT_iff.1 hk
          rw [valT_none (l := x :: a)]
          · rfl
          · intro t ht
            rcases List.mem_cons.1 ht with rfl | ht
            · exact h2
            · exact lessT_trans h2 (a1 t ht)
        · rw [if_neg hk, if_neg hk]
      · rename_i h2
        have ek := lessT_same (Bool.eq_false_iff.2 h1) (Bool.eq_false_iff.2 h2)
        rw [val_cons, comb_val c k n a b (by omega) a2 b2, val_cons x, val_cons y]
        have e1 : isT k ⟨x.key, c x.n y.n⟩ = isT k x := rfl
        have e2 : isT k y = isT k x := by unfold isT; rw [ek]
        rw [e1, e2]
        by_cases hk : isT k x = true
        · rw [if_pos hk, if_pos hk, if_pos hk]; rfl
        · rw [if_neg hk, if_neg hk, if_neg hk]
theorem comb_comm {c : Int → Int → Int} (hc : ∀ x y, c x y = c y x) {a b : List TotV} (ha : RiseT a) (hb : RiseT b) : combL c a b = combL c b a :=
  val_ext (comb_rise c _ a b (Nat.le_refl _) ha hb) (comb_rise c _ b a (Nat.le_refl _) hb ha) fun k => by
    rw [comb_val c k _ a b (Nat.le_refl _) ha hb, comb_val c k _ b a (Nat.le_refl _) hb ha, optC_comm hc]
theorem comb_assoc {c : Int → Int → Int} (hc : ∀ x y z, c (c x y) z = c x (c y z)) {a b d : List TotV} (ha : RiseT a) (hb : RiseT b) (hd : RiseT d) : combL c (combL c a b) d = combL c a (combL c b d) := by
  have h1 := comb_rise c _ a b (Nat.le_refl _) ha hb
  have h2 := comb_rise c _ b d (Nat.le_refl _) hb hd
  refine val_ext (comb_rise c _ _ _ (Nat.le_refl _) h1 hd) (comb_rise c _ _ _ (Nat.le_refl _) ha h2) fun k => ?_
  rw [comb_val c k _ _ _ (Nat.le_refl _) h1 hd, comb_val c k _ _ _ (Nat.le_refl _) ha h2, comb_val c k _ a b (Nat.le_refl _) ha hb, comb_val c k _ b d (Nat.le_refl _) hb hd, optC_assoc hc]
theorem comb_self (c : Int → Int → Int) : ∀ a : List TotV, combL c a a = a.map fun t => ⟨t.key, c t.n t.n⟩
  | [] => by rw [combL]; rfl
  | x :: a => by
    rw [combL, if_neg (by rw [lessT_irrefl]; decide), if_neg (by rw [lessT_irrefl]; decide), comb_self c a]
    rfl
theorem cK_comm (k x y : Int) : cK k x y = cK k y x := by unfold cK; split; omega; split <;> omega
theorem cK_assoc (k x y z : Int) : cK k (cK k x y) z = cK k x (cK k y z) := by unfold cK; split; omega; split <;> omega
/-- What a row counts for. -/
def uK (n : Int) (r : RowV) : Int := if n = 1 then 1 else nV r
def oF (c : Int → Int → Int) (u : RowV → Int) : List RowV → Option Int
  | [] => none
  | r :: l => optC c (some (u r)) (oF c u l)
theorem oF_append {c : Int → Int → Int} (hc : ∀ x y z, c (c x y) z = c x (c y z)) (u : RowV → Int) : ∀ A B : List RowV, oF c u (A ++ B) = optC c (oF c u A) (oF c u B)
  | [], B => rfl
  | r :: A, B => by rw [List.cons_append, oF, oF_append hc u A B, oF, optC_assoc hc]
theorem oF_perm {c : Int → Int → Int} (hc : ∀ x y z, c (c x y) z = c x (c y z)) (hm : ∀ x y, c x y = c y x) (u : RowV → Int) {A B : List RowV} (p : A.Perm B) : oF c u A = oF c u B := by
  induction p with
  | nil => rfl
  | cons x _ ih => rw [oF, oF, ih]
  | swap x y l => rw [oF, oF, oF, oF, ← optC_assoc hc, ← optC_assoc hc, optC_comm hm (some (u y))]
  | trans _ _ h1 h2 => rw [h1, h2]
theorem oF_snoc {c : Int → Int → Int} (hc : ∀ x y z, c (c x y) z = c x (c y z)) (u : RowV → Int) (l : List RowV) (r : RowV) : oF c u (l ++ [r]) = optC c (oF c u l) (some (u r)) := by
  rw [oF_append hc]; rfl
theorem foldV_oF {c : Int → Int → Int} (hc : ∀ x y z, c (c x y) z = c x (c y z)) : ∀ (n : Nat) (l : List RowV), l.length = n → l ≠ [] → oF c nV l = some (foldV c l) := by
  intro n
  induction n with
  | zero => intro l hl h; exact absurd (List.length_eq_zero_iff.1 hl) h
  | succ n ih =>
    intro l hl h
    rcases List.eq_nil_or_concat l with rfl | ⟨l, r, rfl⟩
    · exact absurd rfl h
    · rw [List.concat_eq_append, oF_snoc hc]
      by_cases hn : l = []
      · subst hn; rfl
      · rw [ih l (by simpa using hl) hn, foldV_snoc c hn]
        rfl
theorem len_oF : ∀ l : List RowV, l ≠ [] → oF (· + ·) (fun _ => 1) l = some (l.length : Int)
  | [], h => absurd rfl h
  | [r], _ => rfl
  | r :: s :: l, _ => by
    rw [oF, len_oF (s :: l) (by simp)]
    simp only [optC, List.length_cons]
    congr 1
    omega
theorem totV_oF {n : Int} (hn : n = 1 ∨ n = 2 ∨ n = 3 ∨ n = 4) {l : List RowV} (h : l ≠ []) : oF (cK n) (uK n) l = some (totV n l) := by
  rcases hn with rfl | rfl | rfl | rfl
  · have e1 : cK 1 = (· + ·) := by funext x y; unfold cK; rw [if_neg (by omega), if_neg (by omega)]
    have e2 : uK 1 = fun _ => 1 := by funext r; unfold uK; rw [if_pos rfl]
    rw [e1, e2, len_oF l h]
    rfl
  · have e1 : cK 2 = (· + ·) := by funext x y; unfold cK; rw [if_neg (by omega), if_neg (by omega)]
    have e2 : uK 2 = nV := by funext r; unfold uK; rw [if_neg (by omega)]
    rw [e1, e2, foldV_oF (fun x y z => Int.add_assoc x y z) _ l rfl h, foldV_sum]
    rfl
  · have e1 : cK 3 = min := by funext x y; unfold cK; rw [if_pos rfl]
    have e2 : uK 3 = nV := by funext r; unfold uK; rw [if_neg (by omega)]
    rw [e1, e2, foldV_oF (fun x y z => by omega) _ l rfl h]
    rfl
  · have e1 : cK 4 = max := by funext x y; unfold cK; rw [if_neg (by omega), if_pos rfl]
    have e2 : uK 4 = nV := by funext r; unfold uK; rw [if_neg (by omega)]
    rw [e1, e2, foldV_oF (fun x y z => by omega) _ l rfl h]
    rfl
theorem groups_eqC {X : List RowV} (h : KAsc X) : groupsR X = (keysOf X).map fun k => (k, X.filter (isKey k)) := by
  obtain ⟨h1, _, _⟩ := groups_of _ X (Nat.le_refl _) h
  rw [← groups_keys h, List.map_map]
  have e : (groupsR X).map id = (groupsR X).map ((fun k => (k, X.filter (isKey k))) ∘ fun x => x.1) := by
    refine List.map_congr_left fun g hg => ?_
    show g = (g.1, X.filter (isKey g.1))
    rw [← (h1 g hg).1]
  rw [List.map_id] at e
  exact e
theorem val_map (f : ByteArray → Int) (k : ByteArray) : ∀ K : List ByteArray, (k ∈ K → valT (K.map fun x => ⟨x, f x⟩) k = some (f k)) ∧ (k ∉ K → valT (K.map fun x => ⟨x, f x⟩) k = none)
  | [] => ⟨fun h => (List.not_mem_nil h).elim, fun _ => rfl⟩
  | x :: K => by
    obtain ⟨h1, h2⟩ := val_map f k K
    rw [List.map_cons, val_cons]
    by_cases hx : x = k
    · subst hx
      rw [if_pos (show isT x ⟨x, f x⟩ = true from isT_iff.2 rfl)]
      exact ⟨fun _ => rfl, fun h => absurd List.mem_cons_self h⟩
    · rw [if_neg fun e => hx (isT_iff.1 e)]
      refine ⟨fun h => ?_, fun h => h2 fun h3 => h (List.mem_cons_of_mem _ h3)⟩
      rcases List.mem_cons.1 h with e | h
      · exact absurd e.symm hx
      · exact h1 h
theorem totG_eq (n : Int) {X : List RowV} (h : KAsc X) : totG n (groupsR X) = (keysOf X).map fun k => ⟨k, totV n (X.filter (isKey k))⟩ := by
  rw [groups_eqC h]
  unfold totG
  rw [List.map_map]
  rfl
theorem totG_rise (n : Int) {X : List RowV} (h : KAsc X) : RiseT (totG n (groupsR X)) := by
  rw [totG_eq n h]
  refine List.pairwise_map.2 ?_
  exact keysOf_rising h
theorem totG_val {n : Int} (hn : n = 1 ∨ n = 2 ∨ n = 3 ∨ n = 4) (l : List RowV) (k : ByteArray) : valT (totG n (groupsR (sortL l))) k = oF (cK n) (uK n) (l.filter (isKey k)) := by
  have ha : KAsc (sortL l) := asc_keys (sortL_asc l)
  have hp : ((sortL l).filter (isKey k)).Perm (l.filter (isKey k)) := (sortL_perm' l).filter _
  rw [totG_eq n ha, ← oF_perm (cK_assoc n) (cK_comm n) (uK n) hp]
  obtain ⟨h1, h2⟩ := val_map (fun k => totV n ((sortL l).filter (isKey k))) k (keysOf (sortL l))
  by_cases hk : k ∈ keysOf (sortL l)
  · obtain ⟨r, hr, e⟩ := (keysOf_mem _ _).1 hk
    rw [h1 hk, totV_oF hn]
    intro e2
    have : r ∈ (sortL l).filter (isKey k) := List.mem_filter.2 ⟨hr, isKey_iff.2 e⟩
    rw [e2] at this
    cases this
  · rw [h2 hk]
    have e2 : (sortL l).filter (isKey k) = [] := by
      refine List.filter_eq_nil_iff.2 fun r hr hq => hk ((keysOf_mem _ _).2 ⟨r, hr, isKey_iff.1 hq⟩)
    rw [e2]
    rfl
theorem totG_two {n : Int} (hn : n = 1 ∨ n = 2 ∨ n = 3 ∨ n = 4) (A B : List RowV) : combL (cK n) (totG n (groupsR (sortL A))) (totG n (groupsR (sortL B))) = totG n (groupsR (sortL (A ++ B))) := by
  have ha := totG_rise n (asc_keys (sortL_asc A))
  have hb := totG_rise n (asc_keys (sortL_asc B))
  refine val_ext (comb_rise _ _ _ _ (Nat.le_refl _) ha hb) (totG_rise n (asc_keys (sortL_asc (A ++ B)))) fun k => ?_
  rw [comb_val _ k _ _ _ (Nat.le_refl _) ha hb, totG_val hn, totG_val hn, totG_val hn, List.filter_append, oF_append (cK_assoc n)]
theorem fine_of {l : List TotV} (hr : RiseT l) (hl : l.length ≤ 120) (h : ∀ t ∈ l, t.key.size ≤ 12 ∧ 0 ≤ t.n ∧ t.n ≤ 999999999999) : totsOk l = true := by
  unfold totsOk
  rw [decide_eq_true hl, Bool.true_and, List.all_eq_true]
  intro j hj
  have hj := List.mem_range.1 hj
  have e : l[j]? = some l[j] := List.getElem?_eq_getElem hj
  have hb : totOkB l[j].key l[j].n = true := decide_eq_true (h _ (List.getElem_mem hj))
  by_cases h0 : j = 0
  · subst h0
    exact okAt_first e hb
  · rw [okAt_next (by omega) (List.getElem?_eq_getElem (show j - 1 < l.length by omega)) e hb]
    exact List.pairwise_iff_getElem.1 hr (j - 1) j (by omega) hj (by omega)
end Go.Proofs.Ytnmlnenepceabaa

namespace Go.Proofs.Ytnmlnenepceabaa
open Go.RowKit
structure CombIn (A : List TotV) : Prop where
  ok : totsOk A = true
  le : A.length ≤ 6
  wf : ∀ t ∈ A, t.Ok
  num : NumT 119999999880 A
theorem red_in {rs : List RowV} (hok : ∀ r ∈ rs, r.Ok) (hl : rs.length ≤ 6) (N : Int) : CombIn (reducedS rs N) := by
  cases h : reducedB rs N
  · have e : reducedS rs N = [] := by unfold reducedS; rw [h]; exact if_neg (by decide)
    rw [e]
    exact ⟨rfl, Nat.zero_le _, (fun t h => by cases h), (fun t h => by cases h)⟩
  · refine ⟨reduced_fine hok h, ?_, reduced_ok hok (by omega) N, ?_⟩
    · unfold reducedS
      rw [if_pos h, totG_length]
      have h1 := groupsF_le (sortL rs).length (sortL rs)
      have h2 := (sortL_perm' rs).length_eq
      unfold groupsR
      omega
    · intro t ht
      unfold reducedS at ht
      rw [if_pos h] at ht
      obtain ⟨g, hg, rfl⟩ := List.mem_map.1 ht
      obtain ⟨_, h2, _⟩ := group_facts hok (by omega) hg
      exact totV_bd N g.2 h2
set_option maxRecDepth 100000 in
set_option maxHeartbeats 2000000 in
theorem drawCombined_any (a : Option Addr) (len cap : Nat) (w : World) (hl : len ≤ 1048576) (h : IsBy w w.heap.size a len) :
    Calls Try.prog 53 #[.slice a len cap] w fun e w' => ∃ (A B : List TotV) (b1 b2 : Option Addr) (c1 c2 : Nat) (z : Int), CombIn A ∧ CombIn B ∧ -9223372036854775808 ≤ z ∧ z ≤ 9223372036854775807 ∧
      e = .returned (.tuple #[.slice b1 A.length c1, .slice b2 B.length c2, .int .i64 z]) ∧ Rd w' w'.heap.size 2 b1 A.length (flatT A) ∧ Rd w' w'.heap.size 2 b2 B.length (flatT B) ∧ Below w.heap.size w w' := by
  go_enter Try.func53, Try.ntmps53
  go_wp2_with fail
  refine (l1Open_any a len cap w hl h).mono ?_
  rintro e w1 ⟨rfl, hR1, hb1⟩
  have hlt := hR1.lt
  go_wp2_with fail
  refine (off_any w.heap.size len 1 4 _ hR1 (by omega) (by omega) (by omega)).mono ?_
  rintro e w2 ⟨z, hz0, hz1, rfl, hD⟩
  go_wp2_with fail
  refine (rows_lit w.heap.size len 6 _ _ hD.rdr (by omega) (by omega) (by omega)).mono ?_
  rintro e w3 ⟨r1, rb, rc, hll, hok, rfl, hO, hD3⟩
  have hlt2 := hD.rdr.lt
  have hDa := hD.trans hD3
  have s3 := hDa.size
  clear hD hD3
  have CR := fun N => specReduced_any (some ⟨rb, 0, none⟩) r1.length rc r1 N w3 (by omega) hok (Rd.of_own hO)
  unfold TotsB at CR
  go_wp2_with fail
  refine (CR _).mono ?_
  rintro e w4 ⟨b1, c1, rfl, hb4, O4⟩
  have hA := red_in hok hll (max 1 (min 4 z))
  generalize reducedS r1 (max 1 (min 4 z)) = A at *
  generalize reducedB r1 (max 1 (min 4 z)) = qa at *
  have hD4 := hDa.and hb4
  have hlt3 := hDa.rdr.lt
  have s4 := hb4.size
  clear CR hO hDa
  go_wp2_with fail
  refine (rows_lit w.heap.size len 6 _ _ hD4.rdr (by omega) (by omega) (by omega)).mono ?_
  rintro e w5 ⟨r2, rb2, rc2, hll2, hok2, rfl, hO, hD5⟩
  have hDb := hD4.trans hD5
  have s5 := hD5.size
  have O5 := hD5.own O4 hlt3
  have hlt5 := hDb.rdr.lt
  clear hD4 hD5 O4
  have CR := fun N => specReduced_any (some ⟨rb2, 0, none⟩) r2.length rc2 r2 N w5 (by omega) hok2 (Rd.of_own hO)
  unfold TotsB at CR
  go_wp2_with fail
  refine (CR _).mono ?_
  rintro e w6 ⟨b2, c2, rfl, hb6, O6⟩
  have hB := red_in hok2 hll2 (max 1 (min 4 z))
  generalize reducedS r2 (max 1 (min 4 z)) = B at *
  generalize reducedB r2 (max 1 (min 4 z)) = qb at *
  have hD6 := hDb.and hb6
  have P1 := ((Rd.of_own O5).below hb6 (Nat.le_refl _)).more hb6.size
  have P2 := Rd.of_own O6
  have hbb := below_drew hb1 hD6
  clear CR hO hDb O5 O6
  go_wp2_with fail
  refine bodyPost_ret (v := .tuple #[.slice b1 A.length c1, .slice b2 B.length c2, .int .i64 z]) ?_ rfl ⟨A, B, b1, b2, c1, c2, z, hA, hB, hz0, hz1, rfl, P1, P2, hbb⟩
  simp [results, Try.results53, go_sem]
end Go.Proofs.Ytnmlnenepceabaa

namespace Go.Proofs.Ytnmlnenepceabaa
open Go.RowKit
set_option maxRecDepth 100000 in
set_option maxHeartbeats 4000000 in
theorem specCombined_any (a : Option Addr) (na ca : Nat) (X : List TotV) (b : Option Addr) (nb cb : Nat) (Y : List TotV) (N : Int) (w : World) (ha : na ≤ 1048576) (hXo : ∀ t ∈ X, t.Ok) (hX : Rd w w.heap.size 2 a na (flatT X)) (hb0 : nb ≤ 1048576) (hYo : ∀ t ∈ Y, t.Ok) (hY : Rd w w.heap.size 2 b nb (flatT Y)) :
    Calls Try.prog 50 #[.slice a na ca, .slice b nb cb, .int .i64 N] w (TotsB w (combinedS X Y N) (combinedB X Y N)) := by
  obtain ⟨i0, hi, hz0, hz1, hz2⟩ := info_parts infoTotal
  have C0 := specTotalsOk_any a na ca X w ha hXo hX
  have C1 := fun w h => specTotalsOk_any b nb cb Y w hb0 hYo h
  have C2 := fun w => l1In_four N (inK N) w rfl
  cases hq : totsOk X && (totsOk Y && inK N)
  · have e1 : combinedB X Y N = false := by
      unfold combinedB
      rw [← Bool.and_assoc, ← Bool.and_assoc, Bool.and_assoc (totsOk X), hq]; rfl
    have e2 : combinedS X Y N = [] := by unfold combinedS; rw [e1]; exact if_neg (by decide)
    rw [e1, e2]
    clear e1 e2
    generalize totsOk X = qx at *
    generalize totsOk Y = qy at *
    generalize inK N = qn at *
    unfold TotsB
    go_enter Try.func50, Try.ntmps50
    go_wp2_with fail
    refine C0.mono ?_
    rintro e w1 ⟨rfl, hb⟩
    cases qx
    · go_wp2_with fail
      go_ret2
      exact ⟨none, 0, rfl, hb, World.ownsRow_nil _ _ _ _⟩
    go_wp2_with fail
    refine (C1 _ ((hY.below hb (Nat.le_refl _)).more hb.size)).mono ?_
    rintro e w2 ⟨rfl, hb2⟩
    have B2 := hb.trans (hb2.mono hb.size)
    cases qy
    · go_wp2_with fail
      go_ret2
      exact ⟨none, 0, rfl, B2, World.ownsRow_nil _ _ _ _⟩
    obtain rfl : qn = false := by simpa using hq
    go_wp2_with fail
    refine (C2 _).mono ?_
    rintro e w3 ⟨rfl, hb3⟩
    have B3 := B2.trans (hb3.mono B2.size)
    go_wp2_with fail
    go_ret2
    exact ⟨none, 0, rfl, B3, World.ownsRow_nil _ _ _ _⟩
  have hq' := hq
  simp only [Bool.and_eq_true] at hq'
  obtain ⟨hx, hy, hk⟩ := hq'
  have hNum := Lib.hid (combK_num N hx hy)
  have hLen := Lib.hid (combK_len (cK N) hx hy)
  have hRise := Lib.hid (rise_of hy)
  have hXl := hX.tots_length
  have hYl := hY.tots_length
  have hYn := Lib.hid (tots_num hy).2
  have hY120 : nb ≤ 120 := by have := (tots_num hy).1; omega
  have hX120 : na ≤ 120 := by have := (tots_num hx).1; omega
  have hSok := Lib.hid (comb_ok (k := N) hx hy hXo hYo)
  have e1 : combinedB X Y N = totsOk (combL (cK N) X Y) := by unfold combinedB; rw [hx, hy, hk]; rfl
  suffices H : Calls Try.prog 50 #[.slice a na ca, .slice b nb cb, .int .i64 N] w (CombQ w (combL (cK N) X Y)) from H.mono fun e w' h => combQ_to h e1
  obtain ⟨L0, hL0⟩ : ∃ L0, combL (cK N) X Y = L0 := ⟨_, rfl⟩
  rw [hL0] at hSok ⊢
  have HL0 := Lib.hid hL0
  rw [hx] at C0
  rw [hy] at C1
  rw [hk] at C2
  clear e1 hL0 hx hy hk hq
  unfold CombQ
  go_enter Try.func50, Try.ntmps50
  go_wp2_with fail
  refine C0.mono ?_
  rintro e w1 ⟨rfl, hb1⟩
  go_wp2_with fail
  refine (C1 _ ((hY.below hb1 (Nat.le_refl _)).more hb1.size)).mono ?_
  rintro e w2 ⟨rfl, hb2⟩
  have B2 := hb1.trans (hb2.mono hb1.size)
  go_wp2_with fail
  refine (C2 _).mono ?_
  rintro e w3 ⟨rfl, hb3⟩
  have B3 := B2.trans (hb3.mono B2.size)
  have RX := (hX.below B3 (Nat.le_refl _)).more B3.size
  have RY := (hY.below B3 (Nat.le_refl _)).more B3.size
  clear hb1 hb2 hb3 B2 C0 C1 C2 hX hY
  have hq1 : 0 + na ≤ maxLen := by unfold maxLen; omega
  have hq2 : (0 + na) * 24 ≤ 140737488355328 := by omega
  have hl0 := bl1 w3 (.cells #[] 45)
  have O0 : (w3.alloc (.cells #[] 45)).ownsRow w3.heap.size 45 2 (.slice (some ⟨w3.heap.size, 0, none⟩) 0 0) 0 (flatT []) := World.ownsRow_lit (base := w3.heap.size) (size := 2) w3 #[] 0 (Nat.le_refl _) (Nat.zero_le _) rfl
  have R0 := (RX.below hl0 (Nat.le_refl _)).more hl0.size
  go_wp2_with (at_builtin; refine wpList_append_rd rfl _ _ 24 rfl w3.heap.size 45 i0 (.agg #[.string ⟨#[]⟩, .int .i64 0]) 2 24 Try.underlying24 hi hz0 hz1 hz2 rfl (by decide) (.slice (some ⟨w3.heap.size, 0, none⟩) 0 0) 0 (flatT []) rfl O0 a _ na ca (flatT X) rfl R0 (flatT_one1 _) hq1 hq2 hl0.size ?_; intro v' w4 hO4 hg4 hat; refine haltT_ ?_)
  refine unhaltT_ ?_
  have hb4 : Below w3.heap.size w3 w4 := hl0.grown hg4 hl0.size (fun q e => (own_ge O0 q e).1)
  have O4 : w4.ownsRow w3.heap.size 45 2 v' na (flatT X) := by simpa [flatT] using hO4
  obtain ⟨d4, c4, rfl⟩ := own_slice' O4
  clear hO4 hg4 hat O0 R0 hl0 hq1 hq2 RX
  have HZ := Lib.hid (show combL (cK N) X (Y.take 0) = X by rw [List.take_zero, combL_nil])
  have HF := Lib.hid (show combL (cK N) X (Y.take nb) = L0 by rw [List.take_of_length_le (by omega), HL0.out])
  have HST := Lib.hid (fun (k : Nat) (y : TotV) (h : Y[k]? = some y) => combK_step (cK N) (X := X) hRise.out h)
  have HYN := Lib.hid (fun (k : Nat) (y : TotV) (h : Y[k]? = some y) => hYn.out y (List.mem_of_getElem? h))
  have hNumK := fun k => Lib.hid (hNum.out k)
  clear hYn hRise hXo hYo hNum
  go_wp2_with fail
  go_loopw [8, 9] (fun v i wr => ∃ (k q c : Nat) (d : Option Addr), k ≤ nb ∧ i = .int .i64 k ∧ v = .slice d q c ∧ Hid ((combL (cK N) X (Y.take k)).length = q) ∧ wr.ownsRow w3.heap.size 45 2 (.slice d q c) q (flatT (combL (cK N) X (Y.take k))) ∧ Below w3.heap.size w3 wr) (fun _ i _ => nb - (intOf i).toNat)
  case atStart => exact ⟨0, na, c4, d4, Nat.zero_le _, rfl, rfl, Lib.hid (by rw [HZ.out]; exact hXl), by rw [HZ.out]; exact O4, hb4⟩
  case round =>
    obtain ⟨k, q, c, d, hk, rfl, rfl, HQ, O, hb⟩ := hrel
    have hq240 : q ≤ 240 := by have := hLen.out k; rw [HQ.out] at this; exact this
    have hqc := capT O
    by_cases hlt : k < nb
    · obtain ⟨bb, off, r, rfl, hB, hr, c0, c1⟩ := (RY.below hb (Nat.le_refl _)).tot hlt
      have HS := Lib.hid (HST.out k r hr)
      have hxn := HYN.out k r hr
      have HN := hNumK k
      obtain ⟨yk, yn⟩ := r
      simp only at c0 c1 hxn
      clear hr
      generalize combL (cK N) X (Y.take k) = L at *
      have CP := l7Put_any d q c L yk yn N wr (by omega) hqc (Rd.of_own O) (fun t ht => by have := HN.out t ht; omega) (by omega)
      go_wp2_with fail
      refine CP.mono ?_
      rintro e w5 ⟨d5, m5, c5, rfl, hm5, hb5, O5⟩
      have B5 := hb.trans (hb5.mono hb.size)
      have O6 := own_base' O5 hb.size
      clear CP O5 c0 c1
      go_wp2_with fail
      go_roundw
      case rel => exact ⟨k + 1, m5, c5, d5, by omega, by go_num, rfl, Lib.hid (by rw [HS.out]; exact hm5), by rw [HS.out]; exact O6, B5⟩
      case measure => simp [intOf]; omega
    · obtain rfl : k = nb := by omega
      rw [HF.out] at HQ O
      have CT := specTotalsOk_any d q c L0 wr (by omega) hSok.out (Rd.of_own O)
      have Bt := B3.trans (hb.mono B3.size)
      have O6 := own_base' O B3.size
      obtain rfl := HQ.out
      cases ht : totsOk L0
      · rw [ht] at CT
        go_wp2_with fail
        refine CT.mono ?_
        rintro e w5 ⟨rfl, hb5⟩
        have B5 := Bt.trans (hb5.mono Bt.size)
        go_wp2_with fail
        go_ret2
        exact ⟨none, 0, 0, false, rfl, B5, .inl ⟨rfl, ht, rfl, rfl, rfl⟩⟩
      · rw [ht] at CT
        go_wp2_with fail
        refine CT.mono ?_
        rintro e w5 ⟨rfl, hb5⟩
        have B5 := Bt.trans (hb5.mono Bt.size)
        have O7 := own_below O6 hb5
        go_wp2_with fail
        go_ret2
        exact ⟨d, L0.length, c, true, rfl, B5, .inr ⟨rfl, ht, rfl, O7⟩⟩
end Go.Proofs.Ytnmlnenepceabaa

namespace Go.Proofs.Ytnmlnenepceabaa
open Go.RowKit
theorem combinedB_not {X Y : List TotV} {N : Int} (h : inK N = false) : combinedB X Y N = false ∧ combinedS X Y N = [] := by
  have e : combinedB X Y N = false := by unfold combinedB; rw [h]; simp
  exact ⟨e, by unfold combinedS; rw [e]; exact if_neg (by decide)⟩
theorem combinedB_no1 {X Y : List TotV} {N : Int} (h : totsOk X = false) : combinedB X Y N = false ∧ combinedS X Y N = [] := by
  have e : combinedB X Y N = false := by unfold combinedB; rw [h]; simp
  exact ⟨e, by unfold combinedS; rw [e]; exact if_neg (by decide)⟩
theorem combinedB_no2 {X Y : List TotV} {N : Int} (h : totsOk Y = false) : combinedB X Y N = false ∧ combinedS X Y N = [] := by
  have e : combinedB X Y N = false := by unfold combinedB; rw [h]; simp
  exact ⟨e, by unfold combinedS; rw [e]; exact if_neg (by decide)⟩
theorem func_not_nil (F : Nat) (w : World) : (binOp BinOp.eql 82 (.func (.func F) #[] #[]) .nilFunc).run Try.prog w = .ok (.bool false) w := by kernel_rfl
theorem nil_is_nil (w : World) : (binOp BinOp.eql 82 .nilFunc .nilFunc).run Try.prog w = .ok (.bool true) w := by kernel_rfl
set_option maxRecDepth 100000 in
set_option maxHeartbeats 4000000 in
theorem implComb_go (F : Nat) (c : Int → Int → Int) (a b : Option Addr) (na ca nb cb : Nat) (X Y : List TotV) (N : Int) (w : World) (ha : na ≤ 1048576) (hb0 : nb ≤ 1048576) (hXo : ∀ t ∈ X, t.Ok) (hYo : ∀ t ∈ Y, t.Ok) (hX : Rd w w.heap.size 2 a na (flatT X)) (hY : Rd w w.heap.size 2 b nb (flatT Y)) (hN : inK N = true) (hcN : c = cK N)
    (hAg : ∀ w, Calls Try.prog 64 #[.int .i64 N] w fun e w' => ∃ tv, FnV tv ∧ e = .returned (.tuple #[.agg #[tv, .func (.func F) #[] #[]], .bool true]) ∧ Below w.heap.size w w')
    (hBy : ∀ (w : World), na ≤ 120 → nb ≤ 120 → Rd w w.heap.size 2 a na (flatT X) → Rd w w.heap.size 2 b nb (flatT Y) → NumT 999999999999 X → NumT 999999999999 Y →
      Calls Try.prog 96 #[.slice a na ca, .slice b nb cb, .func (.func F) #[] #[]] w fun e w' => ∃ d q c', e = .returned (.slice d q c') ∧ (accT c (mergeT (mergeT [] X) Y) (na + nb)).length = q ∧ Below w.heap.size w w' ∧ w'.ownsRow w.heap.size 45 2 (.slice d q c') q (flatT (accT c (mergeT (mergeT [] X) Y) (na + nb)))) :
    Calls Try.prog 52 #[.slice a na ca, .slice b nb cb, .int .i64 N] w (TotsB w (combinedS X Y N) (combinedB X Y N)) := by
  have C0 := fun w h => implTotalsOk_any a na ca X w ha hXo h
  have C1 := fun w h => implTotalsOk_any b nb cb Y w hb0 hYo h
  have hnn := func_not_nil F
  have HC : ∀ q : Bool, q = combinedB X Y N → q = combinedB X Y N := fun _ h => h
  have hXl := hX.tots_length
  have hYl := hY.tots_length
  cases hx : totsOk X
  · obtain ⟨e1, e2⟩ := combinedB_no1 (Y := Y) (N := N) hx
    rw [e1, e2]
    rw [hx] at C0
    clear e1 e2 HC C1 hBy hx
    unfold TotsB
    go_enter Try.func52, Try.ntmps52
    go_wp2_with fail
    refine (hAg _).mono ?_
    rintro e w1 ⟨tv, ht, rfl, hb1⟩
    have BA := hb1.alloc hb1.size (.cells #[tv, .func (.func F) #[] #[]] 84)
    have RA := (hX.below BA (Nat.le_refl _)).more BA.size
    rcases ht with rfl | ⟨f1, a1, b1, rfl⟩
    all_goals
      go_wp2_with fail
      refine (C0 _ RA).mono ?_
      rintro e w2 ⟨rfl, hb2⟩
      have B2 := BA.trans (hb2.mono BA.size)
      go_wp2_with fail
      go_ret2
      exact ⟨none, 0, rfl, B2, World.ownsRow_nil _ _ _ _⟩
  cases hy : totsOk Y
  · obtain ⟨e1, e2⟩ := combinedB_no2 (X := X) (N := N) hy
    rw [e1, e2]
    rw [hx] at C0
    rw [hy] at C1
    clear e1 e2 HC hBy hx hy
    unfold TotsB
    go_enter Try.func52, Try.ntmps52
    go_wp2_with fail
    refine (hAg _).mono ?_
    rintro e w1 ⟨tv, ht, rfl, hb1⟩
    have BA := hb1.alloc hb1.size (.cells #[tv, .func (.func F) #[] #[]] 84)
    have RA := (hX.below BA (Nat.le_refl _)).more BA.size
    rcases ht with rfl | ⟨f1, a1, b1, rfl⟩
    all_goals
      go_wp2_with fail
      refine (C0 _ RA).mono ?_
      rintro e w2 ⟨rfl, hb2⟩
      have B2 := BA.trans (hb2.mono BA.size)
      go_wp2_with fail
      refine (C1 _ ((hY.below B2 (Nat.le_refl _)).more B2.size)).mono ?_
      rintro e w3 ⟨rfl, hb3⟩
      have B3 := B2.trans (hb3.mono B2.size)
      go_wp2_with fail
      go_ret2
      exact ⟨none, 0, rfl, B3, World.ownsRow_nil _ _ _ _⟩
  have e1 : combinedB X Y N = totsOk (combL (cK N) X Y) := by unfold combinedB; rw [hx, hy, hN]; rfl
  suffices H : Calls Try.prog 52 #[.slice a na ca, .slice b nb cb, .int .i64 N] w (CombQ w (combL (cK N) X Y)) from H.mono fun e w' h => combQ_to h e1
  rw [hx] at C0
  rw [hy] at C1
  have hX120 : na ≤ 120 := by have := (tots_num hx).1; omega
  have hY120 : nb ≤ 120 := by have := (tots_num hy).1; omega
  have hac : accT c (mergeT (mergeT [] X) Y) (na + nb) = combL (cK N) X Y := by
    rw [hcN, show na + nb = X.length + Y.length by omega]
    exact acc_all (cK N) hx hy
  rw [hac] at hBy
  have CB := fun w h1 h2 => hBy w hX120 hY120 h1 h2 (tots_num hx).2 (tots_num hy).2
  have hLen := combK_len (cK N) hx hy Y.length
  rw [List.take_length] at hLen
  have CT := fun d q c' w h1 h => implTotalsOk_any d q c' (combL (cK N) X Y) w h1 (comb_ok (k := N) hx hy hXo hYo) h
  clear e1 HC hBy hx hy hac hcN
  generalize combL (cK N) X Y = L at *
  unfold CombQ
  go_enter Try.func52, Try.ntmps52
  go_wp2_with fail
  refine (hAg _).mono ?_
  rintro e w1 ⟨tv, ht, rfl, hb1⟩
  have BA := hb1.alloc hb1.size (.cells #[tv, .func (.func F) #[] #[]] 84)
  have RA := (hX.below BA (Nat.le_refl _)).more BA.size
  have hcl : (w1.alloc (.cells #[tv, .func (.func F) #[] #[]] 84)).cell? ⟨w1.heap.size, 1, none⟩ = some (.func (.func F) #[] #[]) := by simp [go_sem]
  have hsz : w1.heap.size < (w1.alloc (.cells #[tv, .func (.func F) #[] #[]] 84)).heap.size := by simp
  rcases ht with rfl | ⟨f1, a1, b1, rfl⟩
  all_goals
    go_wp2_with fail
    refine (C0 _ RA).mono ?_
    rintro e w2 ⟨rfl, hb2⟩
    have B2 := BA.trans (hb2.mono BA.size)
    have hc2 := (hb2.cell (p := ⟨w1.heap.size, 1, none⟩) hsz).trans hcl
    have hz2 := Nat.lt_of_lt_of_le hsz hb2.size
    clear hcl hsz hb2 RA BA
    go_wp2_with fail
    refine (C1 _ ((hY.below B2 (Nat.le_refl _)).more B2.size)).mono ?_
    rintro e w3 ⟨rfl, hb3⟩
    have B3 := B2.trans (hb3.mono B2.size)
    have hc3 := (hb3.cell (p := ⟨w1.heap.size, 1, none⟩) hz2).trans hc2
    clear hc2 hz2 hb3 B2
    go_wp2_with fail
    refine (CB _ ((hX.below B3 (Nat.le_refl _)).more B3.size) ((hY.below B3 (Nat.le_refl _)).more B3.size)).mono ?_
    rintro e w4 ⟨d, q, c', rfl, hq, hb4, O4⟩
    have B4 := B3.trans (hb4.mono B3.size)
    have O5 := own_base' O4 B3.size
    subst hq
    have CT' := CT d L.length c' w4 (by omega) (Rd.of_own O4)
    clear CT CB hb4 O4
    cases ht : totsOk L
    · rw [ht] at CT'
      go_wp2_with fail
      refine CT'.mono ?_
      rintro e w5 ⟨rfl, hb5⟩
      have B5 := B4.trans (hb5.mono B4.size)
      go_wp2_with fail
      go_ret2
      exact ⟨none, 0, 0, false, rfl, B5, .inl ⟨rfl, ht, rfl, rfl, rfl⟩⟩
    · rw [ht] at CT'
      go_wp2_with fail
      refine CT'.mono ?_
      rintro e w5 ⟨rfl, hb5⟩
      have B5 := B4.trans (hb5.mono B4.size)
      have O7 := own_below O5 hb5
      go_wp2_with fail
      go_ret2
      exact ⟨d, L.length, c', true, rfl, B5, .inr ⟨rfl, ht, rfl, O7⟩⟩
set_option maxRecDepth 100000 in
set_option maxHeartbeats 4000000 in
theorem implComb_no (a b : Option Addr) (na ca nb cb : Nat) (N : Int) (w : World)
    (hAg : ∀ w, Calls Try.prog 64 #[.int .i64 N] w fun e w' => ∃ tv q, FnV tv ∧ e = .returned (.tuple #[.agg #[tv, .nilFunc], .bool q]) ∧ Below w.heap.size w w') :
    Calls Try.prog 52 #[.slice a na ca, .slice b nb cb, .int .i64 N] w (TotsB w [] false) := by
  unfold TotsB
  have hnn := nil_is_nil
  go_enter Try.func52, Try.ntmps52
  go_wp2_with fail
  refine (hAg _).mono ?_
  rintro e w1 ⟨tv, q, ht, rfl, hb1⟩
  have BA := hb1.alloc hb1.size (.cells #[tv, .nilFunc] 84)
  rcases ht with rfl | ⟨f1, a1, b1, rfl⟩ <;> cases q
  all_goals
    go_wp2_with fail
    go_ret2
    exact ⟨none, 0, rfl, BA, World.ownsRow_nil _ _ _ _⟩
theorem implCombined_any (a : Option Addr) (na ca : Nat) (X : List TotV) (b : Option Addr) (nb cb : Nat) (Y : List TotV) (N : Int) (w : World) (ha : na ≤ 1048576) (hXo : ∀ t ∈ X, t.Ok) (hX : Rd w w.heap.size 2 a na (flatT X)) (hb0 : nb ≤ 1048576) (hYo : ∀ t ∈ Y, t.Ok) (hY : Rd w w.heap.size 2 b nb (flatT Y)) :
    Calls Try.prog 52 #[.slice a na ca, .slice b nb cb, .int .i64 N] w (TotsB w (combinedS X Y N) (combinedB X Y N)) := by
  cases hN : inK N
  · rw [(combinedB_not hN).1, (combinedB_not hN).2]
    refine implComb_no a b na ca nb cb N w fun w => ?_
    cases hk : (decide (1 ≤ N) && decide (N ≤ 5))
    · refine (aggr_no N hk w).mono ?_
      rintro e w1 ⟨rfl, hb⟩
      exact ⟨_, _, .inl rfl, rfl, hb⟩
    · obtain rfl : N = 5 := by
        rcases kind_five hk with rfl | rfl | rfl | rfl | rfl
        · exact absurd hN (by decide)
        · exact absurd hN (by decide)
        · exact absurd hN (by decide)
        · exact absurd hN (by decide)
        · rfl
      refine (aggr_5 w).mono ?_
      rintro e w1 ⟨rfl, hb⟩
      exact ⟨_, _, .inr ⟨_, _, _, rfl⟩, rfl, hb⟩
  · have hk : N = 1 ∨ N = 2 ∨ N = 3 ∨ N = 4 := by
      have h := hN
      unfold inK at h
      rw [Bool.and_eq_true, decide_eq_true_eq, decide_eq_true_eq] at h
      omega
    rcases hk with rfl | rfl | rfl | rfl
    · refine implComb_go 106 (fun x y => x + y) a b na ca nb cb X Y 1 w ha hb0 hXo hYo hX hY hN (by funext x y; unfold cK; rw [if_neg (by omega), if_neg (by omega)]) (fun w => (aggr_1 w).mono ?_) (fun w h1 h2 h3 h4 h5 h6 => by_plus a b na ca nb cb X Y w h1 h2 h3 h4 h5 h6)
      rintro e w1 ⟨rfl, hb⟩
      exact ⟨_, .inr ⟨_, _, _, rfl⟩, rfl, hb⟩
    · refine implComb_go 106 (fun x y => x + y) a b na ca nb cb X Y 2 w ha hb0 hXo hYo hX hY hN (by funext x y; unfold cK; rw [if_neg (by omega), if_neg (by omega)]) (fun w => (aggr_2 w).mono ?_) (fun w h1 h2 h3 h4 h5 h6 => by_plus a b na ca nb cb X Y w h1 h2 h3 h4 h5 h6)
      rintro e w1 ⟨B, _, _, _, rfl, hb⟩
      exact ⟨_, .inr ⟨_, _, _, rfl⟩, rfl, hb⟩
    · refine implComb_go 108 min a b na ca nb cb X Y 3 w ha hb0 hXo hYo hX hY hN (by funext x y; unfold cK; rw [if_pos rfl]) (fun w => (aggr_3 w).mono ?_) (fun w h1 h2 h3 h4 h5 h6 => by_lesser a b na ca nb cb X Y w h1 h2 h3 h4 h5 h6)
      rintro e w1 ⟨B, _, _, _, rfl, hb⟩
      exact ⟨_, .inr ⟨_, _, _, rfl⟩, rfl, hb⟩
    · refine implComb_go 109 max a b na ca nb cb X Y 4 w ha hb0 hXo hYo hX hY hN (by funext x y; unfold cK; rw [if_neg (by omega), if_pos rfl]) (fun w => (aggr_4 w).mono ?_) (fun w h1 h2 h3 h4 h5 h6 => by_greater a b na ca nb cb X Y w h1 h2 h3 h4 h5 h6)
      rintro e w1 ⟨B, _, _, _, rfl, hb⟩
      exact ⟨_, .inr ⟨_, _, _, rfl⟩, rfl, hb⟩
end Go.Proofs.Ytnmlnenepceabaa

namespace Go.Proofs.Ytnmlnenepceabaa
open Go.RowKit
def TotsY (w : World) (n : Nat) (ts : List TotV) (q : Bool) (e : Ending) (w' : World) : Prop := ∃ b c, e = .returned (.tuple #[.slice b n c, .bool q]) ∧ Below w.heap.size w w' ∧ w'.ownsRow w.heap.size 45 2 (.slice b n c) n (flatT ts)
theorem implComb_yes {N : Int} {X Y L : List TotV} {nx ny nl : Nat} (h : combinedB X Y N = true) (e : combL (cK N) X Y = L) (hl : L.length = nl) (hXo : ∀ t ∈ X, t.Ok) (hYo : ∀ t ∈ Y, t.Ok) (hnx : nx ≤ 1000) (hny : ny ≤ 1000) (a b : Option Addr) (ca cb : Nat) (w : World) (hX : Rd w w.heap.size 2 a nx (flatT X)) (hY : Rd w w.heap.size 2 b ny (flatT Y)) :
    Calls Try.prog 52 #[.slice a nx ca, .slice b ny cb, .int .i64 N] w (TotsY w nl L true) := by
  have C := implCombined_any a nx ca X b ny cb Y N w (by omega) hXo hX (by omega) hYo hY
  have e1 : combinedS X Y N = L := by unfold combinedS; rw [if_pos h, e]
  rw [e1, h] at C
  unfold TotsB at C
  rw [hl] at C
  exact C
theorem specComb_yes {N : Int} {X Y L : List TotV} {nx ny nl : Nat} (h : combinedB X Y N = true) (e : combL (cK N) X Y = L) (hl : L.length = nl) (hXo : ∀ t ∈ X, t.Ok) (hYo : ∀ t ∈ Y, t.Ok) (hnx : nx ≤ 1000) (hny : ny ≤ 1000) (a b : Option Addr) (ca cb : Nat) (w : World) (hX : Rd w w.heap.size 2 a nx (flatT X)) (hY : Rd w w.heap.size 2 b ny (flatT Y)) :
    Calls Try.prog 50 #[.slice a nx ca, .slice b ny cb, .int .i64 N] w (TotsY w nl L true) := by
  have C := specCombined_any a nx ca X b ny cb Y N w (by omega) hXo hX (by omega) hYo hY
  have e1 : combinedS X Y N = L := by unfold combinedS; rw [if_pos h, e]
  rw [e1, h] at C
  unfold TotsB at C
  rw [hl] at C
  exact C
theorem implComb_off {N : Int} {X Y : List TotV} {nx ny : Nat} (h : combinedB X Y N = false) (hXo : ∀ t ∈ X, t.Ok) (hYo : ∀ t ∈ Y, t.Ok) (hnx : nx ≤ 1000) (hny : ny ≤ 1000) (a b : Option Addr) (ca cb : Nat) (w : World) (hX : Rd w w.heap.size 2 a nx (flatT X)) (hY : Rd w w.heap.size 2 b ny (flatT Y)) :
    Calls Try.prog 52 #[.slice a nx ca, .slice b ny cb, .int .i64 N] w (TotsY w 0 [] false) := by
  have C := implCombined_any a nx ca X b ny cb Y N w (by omega) hXo hX (by omega) hYo hY
  have e1 : combinedS X Y N = [] := by unfold combinedS; rw [h]; exact if_neg (by decide)
  rw [e1, h] at C
  exact C
theorem specComb_off {N : Int} {X Y : List TotV} {nx ny : Nat} (h : combinedB X Y N = false) (hXo : ∀ t ∈ X, t.Ok) (hYo : ∀ t ∈ Y, t.Ok) (hnx : nx ≤ 1000) (hny : ny ≤ 1000) (a b : Option Addr) (ca cb : Nat) (w : World) (hX : Rd w w.heap.size 2 a nx (flatT X)) (hY : Rd w w.heap.size 2 b ny (flatT Y)) :
    Calls Try.prog 50 #[.slice a nx ca, .slice b ny cb, .int .i64 N] w (TotsY w 0 [] false) := by
  have C := specCombined_any a nx ca X b ny cb Y N w (by omega) hXo hX (by omega) hYo hY
  have e1 : combinedS X Y N = [] := by unfold combinedS; rw [h]; exact if_neg (by decide)
  rw [e1, h] at C
  exact C
theorem tots_key {ts : List TotV} (h : totsOk ts = true) : ∀ t ∈ ts, t.key.size ≤ 12 := by
  unfold totsOk at h
  rw [Bool.and_eq_true, List.all_eq_true] at h
  intro t ht
  obtain ⟨j, hj, e⟩ := List.mem_iff_getElem.1 ht
  have h1 := h.2 j (List.mem_range.2 hj)
  have e1 : ts[j]? = some t := by rw [List.getElem?_eq_getElem hj, e]
  simp only [okAt, e1, Bool.and_eq_true] at h1
  exact (totOkB_parts h1.1).1
theorem comb_fine {X Y : List TotV} {N p q : Int} (hX : totsOk X = true) (hY : totsOk Y = true) (h1 : NumT p X) (h2 : NumT q Y) (hp : 0 ≤ p) (hq : 0 ≤ q) (hs : p + q ≤ 999999999999) (hl : X.length + Y.length ≤ 120) : totsOk (combL (cK N) X Y) = true := by
  refine fine_of (comb_rise _ _ X Y (Nat.le_refl _) (rise_of hX) (rise_of hY)) ?_ fun t ht => ?_
  · have := combL_length (cK N) _ X Y (Nat.le_refl _); omega
  · have hn := comb_num N hp hq h1 h2 t ht
    refine ⟨?_, hn.1, by omega⟩
    rcases combL_from _ _ X Y (Nat.le_refl _) t ht with h | h | ⟨x, hx, y, hy, rfl⟩
    · exact tots_key hX t h
    · exact tots_key hY t h
    · exact tots_key hX x hx
theorem combB_of {X Y : List TotV} {N : Int} (hX : totsOk X = true) (hY : totsOk Y = true) (hk : inK N = true) (h : totsOk (combL (cK N) X Y) = true) : combinedB X Y N = true := by unfold combinedB; rw [hX, hY, hk, h]; rfl
theorem three_ok {X Y : List TotV} {z : Int} (hX : CombIn X) (hY : CombIn Y) (hB : combinedB X Y z = true) :
    totsOk (combL (cK z) X Y) = true ∧ combinedB (combL (cK z) X Y) X z = true ∧ combinedB Y X z = true ∧ combinedB X (combL (cK z) Y X) z = true ∧ combinedB X [] z = true ∧ combL (cK z) (combL (cK z) X Y) X = combL (cK z) X (combL (cK z) Y X) ∧
    (combL (cK z) X Y).length ≤ 12 ∧ (combL (cK z) Y X).length ≤ 12 ∧ (combL (cK z) X (combL (cK z) Y X)).length ≤ 18 ∧ (∀ t ∈ combL (cK z) X Y, t.Ok) ∧ (∀ t ∈ combL (cK z) Y X, t.Ok) := by
  have h := hB
  unfold combinedB at h
  simp only [Bool.and_eq_true] at h
  obtain ⟨_, _, hk, hM⟩ := h
  have n1 := comb_num z (by omega) (by omega) hX.num hY.num
  have n2 := comb_num z (by omega) (by omega) hY.num hX.num
  have l1 := combL_length (cK z) _ X Y (Nat.le_refl _)
  have l2 := combL_length (cK z) _ Y X (Nat.le_refl _)
  have l3 := combL_length (cK z) _ X (combL (cK z) Y X) (Nat.le_refl _)
  have hx := hX.le
  have hy := hY.le
  have f2 : totsOk (combL (cK z) Y X) = true := comb_fine hY.ok hX.ok hY.num hX.num (by omega) (by omega) (by omega) (by omega)
  refine ⟨hM, combB_of hM hX.ok hk (comb_fine hM hX.ok n1 hX.num (by omega) (by omega) (by omega) (by omega)), combB_of hY.ok hX.ok hk f2, combB_of hX.ok f2 hk (comb_fine hX.ok f2 hX.num n2 (by omega) (by omega) (by omega) (by omega)), combB_of hX.ok rfl hk (by rw [combL_nil]; exact hX.ok),
    comb_assoc (cK_assoc z) (rise_of hX.ok) (rise_of hY.ok) (rise_of hX.ok), by omega, by omega, by omega, comb_ok hX.ok hY.ok hX.wf hY.wf, comb_ok hY.ok hX.ok hY.wf hX.wf⟩
def twiceT (X : List TotV) : List TotV := X.map fun t => ⟨t.key, t.n + t.n⟩
theorem self_ok {X : List TotV} (hX : CombIn X) : combL (cK 3) X X = X ∧ combL (cK 4) X X = X ∧ combL (cK 1) X X = twiceT X ∧ combinedB X X 3 = true ∧ combinedB X X 4 = true ∧ combinedB X X 1 = true ∧ (twiceT X).length = X.length ∧
    ∀ (i : Nat) (x y : TotV), X[i]? = some x → (twiceT X)[i]? = some y → y.n = x.n + x.n ∧ 0 ≤ x.n ∧ x.n ≤ 119999999880 := by
  have e3 : combL (cK 3) X X = X := by
    rw [comb_self]
    conv => rhs; rw [← List.map_id X]
    refine List.map_congr_left fun t _ => ?_
    have : cK 3 t.n t.n = t.n := by unfold cK; rw [if_pos rfl]; omega
    rw [this]; rfl
  have e4 : combL (cK 4) X X = X := by
    rw [comb_self]
    conv => rhs; rw [← List.map_id X]
    refine List.map_congr_left fun t _ => ?_
    have : cK 4 t.n t.n = t.n := by unfold cK; rw [if_neg (by omega), if_pos rfl]; omega
    rw [this]; rfl
  have e1 : combL (cK 1) X X = twiceT X := by
    rw [comb_self]
    rfl
  have hx := hX.le
  refine ⟨e3, e4, e1, combB_of hX.ok hX.ok (by decide) (by rw [e3]; exact hX.ok), combB_of hX.ok hX.ok (by decide) (by rw [e4]; exact hX.ok), combB_of hX.ok hX.ok (by decide) (comb_fine hX.ok hX.ok hX.num hX.num (by omega) (by omega) (by omega) (by omega)), List.length_map _, fun i x y h1 h2 => ?_⟩
  have h3 := hX.num x (List.mem_of_getElem? h1)
  unfold twiceT at h2
  rw [List.getElem?_map, h1] at h2
  injection h2 with h2
  subst h2
  exact ⟨rfl, h3.1, h3.2⟩
theorem pieces_ok {l : List RowV} {z : Int} (k : Nat) (hok : ∀ r ∈ l, r.Ok) (hB : reducedB l z = true) (h5 : z ≠ 5) :
    reducedB (l.take k) z = true ∧ reducedB (l.drop k) z = true ∧ combinedB (reducedS (l.take k) z) (reducedS (l.drop k) z) z = true ∧ combinedB (reducedS (l.drop k) z) (reducedS (l.take k) z) z = true ∧
    combL (cK z) (reducedS (l.take k) z) (reducedS (l.drop k) z) = reducedS l z ∧ combL (cK z) (reducedS (l.drop k) z) (reducedS (l.take k) z) = reducedS l z := by
  have h := hB
  unfold reducedB at h
  rw [Bool.and_eq_true, Bool.and_eq_true, decide_eq_true_eq, decide_eq_true_eq] at h
  have hz : z = 1 ∨ z = 2 ∨ z = 3 ∨ z = 4 := by omega
  have hk : inK z = true := by unfold inK; rw [Bool.and_eq_true, decide_eq_true_eq, decide_eq_true_eq]; omega
  have hok1 : ∀ r ∈ l.take k, r.Ok := fun r hr => hok r (List.mem_of_mem_take hr)
  have hok2 : ∀ r ∈ l.drop k, r.Ok := fun r hr => hok r (List.mem_of_mem_drop hr)
  have hsub : ∀ m : List RowV, m.Sublist l → reducedB m z = true := fun m hm => by
    have h2 := hB
    unfold reducedB at h2 ⊢
    rw [Bool.and_eq_true] at h2 ⊢
    refine ⟨?_, h2.2⟩
    have h3 := h2.1
    unfold rowsOk at h3 ⊢
    rw [Bool.and_eq_true, decide_eq_true_eq, List.all_eq_true] at h3 ⊢
    have h4 := hm.length_le
    exact ⟨by omega, fun r hr => h3.2 r (hm.subset hr)⟩
  have b1 := hsub _ (List.take_sublist k l)
  have b2 := hsub _ (List.drop_sublist k l)
  have f1 := reduced_fine hok1 b1
  have f2 := reduced_fine hok2 b2
  have e1 : combL (cK z) (reducedS (l.take k) z) (reducedS (l.drop k) z) = reducedS l z := by
    unfold reducedS
    rw [if_pos b1, if_pos b2, if_pos hB, totG_two hz, List.take_append_drop]
  have e2 : combL (cK z) (reducedS (l.drop k) z) (reducedS (l.take k) z) = reducedS l z := by
    rw [comb_comm (cK_comm z) (rise_of f2) (rise_of f1), e1]
  exact ⟨b1, b2, combB_of f1 f2 hk (by rw [e1]; exact reduced_fine hok hB), combB_of f2 f1 hk (by rw [e2]; exact reduced_fine hok hB), e1, e2⟩
end Go.Proofs.Ytnmlnenepceabaa

namespace Go.Proofs.Ytnmlnenepceabaa
open Go.RowKit
theorem IsBy.keepC {w w' : World} {a : Option Addr} {n : Nat} (h : IsBy w w.heap.size a n) (hb : Below w.heap.size w w') : IsBy w' w'.heap.size a n := by
  obtain ⟨xs, h1, h2⟩ := h
  exact ⟨xs, (h1.below hb (Nat.le_refl _)).more hb.size, h2⟩
set_option maxRecDepth 100000 in
set_option maxHeartbeats 4000000 in
theorem walk_Combined (a : Option Addr) (len cap : Nat) (xs : List Value) (w : World) (hI : IsCode w a len cap xs) :
    Calls Try.prog 11 #[.slice a len cap] w fun e w' => e = .returned (.bool true) ∧ Below w.heap.size w w' := by
  have hI0 := hI.by_
  obtain ⟨hlc, hcm, _, _⟩ := hI
  go_enter Try.func11, Try.ntmps11
  go_wp2_with fail
  refine (big_any a len cap w (by omega)).mono ?_
  rintro e w0 ⟨rfl, rfl⟩
  by_cases hbig : 1048576 < len
  · have hd : decide (1048576 < len) = true := by simpa using hbig
    rw [hd]
    go_wp2_with fail
    go_ret
    exact ⟨rfl, Below.refl _ _⟩
  have hd : decide (1048576 < len) = false := by simpa using hbig
  rw [hd]
  go_wp2_with fail
  refine (drawCombined_any a len cap w (by omega) hI0).mono ?_
  rintro e w1 ⟨X, Y, xa, ya, xc, yc, z, hX, hY, hz0, hz1, rfl, PX, PY, B⟩
  have lx := hX.le
  have ly := hY.le
  have CI := fun w (h1 : Rd w w.heap.size 2 xa X.length (flatT X)) (h2 : Rd w w.heap.size 2 ya Y.length (flatT Y)) => implCombined_any xa X.length xc X ya Y.length yc Y z w (by omega) hX.wf h1 (by omega) hY.wf h2
  have CS := fun w (h1 : Rd w w.heap.size 2 xa X.length (flatT X)) (h2 : Rd w w.heap.size 2 ya Y.length (flatT Y)) => specCombined_any xa X.length xc X ya Y.length yc Y z w (by omega) hX.wf h1 (by omega) hY.wf h2
  have hcl := combinedS_le X Y z
  generalize combinedS X Y z = S at *
  generalize combinedB X Y z = q at *
  unfold TotsB at CI CS
  obtain ⟨ns, hns⟩ : ∃ j, S.length = j := ⟨_, rfl⟩
  rw [hns] at CI CS hcl
  clear hns
  go_wp2_with fail
  refine (CI w1 PX PY).mono ?_
  rintro e w2 ⟨pa, pc, rfl, hb, hO⟩
  replace B := B.trans (hb.mono B.size)
  replace PX := (PX.below hb (Nat.le_refl _)).more hb.size
  replace PY := (PY.below hb (Nat.le_refl _)).more hb.size
  clear hb
  have P := Rd.of_own hO
  clear hO CI
  go_wp2_with fail
  refine (CS w2 PX PY).mono ?_
  rintro e w3 ⟨qa, qc, rfl, hb, hO⟩
  replace B := B.trans (hb.mono B.size)
  replace PX := (PX.below hb (Nat.le_refl _)).more hb.size
  replace PY := (PY.below hb (Nat.le_refl _)).more hb.size
  replace P := (P.below hb (Nat.le_refl _)).more hb.size
  clear hb
  have Q := Rd.of_own hO
  clear hO CS
  clear PX
  clear PY
  go_wp2_with fail
  refine (sameTotals_same pa qa ns pc qc S w3 (by omega) P Q).mono ?_
  rintro e w4 ⟨rfl, hb⟩
  replace B := B.trans (hb.mono B.size)
  replace P := (P.below hb (Nat.le_refl _)).more hb.size
  replace Q := (Q.below hb (Nat.le_refl _)).more hb.size
  clear hb
  clear P
  clear Q
  go_wp2_with fail
  refine (drawReduced_any a len cap w4 (by omega) (hI0.keepC B)).mono ?_
  rintro e w5 ⟨l, lb, lc, zk, hll, hok, hk0, hk1, rfl, hO, hb⟩
  replace B := B.trans (hb.mono B.size)
  clear hb
  have L := Rd.of_own hO
  have hcap := own_cap hO
  clear hO
  cases hq : reducedB l zk
  · have CR := fun w (h : Rd w w.heap.size 3 (some ⟨lb, 0, none⟩) l.length (flat l)) => implReduced_any (some ⟨lb, 0, none⟩) l.length lc l zk w (by omega) hok h
    unfold TotsB at CR
    rw [hq] at CR
    clear hq
    generalize reducedS l zk = T at *
    go_wp2_with fail
    refine (CR w5 L).mono ?_
    rintro e w6 ⟨ta, tc, rfl, hb, hO⟩
    replace B := B.trans (hb.mono B.size)
    replace L := (L.below hb (Nat.le_refl _)).more hb.size
    clear hb
    clear hO CR
    go_wp2_with fail
    go_ret
    exact ⟨rfl, B⟩
  have hTl := reducedS_le l zk
  have CR := fun w (h : Rd w w.heap.size 3 (some ⟨lb, 0, none⟩) l.length (flat l)) => implReduced_any (some ⟨lb, 0, none⟩) l.length lc l zk w (by omega) hok h
  unfold TotsB at CR
  rw [hq] at CR
  by_cases h5 : zk = 5
  · subst h5
    clear hq
    generalize reducedS l 5 = T at *
    go_wp2_with fail
    refine (CR w5 L).mono ?_
    rintro e w6 ⟨ta, tc, rfl, hb, hO⟩
    replace B := B.trans (hb.mono B.size)
    replace L := (L.below hb (Nat.le_refl _)).more hb.size
    clear hb
    clear hO CR
    go_wp2_with fail
    go_ret
    exact ⟨rfl, B⟩
  obtain ⟨k, hk1', hk2⟩ : ∃ k : Nat, k ≤ l.length ∧ (k : Int) = (len : Int) % ((l.length : Int) + 1) := ⟨len % (l.length + 1), by have := Nat.mod_lt len (show 0 < l.length + 1 by omega); omega, by simp⟩
  have Hk := Lib.hid hk2
  have Hkn := Lib.hid (show len % (l.length + 1) = k by have h := hk2; exact (Int.ofNat.inj (by simpa using h)).symm)
  obtain ⟨r1, r2, b1, b2, e1, e2⟩ := pieces_ok k hok hq h5
  have hokA : ∀ r ∈ l.take k, r.Ok := fun r hr => hok r (List.mem_of_mem_take hr)
  have hokD : ∀ r ∈ l.drop k, r.Ok := fun r hr => hok r (List.mem_of_mem_drop hr)
  have hlA : (l.take k).length = k := by rw [List.length_take]; omega
  have hlD : (l.drop k).length = l.length - k := List.length_drop
  have wfA := reduced_ok hokA (by omega) zk
  have wfD := reduced_ok hokD (by omega) zk
  have lA := reducedS_le (l.take k) zk
  have lD := reducedS_le (l.drop k) zk
  have CA := fun (a : Option Addr) (c : Nat) w (h : Rd w w.heap.size 3 a k (flat (l.take k))) => implReduced_any a k c (l.take k) zk w (by omega) hokA h
  have CD := fun (a : Option Addr) (c : Nat) w (h : Rd w w.heap.size 3 a (l.length - k) (flat (l.drop k))) => implReduced_any a (l.length - k) c (l.drop k) zk w (by omega) hokD h
  unfold TotsB at CA CD
  rw [r1] at CA
  rw [r2] at CD
  generalize reducedS (l.take k) zk = TA at *
  generalize reducedS (l.drop k) zk = TD at *
  generalize reducedS l zk = T at *
  obtain ⟨na, hna⟩ : ∃ j, TA.length = j := ⟨_, rfl⟩
  obtain ⟨nd, hnd⟩ : ∃ j, TD.length = j := ⟨_, rfl⟩
  obtain ⟨nt, hnt⟩ : ∃ j, T.length = j := ⟨_, rfl⟩
  rw [hna] at CA lA
  rw [hnd] at CD lD
  rw [hnt] at CR hTl
  have C1 := fun (xa ya : Option Addr) (xc yc : Nat) w (h1 : Rd w w.heap.size 2 xa na (flatT TA)) (h2 : Rd w w.heap.size 2 ya nd (flatT TD)) => implComb_yes (N := zk) (nx := na) (ny := nd) b1 e1 hnt wfA wfD (by omega) (by omega) xa ya xc yc w h1 h2
  have C2 := fun (xa ya : Option Addr) (xc yc : Nat) w (h1 : Rd w w.heap.size 2 xa nd (flatT TD)) (h2 : Rd w w.heap.size 2 ya na (flatT TA)) => implComb_yes (N := zk) (nx := nd) (ny := na) b2 e2 hnt wfD wfA (by omega) (by omega) xa ya xc yc w h1 h2
  unfold TotsY at C1 C2
  have b5 : (zk == 5) = false := by rw [beq_eq_false_iff_ne]; exact h5
  clear r1 r2 b1 b2 e1 e2 hokA hokD hlA hlD wfA wfD hna hnd hnt hq hk2 hok h5
  go_wp2_with fail
  refine (CR w5 L).mono ?_
  rintro e w6 ⟨ta, tc, rfl, hb, hO⟩
  replace B := B.trans (hb.mono B.size)
  replace L := (L.below hb (Nat.le_refl _)).more hb.size
  clear hb
  have TT := Rd.of_own hO
  clear hO CR
  have hm1 : (l.length : Int) + 1 ≠ 0 := by omega
  have hd1 : 0 ≤ (len : Int) % ((l.length : Int) + 1) ∧ (len : Int) % ((l.length : Int) + 1) ≤ (lc : Int) := by rw [← Hk.out]; omega
  have hd2 : (len : Int) % ((l.length : Int) + 1) ≤ (l.length : Int) := by rw [← Hk.out]; omega
  go_wp2_with fail
  rw [Hkn.out]
  have RA := L.head hk1'
  refine (CA _ _ _ RA).mono ?_
  rintro e w7 ⟨aa, ac, rfl, hb, hO⟩
  replace B := B.trans (hb.mono B.size)
  replace L := (L.below hb (Nat.le_refl _)).more hb.size
  replace TT := (TT.below hb (Nat.le_refl _)).more hb.size
  clear hb
  have PA := Rd.of_own hO
  clear hO CA RA
  have RD := Rd.from_ (cap := lc) L hk1' hcap
  go_wp2_with fail
  all_goals
    rw [Hkn.out]
    rw [Hkn.out] at h
    refine (CD _ _ _ (by first | (rw [fromA, if_pos h] at RD; exact RD) | (rw [fromA, if_neg h] at RD; exact RD) | (rw [fromA, if_neg h] at RD; have e : (⟨lb, 0, none⟩ : Addr).add (k * 3) = ⟨lb, k * 3, none⟩ := by {unfold Addr.add; split <;> simp_all}; rw [Option.map_some, e] at RD; exact RD))).mono ?_
    rintro e w8 ⟨da, dc, rfl, hb, hO⟩
    clear RD
    clear L
    replace B := B.trans (hb.mono B.size)
    replace TT := (TT.below hb (Nat.le_refl _)).more hb.size
    replace PA := (PA.below hb (Nat.le_refl _)).more hb.size
    clear hb
    have PD := Rd.of_own hO
    clear hO CD
    go_wp2_with fail
    refine (C1 aa da ac dc w8 PA PD).mono ?_
    rintro e w9 ⟨ca, cc, rfl, hb, hO⟩
    replace B := B.trans (hb.mono B.size)
    replace TT := (TT.below hb (Nat.le_refl _)).more hb.size
    replace PA := (PA.below hb (Nat.le_refl _)).more hb.size
    replace PD := (PD.below hb (Nat.le_refl _)).more hb.size
    clear hb
    have PC := Rd.of_own hO
    clear hO C1
    go_wp2_with fail
    refine (C2 da aa dc ac w9 PD PA).mono ?_
    rintro e w10 ⟨ga, gc, rfl, hb, hO⟩
    replace B := B.trans (hb.mono B.size)
    replace TT := (TT.below hb (Nat.le_refl _)).more hb.size
    replace PA := (PA.below hb (Nat.le_refl _)).more hb.size
    replace PD := (PD.below hb (Nat.le_refl _)).more hb.size
    replace PC := (PC.below hb (Nat.le_refl _)).more hb.size
    clear hb
    have PG := Rd.of_own hO
    clear hO C2
    clear PA
    clear PD
    go_wp2_with fail
    refine (sameTotals_same ca ta nt cc tc T w10 (by omega) PC TT).mono ?_
    rintro e w11 ⟨rfl, hb⟩
    replace B := B.trans (hb.mono B.size)
    replace TT := (TT.below hb (Nat.le_refl _)).more hb.size
    replace PC := (PC.below hb (Nat.le_refl _)).more hb.size
    replace PG := (PG.below hb (Nat.le_refl _)).more hb.size
    clear hb
    go_wp2_with fail
    refine (sameTotals_same ga ta nt gc tc T w11 (by omega) PG TT).mono ?_
    rintro e w12 ⟨rfl, hb⟩
    replace B := B.trans (hb.mono B.size)
    replace TT := (TT.below hb (Nat.le_refl _)).more hb.size
    replace PC := (PC.below hb (Nat.le_refl _)).more hb.size
    replace PG := (PG.below hb (Nat.le_refl _)).more hb.size
    clear hb
    go_wp2_with fail
    go_ret
    exact ⟨rfl, B⟩
end Go.Proofs.Ytnmlnenepceabaa

namespace Go.Proofs.Ytnmlnenepceabaa
open Go.ChangeShapes Go.WideShapes Go.ChangeAt Go.RowKit Go.Joins
open Go.ChangeMaps (open_string shut_string)
namespace Combined

set_option maxRecDepth 100000 in
theorem lifted (os : Os) (started : os.Started) (H : Type) (enc : TypeId × Value → H) :
    ReturnsInHanded {} Try.checked os 11 .any (Rows.fnCombinedSpec.pre6 enc Try.prog Try.f11 Rows.fnCombinedRow.domain false) (Rows.fnCombinedSpec.post enc Try.prog Try.f11 false true false false) := by
  refine returnsInHanded_of_change (C := Try.checked) own started (by kernel_rfl) Try.func11
    (ChangeSpec.witness6 (enc := enc) (C := Try.checked) false ⟨#[], #[.slice none 0 0], []⟩ 8 (by kernel_rfl) (by kernel_rfl) (by kernel_rfl) (by kernel_rfl)) ?_
  intro W base args ds gs before hval0 hW _ _
  have hval : ∀ (j : Nat) t v, Try.f11.params[j]? = some t → args[j]? = some v → Value.okWide Try.prog W .any base t v := hval0
  have hW' := hW
  obtain ⟨p, q, hA0, hV, rfl, _, _⟩ := hW
  have hA : DataW.TrodAll enc Try.prog W 0 (fun _ => true) true Try.f11.params.toList args.toList ds p := hA0
  rw [Try.params11] at hA hval
  obtain ⟨v0, vs0, d0, ds0, p0, q0, hargs, rfl, rfl, h0, r0⟩ := trodAll_cons hA
  obtain ⟨rfl, rfl, rfl⟩ := trodAll_nil r0
  obtain rfl : args = #[v0] := by cases args; simp_all
  obtain ⟨rfl, rfl⟩ := trodVars_none hV
  have k0 := h0
  have lt0 : ∀ x ∈ p0, x.block < W.heap.size := by obtain ⟨m, hm⟩ := k0; exact DataW.trod_lt m _ _ _ hm
  obtain ⟨a0, len0, cap0, z0, rfl, w0⟩ := open_Bytes (hval 0 34 v0 rfl rfl) h0
  clear hA0 hval0
  refine (walk_Combined a0 len0 cap0 z0 W w0).mono fun e W' ⟨he, bel⟩ => ?_
  subst he
  exact ⟨_, rfl, _, _, _, [], _, [], hW', trodAll_mk1 (shut_bool Try.underlying4 _), (trodAll_cons_mk (Below.trod laidOut (by kernel_rfl) (of_decide_eq_true (by kernel_rfl)) k0 bel lt0) trodAll_mk0), rfl, bel.frame _, fun h => by cases h⟩

theorem over : Rows.fnCombinedRow.holds Try.pinned (OpenSpec.ofChange Rows.fnCombinedSpec) :=
  OpenClaim.holds_of_wide 11 Try.f11 rfl rfl rfl rfl rfl rfl rfl ⟨rfl, rfl, rfl, rfl, rfl⟩ rfl rfl rfl rfl rfl (by kernel_rfl) Try.func11 (by kernel_rfl)
    (of_decide_eq_true (by kernel_rfl)) (by unfold Func.isWrapper; first | (rw [if_pos (by decide +kernel)]; kernel_rfl) | (rw [if_neg (by decide +kernel)]; exact ⟨rfl, rfl⟩))
    (fun os started H enc _ => lifted os started H enc)
end Combined
theorem fnCombined_holds : Rows.FnCombinedSaid := Combined.over
end Go.Proofs.Ytnmlnenepceabaa
