/-
  Rows.FnFirstTwiceSaid: laws.FnFirstTwice returns true for every input, and each argument reads afterwards as it read before. No conditions.
-/
import Derived.Test.YtjhicjhgpbighaaPlain
import Derived.OwnWalkIn
import Derived.RangeFuncCalls
import Derived.Test.YtjhicjhgpbighaaLowB
import Derived.Test.YtjhicjhgpbighaaCollect
import Derived.Test.YtjhicjhgpbighaaSortedOkFns
import Derived.Test.YtjhicjhgpbighaaAppendAny
import Derived.Test.YtjhicjhgpbighaaJoinFns
import Derived.Test.YtjhicjhgpbighaaLowA
import Derived.Test.YtjhicjhgpbighaaOpen
namespace Go.Proofs.Ytjhicjhgpbighaa
open Go.RowKit
def noDefer (o : Oper) : Bool := match o.op with | .defer _ => false | _ => true
theorem noDefer_out {o : Oper} (h : noDefer o = true) : ∀ c, o.op ≠ .defer c := by
  intro c e
  unfold noDefer at h
  rw [e] at h
  cases h
theorem wpIn_round {P : Program} {l n : Nat} {o : Oper} {a : Act} {w : World} {K : Act → World → Prop} {Q : Exit → Act → World → Prop} (hd : noDefer o = true) (h : o.wp P a w K Q) : o.wpIn (Fence.wide.inRound l) n P a w K Q := by
  refine ⟨fun _ _ => trivial, ?_⟩
  rw [Oper.semAt_plain _ _ _ (noDefer_out hd)]
  unfold Oper.wp at h
  revert h
  generalize (execOp a.eval o).run P w = r
  intro h
  cases r with
  | ok x w' =>
    cases x with
    | value v => exact h
    | skip => exact h
    | defer d => exact h
    | enter f args => exact ⟨fun h => (by cases h), (callsIn_wide (n := n - 1)).2 h⟩
    | row r args => exact ⟨fun h => (by cases h), fun c cs _ => let ⟨v, w2, h1, h2⟩ := h c cs; ⟨v, w2, h1, stepsIn_wide.2 h2⟩⟩
    | _ => exact h.elim
  | halt x w' => cases x <;> first | exact h | exact h.elim
theorem wpOpsIn_round {P : Program} {l n : Nat} {ops : Array Oper} {Q : Exit → Act → World → Prop} (hd : ∀ o ∈ ops.toList, noDefer o = true) (hQ : ¬ LetsOut Q) : ∀ (is : List Nat) (a : Act) (w : World), wpOps P ops Q is a w → wpOpsIn (Fence.wide.inRound l) n P ops Q is a w := by
  intro is
  induction is with
  | nil => exact fun a w h => h
  | cons i is ih =>
    intro a w h
    unfold wpOps at h
    unfold wpOpsIn
    cases ho : ops[i]? with
    | none => rw [ho] at h; exact ih _ _ h
    | some o =>
      rw [ho] at h
      have hm : o ∈ ops.toList := by
        obtain ⟨hi, rfl⟩ := Array.getElem?_eq_some_iff.1 ho
        simp
      simp only at h ⊢
      split
      · rename_i hw
        rw [if_pos hw] at h
        rcases h with h | ⟨_, h⟩
        · exact wpIn_round (hd o hm) (Oper.wp_mono (fun a w h => ih a w h) h)
        · exact absurd h hQ
      · rename_i hw
        rw [if_neg hw] at h
        exact ⟨fun _ _ => trivial, ih _ _ h⟩
theorem wpIn_region_round {P : Program} {l n id : Nat} {ops : List Oper} {Q : Exit → Act → World → Prop} {a : Act} {w : World} (hm : P.follows .mixedOrders = true) (hd : ops.all noDefer = true) (hQ : ¬ LetsOut Q)
    (h : wpAny P .any ops.toArray Q ops.length (Array.replicate ops.length false) a w.drew) : (Code.region id ops.toArray true).wpIn (Fence.wide.inRound l) n P Q a w := by
  refine wpIn_region_draw fun t => ?_
  refine wpOpsIn_round (fun o ho => List.all_eq_true.1 hd o (by simpa using ho)) hQ _ _ _ ?_
  simp only [Region.schedule, hm, Bool.true_or, if_true]
  have := wpAny_sound ops.length t _ a _ h
  simpa [Region.linearise] using this
end Go.Proofs.Ytjhicjhgpbighaa

namespace Go.Proofs.Ytjhicjhgpbighaa
open Go.RowKit Go.Shelf
attribute [local go_sem] Oper.semAt_some
def firstB (rs : List RowV) (N : Int) : Bool := sortedOk rs && decide (0 ≤ N)
/-- The first rows of each group. -/
def firstL (N : Nat) (gs : List (ByteArray × List RowV)) : List RowV := gs.flatMap fun g => g.2.take N
def firstS (rs : List RowV) (N : Int) : List RowV := if firstB rs N = true then firstL N.toNat (groupsR rs) else []
theorem firstL_snoc (N : Nat) (gs : List (ByteArray × List RowV)) (g : ByteArray × List RowV) : firstL N (gs ++ [g]) = firstL N gs ++ g.2.take N := by simp [firstL]
theorem firstL_bound (N : Nat) {w : World} {B : Nat} : ∀ (l : List (GrpIn w B)), (firstL N (grpsOf l)).length ≤ l.length * 1048576
  | [] => by simp [firstL, grpsOf]
  | x :: l => by
    have h1 : x.1.rows.length = x.1.n := x.2.1.rows_length
    have h2 := x.2.2.2.1
    have ih := firstL_bound N l
    have e : (firstL N (grpsOf (x :: l))).length = (x.1.rows.take N).length + (firstL N (grpsOf l)).length := by simp [firstL, grpsOf]
    rw [e, List.length_take, List.length_cons]
    omega
theorem grps_snoc (N : Nat) {w : World} {B : Nat} (l : List (GrpIn w B)) (x : GrpIn w B) : firstL N (grpsOf (l ++ [x])) = firstL N (grpsOf l) ++ x.1.rows.take N := by
  unfold grpsOf
  rw [List.map_append]
  exact firstL_snoc N _ _
/-- A box and another beside an append behind a draw, and the store of what came. -/
theorem boxed_appended {W w1 : World} {n₀ B : Nat} {t e : TypeId} {size : Nat} {v v' : Value} {k m : Nat} {xs ys : List Value}
    (hv : Boxed W B t v) (hte : t ≠ e) (hrow : W.ownsRow n₀ e size v k xs) (hn₀ : n₀ ≤ W.heap.size) (hB : n₀ ≤ B)
    (hown' : w1.ownsRow n₀ e size v' m ys) (hgrow : W.drew.grownBy w1 v.ownBlock) :
    Boxed w1 B t v ∧ Boxed (w1.setCell ⟨B, 0, none⟩ v') B t v' ∧ (w1.setCell ⟨B, 0, none⟩ v').ownsRow n₀ e size v' m ys ∧ KeepsOthers W (w1.setCell ⟨B, 0, none⟩ v') ∧ Below n₀ W (w1.setCell ⟨B, 0, none⟩ v') := by
  have hv1 : Boxed w1 B t v := (show Boxed W.drew B t v from hv).kept hgrow (hv.not_row hte hrow)
  refine ⟨hv1, hv1.set v', hown'.kept (grownBy_setCell' w1 B v') (.inr (hv1.not_row hte hown').symm), ?_, ?_⟩
  · refine ((KeepsOthers.drew W).trans (KeepsOthers.of_grownBy hgrow fun j o ej hj => ?_)).trans (KeepsOthers.setCell _ _ _)
    rcases hrow.2 with ⟨rfl, _⟩ | ⟨g, cap, cur, rfl, _, hgb, _⟩
    · simp [Value.ownBlock] at ej
    · obtain rfl : g = j := by simpa [Value.ownBlock] using ej
      rw [show W.drew.heap = W.heap from rfl, hgb] at hj; cases hj; rfl
  · refine (((Below.refl n₀ W).drew).grown hgrow hn₀ fun j ej => ?_).setCell (p := ⟨B, 0, none⟩) hB v'
    rcases hrow.2 with ⟨rfl, _⟩ | ⟨g, cap, cur, rfl, hb, _, _⟩
    · simp [Value.ownBlock] at ej
    · obtain rfl : g = j := by simpa [Value.ownBlock] using ej
      exact hb
theorem flat_one0 (l : List RowV) : ∀ u ∈ flat l, u.oneCell' = true := by
  induction l with
  | nil => simp [flat]
  | cons r l ih =>
    intro u hu
    rw [flat_cons] at hu
    simp only [List.mem_cons] at hu
    rcases hu with rfl | rfl | rfl | hu
    · rfl
    · rfl
    · rfl
    · exact ih u hu
def FirstOfOut (rs : List RowV) (N : Int) (w : World) (e : Ending) (w' : World) : Prop :=
  ∃ b c, e = .returned (.tuple #[.slice b (firstS rs N).length c, .bool (firstB rs N)]) ∧ Below w.heap.size w w' ∧ w'.ownsRow w.heap.size 39 3 (.slice b (firstS rs N).length c) (firstS rs N).length (flat (firstS rs N))
set_option maxRecDepth 100000 in
set_option maxHeartbeats 4000000 in
theorem implFirstOf_yes (a : Option Addr) (n cap M : Nat) (rs : List RowV) (w : World) (hm : n ≤ 120) (hnc : n ≤ cap) (hok : ∀ r ∈ rs, r.Ok) (hR : Rd w w.heap.size 3 a n (flat rs)) (hs : sortedOk rs = true) :
    Calls Try.prog 12 #[.slice a n cap, .int .i64 M] w fun e w' => ∃ b c, e = .returned (.tuple #[.slice b (firstL M (groupsR rs)).length c, .bool true]) ∧ Below w.heap.size w w' ∧ w'.ownsRow w.heap.size 39 3 (.slice b (firstL M (groupsR rs)).length c) (firstL M (groupsR rs)).length (flat (firstL M (groupsR rs))) := by
  obtain ⟨i0, hi, hz0, hz1, hz2⟩ := info_parts infoRow
  have hb0 := bl1 w (.cells #[.int .i64 M] 2)
  have bN := Boxed.new w 2 (.int .i64 M)
  have C0 := implSortedOk_any a n cap rs _ (by omega) hok ((hR.below hb0 (Nat.le_refl _)).more hb0.size)
  rw [hs] at C0
  have CB := fun w => byKey_any a n cap w
  have hM0 : decide ((M : Int) < 0) = false := decide_eq_false (by omega)
  refine (callsIn_wide (n := 5)).1 ?_
  refine callsIn_of_wp_marks Try.func12 rfl trivial ?_ rfl
  simp only [Try.ntmps12, List.size_toArray, List.length_cons, List.length_nil, Nat.reduceAdd, Nat.reduceSub, Array.replicate_succ, Array.replicate_zero, List.push_toArray, List.append_toArray, List.nil_append, List.cons_append]
  gi_wp2_with fail
  refine ⟨trivial, ?_⟩
  refine (callsIn_wide.2 C0).mono ?_
  rintro e w1 ⟨rfl, hb1⟩
  have hb := hb0.trans (hb1.mono hb0.size)
  have n1 := (hb1.cell (p := ⟨w.heap.size, 0, none⟩) bN.lt).trans bN.cell
  have bN1 : Boxed w1 w.heap.size 2 (.int .i64 M) := (hb1.block _ bN.lt).trans bN
  have l1 := bN1.lt
  clear C0 hb0 hb1 bN
  have bF := Boxed.new w1 24 (.slice none 0 0)
  have bF2 := bl1 w1 (.cells #[.slice none 0 0] 24)
  gi_wp2_with fail
  refine ⟨trivial, ?_⟩
  refine (callsIn_wide.2 (CB _)).mono ?_
  rintro e w2 ⟨rfl, rfl⟩
  gi_wp2_with fail
  have hW0 := (hb.trans (bF2.mono hb.size)).alloc (by have := bF2.size; have := hb.size; omega) (.cells #[.slice a n cap] 24)
  have bF3 := bF.alloc (.cells #[.slice a n cap] 24)
  have bN2 := (bN1.alloc (.cells #[.slice none 0 0] 24)).alloc (.cells #[.slice a n cap] 24)
  have bC := Boxed.new (w1.alloc (.cells #[.slice none 0 0] 24)) 24 (.slice a n cap)
  rw [World.size_alloc] at bC
  have hR0 := hR.below hW0 (Nat.le_refl _)
  generalize hWe : ((w1.alloc (.cells #[.slice none 0 0] 24)).alloc (.cells #[.slice a n cap] 24)) = W0 at *
  have hsz : w.heap.size ≤ W0.heap.size := hW0.size
  have hl1 : w1.heap.size < W0.heap.size := bF3.lt
  clear hWe
  refine wpIn_rangeFunc_ownF rfl (by omega) (gf := 76) (lb := #[.pointer (some ⟨w1.heap.size + 1, 0, none⟩)]) rfl trivial (enters_of Try.func76 (by kernel_rfl) rfl)
    (byKey_stops _ (w1.heap.size + 1) w.heap.size a n cap rs (by omega) hnc W0 hsz bC.cell bC.lt hR0) belowK_t (belowK_b hsz) (Below.refl _ _) (fun _ => rfl)
    (fun (pre : List (GrpIn W0 w.heap.size)) W => ((∃ v, Boxed W w1.heap.size 24 v ∧ W.ownsRow w.heap.size 39 3 v (firstL M (grpsOf pre)).length (flat (firstL M (grpsOf pre))) ∧ True) ∧ Boxed W w.heap.size 2 (.int .i64 M)) ∧ Below w.heap.size W0 W)
    (fun _ _ _ => False)
    (OwnFrom.and (OwnFrom.and (Own.from (holdsRow_own w.heap.size w1.heap.size 24 39 3 (fun pre => (firstL M (grpsOf pre)).length) (fun pre => flat (firstL M (grpsOf pre))) (fun _ _ => True)) _) (Own.from (boxed_own _ _ _) _)) (ownFrom_below hsz hsz))
    (fun _ _ _ _ _ hs _ _ => hs)
    ⟨⟨⟨_, bF3, World.ownsRow_nil _ _ _ _, trivial⟩, bN2⟩, Below.refl _ _⟩
    (fun x => { tmps := #[.slice a n cap, .int .i64 M, undef, .pointer (some ⟨w.heap.size, 0, none⟩), .slice none 0 0, .bool false, .pointer (some ⟨w1.heap.size, 0, none⟩), undef, .slice x.1.a x.1.n x.1.c, .slice a n cap, .bool true, .bool false, .bool false, .int .i64 M, .bool false, .bool false, .slice a n cap, .func (.func 76) #[] #[.pointer (some ⟨w1.heap.size + 1, 0, none⟩)], .string x.1.key, .slice x.1.a x.1.n x.1.c, undef, undef, undef, undef, undef, undef, undef, undef, undef], defers := [] })
    ?assign ?body ?done ?stop
  case assign =>
    intro l x W K hK
    simp only [grpV] at *
    gi_wp2_with fail
    exact hK
  case body =>
    rintro l pre x W ⟨⟨⟨v, hv, hrow, _⟩, hN⟩, hB⟩ hlt
    have hEq0 := grps_snoc M pre x
    obtain ⟨⟨key, xa, xn, xc, rows⟩, hxp⟩ := x
    obtain ⟨hxR, hxc, hxb, xb, xo, hxe⟩ := id hxp
    dsimp only at hxR hxc hxb hxe hEq0 ⊢
    subst hxe
    have hc := hv.cell
    have hcN := hN.cell
    obtain ⟨q, hq1, hqe⟩ : ∃ q : Nat, min (M : Int) (xn : Int) = (q : Int) ∧ q = min M xn := ⟨min M xn, by omega, rfl⟩
    have hq6 : q ≤ xc := by omega
    have hq3 : (q : Int) ≤ (xc : Int) := by omega
    have hq4 : (0 : Int) ≤ (q : Int) := by omega
    have hq5 : (q : Int) ≤ (xn : Int) := by omega
    have hqn : q ≤ xn := by omega
    have hxl : rows.length = xn := hxR.rows_length
    have hxW : Rd W w.heap.size 3 (some ⟨xb, xo, none⟩) q (flat (rows.take q)) := (hxR.below hB (Nat.le_refl _)).head hqn
    have HQ := Lib.hid hqe
    have hTk : rows.take M = rows.take q := by
      rw [hqe]
      rcases Nat.le_total M xn with h | h
      · rw [Nat.min_eq_left h]
      · rw [Nat.min_eq_right h, List.take_of_length_le (by omega), List.take_of_length_le (by omega)]
    have hEq := Lib.hid (hEq0.trans (congrArg (firstL M (grpsOf pre) ++ ·) hTk))
    clear hEq0 hTk
    have hfl := firstL_bound M pre
    have hpl : pre.length ≤ 120 := by have := hR.rows_length; omega
    have hsW : w.heap.size ≤ W.heap.size := Nat.le_trans hsz hB.size
    clear hqe
    refine wpIn_block ?_
    refine wpIn_region_round (by kernel_rfl) (by rfl) (by rintro ⟨a, w, h⟩; exact h) ?_
    refine wpAny_take (i := 1) (v := .slice (some ⟨xb, xo, none⟩) xn xc) rfl (by kernel_rfl) (by kernel_rfl) (by kernel_rfl) (fun _ _ _ h => h) (Or.inl ⟨by rfl, fun w => by go_simp⟩) ?_
    refine wpAny_take (i := 3) (v := .slice (some ⟨xb, xo, none⟩) xn xc) rfl (by kernel_rfl) (by kernel_rfl) (by kernel_rfl) (fun _ _ _ h => h) (Or.inl ⟨by rfl, fun w => by go_simp⟩) ?_
    refine wpAny_take (i := 4) (v := .int .i64 (xn : Int)) rfl (by kernel_rfl) (by kernel_rfl) (by kernel_rfl) (fun _ _ _ h => h) (Or.inl ⟨by rfl, fun w => by go_simp⟩) ?_
    refine wpAny_ready (rs := [0, 2]) (by kernel_rfl) (by simp) ?_
    refine AllReady.cons rfl (fun K hK => ?_) ?_
    · go_simp
      refine hK _ _ ?_
      clear hK K
      refine wpAny_ready (rs := [2]) (by kernel_rfl) (by simp) ?_
      refine AllReady.cons rfl (fun K hK => ?_) AllReady.nil
      go_simp
      refine hK _ _ ?_
      clear hK K
      refine wpAny_take (i := 5) (v := .int .i64 (q : Int)) rfl (by kernel_rfl) (by kernel_rfl) (by kernel_rfl) (fun _ _ _ h => h) (Or.inl ⟨by rfl, fun w => by go_simp⟩) ?_
      refine wpAny_take (i := 6) (v := .slice (some ⟨xb, xo, none⟩) q xc) rfl (by kernel_rfl) (by kernel_rfl) (by kernel_rfl) (fun _ _ _ h => h) (Or.inl ⟨by rfl, fun w => by go_simp⟩) ?_
      refine wpAny_ready (rs := [7]) (by kernel_rfl) (by simp) ?_
      refine AllReady.cons rfl (fun K hK => ?_) AllReady.nil
      refine step_append_rd rfl _ _ 24 rfl w.heap.size 39 i0 (.agg #[.string ⟨#[]⟩, .int .i64 0, .string ⟨#[]⟩]) 3 40 Try.underlying24 hi hz0 hz1 hz2 rfl (by decide) v _ _ rfl (show W.drew.ownsRow _ _ _ _ _ _ from hrow) (some ⟨xb, xo, none⟩) w.heap.size q _ (flat (rows.take q)) rfl (show Rd W.drew _ _ _ _ _ from hxW) (flat_one0 _) (by unfold maxLen; omega) (by omega) hsW ?_
      intro v' w2 hown' hgrow hblk
      obtain ⟨vb, vc, rfl, _⟩ := own_slice2 hown'
      obtain ⟨hv1, hv2, hr2, hk2, hb2⟩ := boxed_appended hv (by decide) hrow hsW (by omega) hown' hgrow
      have hc1 := hv1.cell
      have hf1 := hv1.frozen
      refine hK _ _ ?_
      clear hK K
      refine wpAny_ready (rs := [8]) (by kernel_rfl) (by simp) ?_
      refine AllReady.cons rfl (fun K hK => ?_) AllReady.nil
      go_simp
      refine hK _ _ ?_
      clear hK K
      refine wpAny_done (by kernel_rfl) ?_ _
      exact ⟨hk2, hb2, ⟨⟨_, hv2, by rw [hEq.out, List.length_append, List.length_take, hxl, Nat.min_eq_left hqn, flat_append]; exact hr2, trivial⟩, ((show Boxed W.drew _ _ _ from hN).kept hgrow (hN.not_row (by decide) hrow)).other (by omega) _⟩, hB.trans hb2⟩
    · refine AllReady.cons rfl (fun K hK => ?_) AllReady.nil
      go_simp
      refine hK _ _ ?_
      clear hK K
      refine wpAny_take (i := 5) (v := .int .i64 (q : Int)) rfl (by kernel_rfl) (by kernel_rfl) (by kernel_rfl) (fun _ _ _ h => h) (Or.inl ⟨by rfl, fun w => by go_simp⟩) ?_
      refine wpAny_take (i := 6) (v := .slice (some ⟨xb, xo, none⟩) q xc) rfl (by kernel_rfl) (by kernel_rfl) (by kernel_rfl) (fun _ _ _ h => h) (Or.inl ⟨by rfl, fun w => by go_simp⟩) ?_
      refine wpAny_ready (rs := [0]) (by kernel_rfl) (by simp) ?_
      refine AllReady.cons rfl (fun K hK => ?_) AllReady.nil
      go_simp
      refine hK _ _ ?_
      clear hK K
      refine wpAny_ready (rs := [7]) (by kernel_rfl) (by simp) ?_
      refine AllReady.cons rfl (fun K hK => ?_) AllReady.nil
      refine step_append_rd rfl _ _ 24 rfl w.heap.size 39 i0 (.agg #[.string ⟨#[]⟩, .int .i64 0, .string ⟨#[]⟩]) 3 40 Try.underlying24 hi hz0 hz1 hz2 rfl (by decide) v _ _ rfl (show W.drew.ownsRow _ _ _ _ _ _ from hrow) (some ⟨xb, xo, none⟩) w.heap.size q _ (flat (rows.take q)) rfl (show Rd W.drew _ _ _ _ _ from hxW) (flat_one0 _) (by unfold maxLen; omega) (by omega) hsW ?_
      intro v' w2 hown' hgrow hblk
      obtain ⟨vb, vc, rfl, _⟩ := own_slice2 hown'
      obtain ⟨hv1, hv2, hr2, hk2, hb2⟩ := boxed_appended hv (by decide) hrow hsW (by omega) hown' hgrow
      have hc1 := hv1.cell
      have hf1 := hv1.frozen
      refine hK _ _ ?_
      clear hK K
      refine wpAny_ready (rs := [8]) (by kernel_rfl) (by simp) ?_
      refine AllReady.cons rfl (fun K hK => ?_) AllReady.nil
      go_simp
      refine hK _ _ ?_
      clear hK K
      refine wpAny_done (by kernel_rfl) ?_ _
      exact ⟨hk2, hb2, ⟨⟨_, hv2, by rw [hEq.out, List.length_append, List.length_take, hxl, Nat.min_eq_left hqn, flat_append]; exact hr2, trivial⟩, ((show Boxed W.drew _ _ _ from hN).kept hgrow (hN.not_row (by decide) hrow)).other (by omega) _⟩, hB.trans hb2⟩
  case done =>
    rintro D ys W hD hys ⟨⟨⟨v, hv, hrow, _⟩, hN⟩, hB⟩ hK
    obtain ⟨fb, fc, rfl, _⟩ := own_slice2 hrow
    have hc := hv.cell
    gi_wp2_with fail
    rw [hys] at hrow
    refine ⟨by simp, .inl ⟨_, _, rfl, run_takeDeferred hK, ?_⟩⟩
    exact ⟨_, results_tmp2 rfl _ _ _, fb, fc, by simp, (hW0.trans hB).trans (belowK_b (w := w) (Nat.le_refl _) W D _ _ (by omega) hK rfl rfl), ownsRow_putObj hrow _ hK rfl⟩
  case stop =>
    rintro D c pre W _ _ h _
    exact h.elim
set_option maxRecDepth 100000 in
set_option maxHeartbeats 1000000 in
theorem implFirstOf_no (a : Option Addr) (n cap : Nat) (N : Int) (rs : List RowV) (w : World) (hm : n ≤ 1048576) (hok : ∀ r ∈ rs, r.Ok) (hR : Rd w w.heap.size 3 a n (flat rs)) (hq : firstB rs N = false) :
    Calls Try.prog 12 #[.slice a n cap, .int .i64 N] w fun e w' => e = .returned (.tuple #[.slice none 0 0, .bool false]) ∧ Below w.heap.size w w' := by
  have hb0 := bl1 w (.cells #[.int .i64 N] 2)
  have bN := Boxed.new w 2 (.int .i64 N)
  have C0 := implSortedOk_any a n cap rs _ hm hok ((hR.below hb0 (Nat.le_refl _)).more hb0.size)
  unfold firstB at hq
  cases hs : sortedOk rs
  case false =>
    rw [hs] at C0
    clear hq hs
    go_enter Try.func12, Try.ntmps12
    go_wp2_with fail
    refine C0.mono ?_
    rintro e w1 ⟨rfl, hb⟩
    have hb' := hb0.trans (hb.mono hb0.size)
    go_wp2_with fail
    go_ret2
    exact ⟨rfl, hb'⟩
  rw [hs] at C0 hq
  have hN : N < 0 := by simpa using hq
  have hN0 : decide (N < 0) = true := decide_eq_true hN
  clear hq hs
  go_enter Try.func12, Try.ntmps12
  go_wp2_with fail
  refine C0.mono ?_
  rintro e w1 ⟨rfl, hb⟩
  have hb' := hb0.trans (hb.mono hb0.size)
  have n1 := (hb.cell (p := ⟨w.heap.size, 0, none⟩) bN.lt).trans bN.cell
  go_wp2_with fail
  go_ret2
  exact ⟨rfl, hb'⟩
theorem sortedOk_le4 {rs : List RowV} (h : sortedOk rs = true) : rs.length ≤ 120 := by
  unfold sortedOk at h
  rw [Bool.and_eq_true] at h
  have h1 := h.1
  unfold rowsOk at h1
  rw [Bool.and_eq_true] at h1
  exact of_decide_eq_true h1.1
theorem implFirstOf_any (a : Option Addr) (n cap : Nat) (rs : List RowV) (N : Int) (w : World) (hm : n ≤ 1048576) (hnc : n ≤ cap) (hok : ∀ r ∈ rs, r.Ok) (hR : Rd w w.heap.size 3 a n (flat rs)) :
    Calls Try.prog 12 #[.slice a n cap, .int .i64 N] w fun e w' => ∃ b c, e = .returned (.tuple #[.slice b (firstS rs N).length c, .bool (firstB rs N)]) ∧ Below w.heap.size w w' ∧ w'.ownsRow w.heap.size 39 3 (.slice b (firstS rs N).length c) (firstS rs N).length (flat (firstS rs N)) := by
  unfold firstS
  cases hq : firstB rs N
  case false =>
    refine (implFirstOf_no a n cap N rs w hm hok hR hq).mono ?_
    rintro e w' ⟨rfl, hb⟩
    exact ⟨none, 0, rfl, hb, World.ownsRow_nil _ _ _ _⟩
  have hq2 := hq
  unfold firstB at hq2
  rw [Bool.and_eq_true] at hq2
  have hN : 0 ≤ N := of_decide_eq_true hq2.2
  obtain ⟨M, rfl⟩ : ∃ M : Nat, N = (M : Int) := ⟨N.toNat, by omega⟩
  exact implFirstOf_yes a n cap M rs w (by have := hR.rows_length; have := sortedOk_le4 hq2.1; omega) hnc hok hR hq2.1
end Go.Proofs.Ytjhicjhgpbighaa

namespace Go.Proofs.Ytjhicjhgpbighaa
open Go.RowKit
theorem groups_flat : ∀ (n : Nat) (l : List RowV), l.length ≤ n → (groupsR l).flatMap (·.2) = l
  | _, [], _ => rfl
  | 0, _ :: _, h => by simp at h
  | n + 1, r :: l, h => by
    have hp := leadN_pos r l
    rw [groupsR_next, List.flatMap_cons, groups_flat n _ (by rw [List.length_drop]; rw [List.length_cons] at h ⊢; omega)]
    show leadL r.key (r :: l) ++ _ = _
    rw [← lead_take, List.take_append_drop]
theorem firstL_len (M : Nat) : ∀ G : List (ByteArray × List RowV), (firstL M G).length ≤ (G.flatMap (·.2)).length
  | [] => Nat.le_refl _
  | g :: G => by
    have ih := firstL_len M G
    have e : firstL M (g :: G) = g.2.take M ++ firstL M G := by simp [firstL]
    rw [e, List.flatMap_cons, List.length_append, List.length_append, List.length_take]
    omega
theorem firstL_take {M k : Nat} {G : List (ByteArray × List RowV)} {key : ByteArray} {rs : List RowV} (h : G[k]? = some (key, rs)) : firstL M (G.take (k + 1)) = firstL M (G.take k) ++ rs.take M := by
  rw [List.take_add_one, h, Option.toList_some, firstL_snoc]
theorem firstL_part (M k : Nat) (G : List (ByteArray × List RowV)) : (firstL M (G.take k)).length ≤ (firstL M G).length := by
  have e : firstL M G = firstL M (G.take k) ++ firstL M (G.drop k) := by
    unfold firstL
    rw [← List.flatMap_append, List.take_append_drop]
  rw [e, List.length_append]
  omega
theorem firstS_le (rs : List RowV) (N : Int) : (firstS rs N).length ≤ 1048576 := by
  unfold firstS
  split
  · rename_i h
    simp only [firstB, Bool.and_eq_true] at h
    have h1 := sortedOk_le4 h.1
    have h2 := firstL_len N.toNat (groupsR rs)
    rw [groups_flat _ rs (Nat.le_refl _)] at h2
    omega
  · exact Nat.zero_le _
theorem flat_oneF (l : List RowV) : ∀ u ∈ flat l, u.oneCell' = true := flat_one0 l
set_option maxRecDepth 100000 in
set_option maxHeartbeats 4000000 in
theorem specFirstOf_any (a : Option Addr) (n cap : Nat) (rs : List RowV) (N : Int) (w : World) (hm : n ≤ 1048576) (hok : ∀ r ∈ rs, r.Ok) (hR : Rd w w.heap.size 3 a n (flat rs)) :
    Calls Try.prog 13 #[.slice a n cap, .int .i64 N] w (FirstOfOut rs N w) := by
  have C0 := specSortedOk_any a n cap rs w hm hok hR
  unfold FirstOfOut
  cases hq : sortedOk rs
  case false =>
    rw [hq] at C0
    have E : firstB rs N = false := by unfold firstB; rw [hq]; rfl
    have E2 : firstS rs N = [] := by unfold firstS; rw [E]; rfl
    rw [E2, E]
    clear hq E E2
    go_enter Try.func13, Try.ntmps13
    go_wp2_with fail
    refine C0.mono ?_
    rintro e w1 ⟨rfl, hb⟩
    go_wp2_with fail
    go_ret2
    exact ⟨none, 0, rfl, hb, World.ownsRow_nil _ _ _ _⟩
  rw [hq] at C0
  cases hp : decide (0 ≤ N)
  case false =>
    have E : firstB rs N = false := by unfold firstB; rw [hp, Bool.and_false]
    have E2 : firstS rs N = [] := by unfold firstS; rw [E]; rfl
    rw [E2, E]
    have hN : decide (N < 0) = true := by simpa using hp
    clear hq E E2 hp
    go_enter Try.func13, Try.ntmps13
    go_wp2_with fail
    refine C0.mono ?_
    rintro e w1 ⟨rfl, hb⟩
    go_wp2_with fail
    go_ret2
    exact ⟨none, 0, rfl, hb, World.ownsRow_nil _ _ _ _⟩
  have hN1 : 0 ≤ N := by simpa using hp
  obtain ⟨M, rfl⟩ : ∃ M : Nat, N = (M : Int) := ⟨N.toNat, by omega⟩
  clear hN1
  have E : firstB rs M = true := by unfold firstB; rw [hp, hq]; rfl
  have E2 : firstS rs M = firstL M (groupsR rs) := by unfold firstS; rw [if_pos E]; rfl
  have hle := firstS_le rs M
  rw [E2] at hle
  rw [E2, E]
  have hM0 : decide ((M : Int) < 0) = false := decide_eq_false (by omega)
  have HP := Lib.hid (fun k => firstL_part M k (groupsR rs))
  generalize hT : firstL M (groupsR rs) = T
  have HT := Lib.hid hT
  rw [hT] at hle HP
  clear hq E E2 hp hT
  obtain ⟨i0, hi, hz0, hz1, hz2⟩ := info_parts infoRow
  go_enter Try.func13, Try.ntmps13
  go_wp2_with fail
  refine C0.mono ?_
  rintro e w1 ⟨rfl, hb⟩
  have hOn := World.ownsRow_lit (base := w1.heap.size) (e := 39) (size := 3) w1 #[] 0 (Nat.le_refl _) (Nat.zero_le _) rfl
  have hb1 := hb.trans ((bl1 w1 (.cells #[] 39)).mono hb.size)
  have H0 := Lib.hid (show (w1.alloc (.cells #[] 39)).heap.size = w1.heap.size + 1 by simp)
  have HZ := Lib.hid hb.size
  clear C0 hb
  go_wp2_with fail
  have R1 := (hR.below hb1 (Nat.le_refl _)).more hb1.size
  generalize w1.alloc (.cells #[] 39) = w2 at *
  refine (l4Groups_any a n cap rs w2 hm R1).mono ?_
  rintro e w3 ⟨ga, gc, gs, rfl, hb2, hG⟩
  have O1 := own_base' (own_below hOn hb2) HZ.out
  have B1 := hb1.trans (hb2.mono hb1.size)
  have G1 := GIn.of_own hG
  have s1 := hb2.size
  have A1 : Apart w2.heap.size w3.heap.size (.slice (some ⟨w1.heap.size, 0, none⟩) 0 0) := Apart.at_ (.inl (by have := H0.out; omega))
  have hgl : (groupsR rs).length ≤ 1048576 := by have := hG.len.2; have := groupsF_le rs.length rs; have := hR.rows_length; unfold groupsR; omega
  clear hG hOn hb1 hb2 R1 H0 hR
  generalize groupsR rs = G at *
  go_wp2_with fail
  obtain ⟨ng, hng⟩ : ∃ k, G.length = k := ⟨_, rfl⟩
  rw [hng] at hgl ⊢
  go_loopw [6, 8] (fun v i wr => ∃ (k q : Nat) (g : Option Addr) (c : Nat), k ≤ ng ∧ i = .int .i64 k ∧ v = .slice g q c ∧ q ≤ 1048576 ∧ Hid ((firstL M (G.take k)).length = q) ∧ wr.ownsRow w.heap.size 39 3 (.slice g q c) q (flat (firstL M (G.take k))) ∧ Below w.heap.size w wr ∧ GIn wr w2.heap.size w3.heap.size ga G ∧ Hid (Apart w2.heap.size w3.heap.size (.slice g q c)) ∧ w3.heap.size ≤ wr.heap.size) (fun _ j _ => ng - (intOf j).toNat)
  case atStart => exact ⟨0, 0, _, _, Nat.zero_le _, rfl, rfl, Nat.zero_le _, Lib.hid rfl, O1, B1, G1, Lib.hid A1, Nat.le_refl _⟩
  case round =>
    obtain ⟨k, q, g, c, hk, rfl, rfl, hq, HQ, hO, hb, hG, HA, hs⟩ := hrel
    clear O1 B1 G1 A1
    by_cases hlt : k < ng
    · obtain ⟨⟨key, xs⟩, hx⟩ : ∃ x, G[k]? = some x := ⟨_, List.getElem?_eq_getElem (by omega)⟩
      obtain ⟨b, ra, rc, rfl, h1, h2, _, c1, hxc, hxr⟩ := hG k key xs hx
      have E := Lib.hid (firstL_take (M := M) hx)
      obtain ⟨p, hp1, hp2⟩ : ∃ p : Nat, min (M : Int) (xs.length : Int) = (p : Int) ∧ p = min M xs.length := ⟨min M xs.length, by omega, rfl⟩
      have hTk : xs.take M = xs.take p := by
        rw [hp2]
        rcases Nat.le_total M xs.length with h | h
        · rw [Nat.min_eq_left h]
        · rw [Nat.min_eq_right h, List.take_of_length_le (by omega), List.take_of_length_le (by omega)]
      have hpx : p ≤ xs.length := by omega
      have HPL := Lib.hid (show (firstL M (G.take (k + 1))).length = q + p by rw [E.out, List.length_append, HQ.out, List.length_take]; omega)
      have hqp : q + p ≤ 1048576 := by have := HP.out (k + 1); rw [HPL.out] at this; omega
      have E3 := Lib.hid (show firstL M (G.take (k + 1)) = firstL M (G.take k) ++ xs.take p by rw [E.out, hTk])
      have hX : Rd wr.drew wr.drew.heap.size 3 ra p (flat (xs.take p)) := ((hxr.rd.more hs).head hpx)
      have hp3 : p ≤ rc := by omega
      have hp4 : (0 : Int) ≤ (p : Int) := by omega
      have hp5 : (p : Int) ≤ (rc : Int) := by omega
      have hl1 : q + p ≤ maxLen := by unfold maxLen; omega
      have hl2 : (q + p) * 40 ≤ 140737488355328 := by omega
      have hO' : wr.drew.ownsRow w.heap.size 39 3 (.slice g q c) q (flat (firstL M (G.take k))) := hO
      have hsd : w.heap.size ≤ wr.drew.heap.size := hb.size
      have c1' : wr.drew.cell? ⟨b, k * 2 + 1, none⟩ = some (.slice ra xs.length rc) := c1
      have HX := Lib.hid hX
      have HO := Lib.hid hO'
      have HB := Lib.hid hb.drew
      have HG := Lib.hid hG
      clear hx hp2 hTk hxr hX hO hO' hb hG E
      go_wp2_with fail
      go_region_law (refine step_append_rd rfl (.tmp 25) (.tmp 39) 24 rfl w.heap.size 39 i0 (.agg #[.string ⟨#[]⟩, .int .i64 0, .string ⟨#[]⟩]) 3 40 Try.underlying24 hi hz0 hz1 hz2 rfl (by decide) (.slice g q c) q _ rfl HO.out ra _ p rc (flat (xs.take p)) rfl HX.out (flat_oneF _) hl1 hl2 hsd ?_; intro v' w4 hO4 hg4 hat; obtain ⟨a4, c4, rfl⟩ := own_slice' hO4)
      all_goals
        have hb4 : Below w.heap.size w w4 := HB.out.grown hg4 hsd (fun q e => (own_ge HO.out q e).1)
        have hG4 := GIn.gb (show GIn wr.drew w2.heap.size w3.heap.size _ G from HG.out) hg4 hs HA.out
        have HA4 := Lib.hid (HA.out.next hat hs)
        have hs4 : w3.heap.size ≤ w4.heap.size := Nat.le_trans hs hg4.size
        have hO5 : w4.ownsRow w.heap.size 39 3 (.slice a4 (q + p) c4) (q + p) (flat (firstL M (G.take (k + 1)))) := by
          rw [E3.out, flat_append]; exact hO4
        clear hO4 hg4 hat HO HX HB HG HA HQ E3 c1' c1
        go_wp2_with fail
        go_roundw
        case rel => exact ⟨k + 1, q + p, a4, c4, by omega, by go_num, rfl, hqp, HPL, hO5, hb4, hG4, HA4, hs4⟩
        case measure => simp [intOf]; omega
    · obtain rfl : k = ng := by omega
      have e : G.take k = G := List.take_of_length_le (by omega)
      have hl := HQ.out
      rw [e, HT.out] at hO hl
      have HL := Lib.hid hl
      clear e hl HP HQ
      go_wp2_with fail
      go_ret2
      refine ⟨g, c, ?_, hb, ?_⟩
      · rw [HL.out]; rfl
      · rw [HL.out]; exact hO
end Go.Proofs.Ytjhicjhgpbighaa

namespace Go.Proofs.Ytjhicjhgpbighaa
open Go.RowKit
theorem rows_by_keys {g : ByteArray → List ByteArray → List PairV} (hg : ∀ k v, (g k v).length = v.length) : ∀ (K : List ByteArray) (l : List RowV), Rising K → (∀ r ∈ l, r.key ∈ K) → (K.flatMap fun k => g k (valsK l k)).length = l.length
  | [], l, _, h => by
    have : l = [] := List.eq_nil_iff_forall_not_mem.2 fun r hr => by have := h r hr; cases this
    subst this
    rfl
  | x :: K, l, hK, h => by
    obtain ⟨k1, k2⟩ := List.pairwise_cons.1 hK
    have hxK : x ∉ K := fun h => by have := k1 x h; rw [bl_irrefl] at this; cases this
    have ih := rows_by_keys hg K (l.filter fun r => !isKey x r) k2 (fun r hr => by
      rw [List.mem_filter] at hr
      refine (List.mem_cons.1 (h r hr.1)).resolve_left fun e => ?_
      rw [isKey_iff.2 e] at hr
      simp at hr)
    have e : (K.flatMap fun k => g k (valsK l k)) = K.flatMap fun k => g k (valsK (l.filter fun r => !isKey x r) k) := flatMap_congr' fun y hy => by
      have hne : y ≠ x := fun e => hxK (e ▸ hy)
      rw [valsK_rest hne]
    rw [List.flatMap_cons, List.length_append, e, ih, hg]
    unfold valsK
    rw [List.length_map]
    have : ∀ l : List RowV, (l.filter (isKey x)).length + (l.filter fun r => !isKey x r).length = l.length := by
      intro l
      induction l with
      | nil => rfl
      | cons r l ih2 => cases hr : isKey x r <;> simp [hr] <;> omega
    exact this l
theorem flatMap_len_le {α β γ : Type} {f : α → List β} {g : α → List γ} : ∀ {l : List α}, (∀ x ∈ l, (f x).length ≤ (g x).length) → (l.flatMap f).length ≤ (l.flatMap g).length
  | [], _ => by simp
  | x :: l, h => by
    have ih := flatMap_len_le (l := l) fun y hy => h y (List.mem_cons_of_mem _ hy)
    have := h x (List.mem_cons_self)
    rw [List.flatMap_cons, List.flatMap_cons, List.length_append, List.length_append]
    omega
theorem keys_all (a b : List RowV) : Rising (keysOf (sortL (a ++ b))) ∧ ∀ x, x ∈ keysOf (sortL (a ++ b)) ↔ (∃ r ∈ a, r.key = x) ∨ ∃ r ∈ b, r.key = x := by
  refine ⟨keysOf_rising (asc_keys (sortL_asc _)), fun x => ?_⟩
  rw [keysOf_mem]
  constructor
  · rintro ⟨r, hr, e⟩
    rw [(sortL_perm' _).mem_iff, List.mem_append] at hr
    rcases hr with hr | hr
    · exact .inl ⟨r, hr, e⟩
    · exact .inr ⟨r, hr, e⟩
  · rintro (⟨r, hr, e⟩ | ⟨r, hr, e⟩)
    · exact ⟨r, by rw [(sortL_perm' _).mem_iff, List.mem_append]; exact .inl hr, e⟩
    · exact ⟨r, by rw [(sortL_perm' _).mem_iff, List.mem_append]; exact .inr hr, e⟩
theorem keys_left (a b : List RowV) : ∀ r ∈ sortL a, r.key ∈ keysOf (sortL (a ++ b)) := fun r hr => ((keys_all a b).2 r.key).2 (.inl ⟨r, (sortL_perm' a).mem_iff.1 hr, rfl⟩)
/-- A row of the left side alone, for each. -/
def lonelyL (a b : List RowV) : List PairV := (keysOf (sortL (a ++ b))).flatMap fun key => (valsK (sortL a) key).map (leftP key)
theorem lonelyL_length (a b : List RowV) : (lonelyL a b).length = a.length := by
  have := rows_by_keys (g := fun k v => v.map (leftP k)) (by simp) (keysOf (sortL (a ++ b))) (sortL a) (keys_all a b).1 (keys_left a b)
  rw [sortL_length] at this
  exact this
theorem valsK_nil (key : ByteArray) : valsK (sortL []) key = [] := rfl
theorem flatMap_one {α β : Type} (f : α → β) (l : List α) : (l.flatMap fun x => [f x]) = l.map f := by
  induction l with
  | nil => rfl
  | cons x l ih => rw [List.flatMap_cons, ih]; rfl
theorem none_left {n : Int} (hn : n = 2 ∨ n = 4 ∨ n = 6) (a : List RowV) : l5J n a [] = lonelyL a [] := by
  unfold l5J lonelyL
  refine flatMap_congr' fun key _ => ?_
  rw [valsK_nil]
  rcases hn with rfl | rfl | rfl <;> simp [oneK, leftP, flatMap_one]
theorem none_none {n : Int} (hn : n = 1 ∨ n = 3 ∨ n = 5) (a : List RowV) : l5J n a [] = [] := by
  unfold l5J
  rw [List.flatMap_eq_nil_iff]
  intro key _
  rw [valsK_nil]
  rcases hn with rfl | rfl | rfl <;> simp [oneK]
theorem self_semi (a : List RowV) : l5J 5 a a = lonelyL a a := by
  unfold l5J lonelyL
  refine flatMap_congr' fun key _ => ?_
  cases h : valsK (sortL a) key with
  | nil => simp [oneK]
  | cons x l => simp [oneK, leftP, flatMap_one]
theorem self_anti (a : List RowV) : l5J 6 a a = [] := by
  unfold l5J
  rw [List.flatMap_eq_nil_iff]
  intro key _
  cases h : valsK (sortL a) key with
  | nil => simp [oneK]
  | cons x l => simp [oneK]
theorem self_full (a : List RowV) : l5J 4 a a = l5J 1 a a := by
  unfold l5J
  refine flatMap_congr' fun key _ => ?_
  cases h : valsK (sortL a) key with
  | nil => simp [oneK]
  | cons x l => simp [oneK]
theorem self_many (a : List RowV) : a.length ≤ (l5J 1 a a).length := by
  rw [← lonelyL_length a a]
  unfold l5J lonelyL
  refine flatMap_len_le fun key _ => ?_
  rw [List.length_map]
  generalize valsK (sortL a) key = v
  have h : ∀ u : List ByteArray, 0 < v.length → u.length ≤ (u.flatMap fun x => v.map fun y => (⟨key, x, y, true, true⟩ : PairV)).length := by
    intro u hv
    induction u with
    | nil => simp
    | cons x u ih =>
      rw [List.flatMap_cons, List.length_append, List.length_map, List.length_cons]
      omega
  rcases Nat.eq_zero_or_pos v.length with h0 | h0
  · omega
  · have := h v h0
    simpa [oneK] using this
end Go.Proofs.Ytjhicjhgpbighaa

namespace Go.Proofs.Ytjhicjhgpbighaa
open Go.RowKit
theorem flatMap_none {α β : Type} (l : List α) : (l.flatMap fun _ => ([] : List β)) = [] := by
  induction l with
  | nil => rfl
  | cons x l ih => rw [List.flatMap_cons, ih]; rfl
theorem filter_map_none {α β : Type} {q : β → Bool} {f : α → β} (h : ∀ x, q (f x) = false) (l : List α) : (l.map f).filter q = [] := by
  rw [List.filter_eq_nil_iff]
  intro x hx
  obtain ⟨y, _, rfl⟩ := List.mem_map.1 hx
  rw [h]; decide
theorem one_semi {key : ByteArray} {a b : List ByteArray} {p : PairV} (h : p ∈ oneK 5 key a b) : p.key = key ∧ b ≠ [] := by
  cases b with
  | nil => simp [oneK] at h
  | cons y b =>
    refine ⟨?_, by simp⟩
    simp [oneK] at h
    obtain ⟨x, _, rfl⟩ := h
    rfl
theorem one_anti {key : ByteArray} {a b : List ByteArray} {p : PairV} (h : p ∈ oneK 6 key a b) : p.key = key ∧ b = [] := by
  cases b with
  | nil =>
    refine ⟨?_, rfl⟩
    simp [oneK] at h
    obtain ⟨x, _, rfl⟩ := h
    rfl
  | cons y b => simp [oneK] at h
theorem semi_anti_keys {a b : List RowV} {p q : PairV} (hp : p ∈ l5J 5 a b) (hq : q ∈ l5J 6 a b) : (p.key.toList == q.key.toList) = false := by
  unfold l5J at hp hq
  obtain ⟨k, _, hk⟩ := List.mem_flatMap.1 hp
  obtain ⟨m, _, hm⟩ := List.mem_flatMap.1 hq
  obtain ⟨e1, h1⟩ := one_semi hk
  obtain ⟨e2, h2⟩ := one_anti hm
  rw [beq_eq_false_iff_ne]
  intro e
  have := ext_toList e
  rw [e1, e2] at this
  rw [this] at h1
  exact h1 h2
theorem flatMap_two {α β γ δ : Type} {f : α → List β} {g : α → List γ} {h : α → List δ} (hh : ∀ x, (f x).length + (g x).length = (h x).length) : ∀ l : List α, (l.flatMap f).length + (l.flatMap g).length = (l.flatMap h).length
  | [] => by simp
  | x :: l => by
    have ih := flatMap_two hh l
    have := hh x
    rw [List.flatMap_cons, List.flatMap_cons, List.flatMap_cons, List.length_append, List.length_append, List.length_append]
    omega
theorem semi_anti_length (a b : List RowV) : (l5J 5 a b).length + (l5J 6 a b).length = a.length := by
  rw [← lonelyL_length a b]
  unfold l5J lonelyL
  refine flatMap_two (fun key => ?_) _
  cases valsK (sortL b) key with
  | nil =>
    have e1 : oneK 5 key (valsK (sortL a) key) [] = [] := by simp only [oneK]; simp [flatMap_none]
    have e2 : oneK 6 key (valsK (sortL a) key) [] = (valsK (sortL a) key).map (leftP key) := by simp only [oneK]; simp [flatMap_one, leftP]
    rw [e1, e2]; simp
  | cons y l =>
    have e1 : oneK 6 key (valsK (sortL a) key) (y :: l) = [] := by simp only [oneK]; simp [flatMap_none]
    have e2 : oneK 5 key (valsK (sortL a) key) (y :: l) = (valsK (sortL a) key).map (leftP key) := by simp only [oneK]; simp [flatMap_one, leftP]
    rw [e1, e2]; simp
theorem one_left {key : ByteArray} (a b : List ByteArray) : (oneK 2 key a b).filter (fun p => !p.hr) = oneK 6 key a b := by
  cases b with
  | nil =>
    simp only [oneK]
    simp [flatMap_one]
  | cons y b =>
    have e2 : oneK 6 key a (y :: b) = [] := by simp only [oneK]; simp [flatMap_none]
    have e1 : oneK 2 key a (y :: b) = a.flatMap fun x => (y :: b).map (bothP key x) := by simp only [oneK]; simp; rfl
    rw [e1, e2, List.filter_flatMap]
    have : ∀ x, ((y :: b).map (bothP key x)).filter (fun p => !p.hr) = [] := fun x => filter_map_none (fun _ => rfl) _
    simp only [this]
    exact flatMap_none a
theorem left_anti (a b : List RowV) : (l5J 2 a b).filter (fun p => !p.hr) = l5J 6 a b := by
  unfold l5J
  rw [List.filter_flatMap]
  exact flatMap_congr' fun key _ => one_left _ _
/-- How many of the first i are left alone. -/
def aloneN (l : List PairV) (i : Nat) : Nat := (l.take i).countP fun p => !p.hr
theorem aloneN_zero (l : List PairV) : aloneN l 0 = 0 := rfl
theorem aloneN_yes {l : List PairV} {i : Nat} {p : PairV} (h : l[i]? = some p) (hr : p.hr = false) : aloneN l (i + 1) = aloneN l i + 1 := by
  unfold aloneN
  rw [List.take_add_one, h, Option.toList_some, List.countP_append]
  simp [hr]
theorem aloneN_no {l : List PairV} {i : Nat} {p : PairV} (h : l[i]? = some p) (hr : p.hr = true) : aloneN l (i + 1) = aloneN l i := by
  unfold aloneN
  rw [List.take_add_one, h, Option.toList_some, List.countP_append]
  simp [hr]
theorem alone_at {l : List PairV} {i : Nat} {p : PairV} (h : l[i]? = some p) (hr : p.hr = false) : (l.filter fun p => !p.hr)[aloneN l i]? = some p := by
  obtain ⟨hi, e⟩ := List.getElem?_eq_some_iff.1 h
  have hs : l = l.take i ++ p :: l.drop (i + 1) := by
    rw [← e, ← List.drop_eq_getElem_cons hi, List.take_append_drop]
  unfold aloneN
  rw [List.countP_eq_length_filter]
  have e2 : (l.filter fun p => !p.hr) = ((l.take i).filter fun p => !p.hr) ++ p :: ((l.drop (i + 1)).filter fun p => !p.hr) := by
    have e3 := congrArg (List.filter fun p : PairV => !p.hr) hs
    rw [List.filter_append, List.filter_cons_of_pos (by simp [hr])] at e3
    exact e3
  rw [e2, List.getElem?_append_right (Nat.le_refl _), Nat.sub_self]
  rfl
theorem aloneN_all {l : List PairV} {i : Nat} (h : l.length ≤ i) : aloneN l i = (l.filter fun p => !p.hr).length := by
  unfold aloneN
  rw [List.take_of_length_le h, List.countP_eq_length_filter]
theorem aloneN_le (l : List PairV) (i : Nat) : aloneN l i ≤ i := by
  unfold aloneN
  have := List.countP_le_length (p := fun p : PairV => !p.hr) (l := l.take i)
  rw [List.length_take] at this
  omega
end Go.Proofs.Ytjhicjhgpbighaa

namespace Go.Proofs.Ytjhicjhgpbighaa
open Go.RowKit
theorem rising_sublist : ∀ {K L : List ByteArray}, Rising K → Rising L → (∀ x ∈ K, x ∈ L) → K.Sublist L
  | [], L, _, _, _ => List.nil_sublist L
  | k :: K, [], _, _, h => by have := h k (List.mem_cons_self); cases this
  | k :: K, y :: L, hK, hL, h => by
    obtain ⟨k1, k2⟩ := List.pairwise_cons.1 hK
    obtain ⟨l1, l2⟩ := List.pairwise_cons.1 hL
    by_cases e : k = y
    · subst e
      refine List.Sublist.cons_cons _ (rising_sublist k2 l2 fun x hx => ?_)
      refine (List.mem_cons.1 (h x (List.mem_cons_of_mem _ hx))).resolve_left fun e => ?_
      subst e
      have := k1 x hx
      rw [bl_irrefl] at this; cases this
    · refine List.Sublist.cons _ (rising_sublist hK l2 fun x hx => ?_)
      refine (List.mem_cons.1 (h x hx)).resolve_left fun e2 => ?_
      subst e2
      have hk : k ∈ L := (List.mem_cons.1 (h k (List.mem_cons_self))).resolve_left e
      have h1 := l1 k hk
      rcases List.mem_cons.1 hx with e3 | hx
      · exact e e3.symm
      · have h2 := k1 x hx
        rw [bl_asymm h1] at h2; cases h2
theorem flatMap_sub {α β : Type} {f g : α → List β} (h : ∀ x, (f x).Sublist (g x)) : ∀ l : List α, (l.flatMap f).Sublist (l.flatMap g)
  | [] => List.Sublist.refl _
  | x :: l => by
    rw [List.flatMap_cons, List.flatMap_cons]
    exact (h x).append (flatMap_sub h l)
theorem sub_flatMap {α β : Type} (f : α → List β) : ∀ {k l : List α}, k.Sublist l → (k.flatMap f).Sublist (l.flatMap f)
  | _, _, .slnil => List.Sublist.refl _
  | _, _, .cons x h => by
    rw [List.flatMap_cons]
    exact (sub_flatMap f h).trans (List.sublist_append_right _ _)
  | _, _, .cons_cons x h => by
    rw [List.flatMap_cons, List.flatMap_cons]
    exact (List.Sublist.refl _).append (sub_flatMap f h)
theorem ins_sub (r : RowV) (l : List RowV) : l.Sublist (ins r l) := by
  unfold ins
  have h : (l.take (insPos r l) ++ l.drop (insPos r l)).Sublist (l.take (insPos r l) ++ [r] ++ l.drop (insPos r l)) :=
    (List.sublist_append_left _ _).append (List.Sublist.refl _)
  rwa [List.take_append_drop] at h
theorem vals_sub (b : List RowV) (r : RowV) (key : ByteArray) : (valsK (sortL b) key).Sublist (valsK (sortL (b ++ [r])) key) := by
  rw [sortL_snoc]
  unfold valsK
  exact ((ins_sub r (sortL b)).filter _).map _
theorem keys_sub (a b : List RowV) (r : RowV) : (keysOf (sortL (a ++ b))).Sublist (keysOf (sortL (a ++ (b ++ [r])))) := by
  refine rising_sublist (keys_all a b).1 (keys_all a (b ++ [r])).1 fun x hx => ?_
  rw [(keys_all a (b ++ [r])).2]
  rcases ((keys_all a b).2 x).1 hx with h | ⟨q, hq, e⟩
  · exact .inl h
  · exact .inr ⟨q, List.mem_append_left _ hq, e⟩
theorem join_sub {n : Int} (hn : ∀ key (v u u' : List ByteArray), u.Sublist u' → (oneK n key v u).Sublist (oneK n key v u')) (a b : List RowV) (r : RowV) : (l5J n a b).Sublist (l5J n a (b ++ [r])) := by
  unfold l5J
  exact (sub_flatMap _ (keys_sub a b r)).trans (flatMap_sub (fun key => hn key _ _ _ (vals_sub b r key)) _)
theorem one_inner (key : ByteArray) (v u : List ByteArray) : oneK 1 key v u = v.flatMap fun x => u.map (bothP key x) := by
  simp only [oneK]; simp; rfl
theorem one_semi_of (key : ByteArray) (v u : List ByteArray) : oneK 5 key v u = if u.length = 0 then [] else v.map (leftP key) := by
  cases u with
  | nil => simp only [oneK]; simp [flatMap_none]
  | cons y u => simp only [oneK]; simp [flatMap_one, leftP]
theorem inner_sub (a b : List RowV) (r : RowV) : (l5J 1 a b).Sublist (l5J 1 a (b ++ [r])) := by
  refine join_sub (fun key v u u' h => ?_) a b r
  rw [one_inner, one_inner]
  exact flatMap_sub (fun x => h.map _) v
theorem anti_less (a b : List RowV) (r : RowV) : (l5J 6 a (b ++ [r])).length ≤ (l5J 6 a b).length := by
  have h : (l5J 5 a b).Sublist (l5J 5 a (b ++ [r])) := by
    refine join_sub (fun key v u u' h => ?_) a b r
    rw [one_semi_of, one_semi_of]
    have hl := h.length_le
    split
    · exact List.nil_sublist _
    · rw [if_neg (by omega)]
      exact List.Sublist.refl _
  have h1 := h.length_le
  have h2 := semi_anti_length a b
  have h3 := semi_anti_length a (b ++ [r])
  omega
/-- One step of finding one list in another. -/
theorem sub_step {x y : PairV} {l f : List PairV} (h : (y :: f).Sublist (x :: l)) : (x = y → f.Sublist l) ∧ (x ≠ y → (y :: f).Sublist l) := by
  constructor
  · rintro rfl
    exact List.cons_sublist_cons.1 h
  · intro hne
    cases h with
    | cons _ h => exact h
    | cons_cons _ h => exact absurd rfl hne
end Go.Proofs.Ytjhicjhgpbighaa

namespace Go.Proofs.Ytjhicjhgpbighaa
open Go.RowKit
theorem filter_sorted5 (l : List RowV) (p : RowV → Bool) : (sortL l).filter p = sortL (l.filter p) :=
  sortL_unique (List.Pairwise.sublist List.filter_sublist (sortL_asc l)) ((sortL_perm' l).filter p)
theorem rising_eq {K L : List ByteArray} (hK : Rising K) (hL : Rising L) (h : ∀ x, x ∈ K ↔ x ∈ L) : K = L :=
  (rising_sublist hK hL fun x hx => (h x).1 hx).eq_of_length_le (rising_sublist hL hK fun x hx => (h x).2 hx).length_le
theorem flatMap_filter_none {α β : Type} {f : α → List β} {q : α → Bool} (h : ∀ x, q x = false → f x = []) : ∀ l : List α, l.flatMap f = (l.filter q).flatMap f
  | [] => rfl
  | x :: l => by
    have ih := flatMap_filter_none h l
    cases hq : q x
    · rw [List.flatMap_cons, h x hq, List.filter_cons_of_neg (by rw [hq]; decide), ih]; rfl
    · rw [List.flatMap_cons, List.filter_cons_of_pos hq, List.flatMap_cons, ih]
theorem valsK_mem {l : List RowV} {key : ByteArray} : valsK l key ≠ [] ↔ ∃ r ∈ l, r.key = key := by
  unfold valsK
  rw [Ne, List.map_eq_nil_iff, List.filter_eq_nil_iff]
  constructor
  · intro h
    have h' : ∃ r, r ∈ l ∧ isKey key r = true := by
      apply Classical.byContradiction
      intro h2
      exact h fun r hr hk => h2 ⟨r, hr, hk⟩
    obtain ⟨r, hr, hk⟩ := h'
    exact ⟨r, hr, isKey_iff.1 hk⟩
  · rintro ⟨r, hr, e⟩ h
    exact h r hr (isKey_iff.2 e)
/-- A join that tells nothing of a key that the right side lacks goes by the keys of the right side. -/
theorem by_right {n : Int} (hn : ∀ key v, oneK n key v [] = []) (a b : List RowV) : l5J n a b = (keysOf (sortL b)).flatMap fun key => oneK n key (valsK (sortL a) key) (valsK (sortL b) key) := by
  unfold l5J
  rw [flatMap_filter_none (q := fun key => !(valsK (sortL b) key).isEmpty) (fun key h => by
    have : valsK (sortL b) key = [] := by simpa using h
    rw [this]; exact hn _ _)]
  congr 1
  refine rising_eq (List.Pairwise.filter _ (keys_all a b).1) (keysOf_rising (asc_keys (sortL_asc b))) fun x => ?_
  rw [List.mem_filter, (keys_all a b).2, keysOf_mem]
  have e : (!(valsK (sortL b) x).isEmpty) = true ↔ ∃ r ∈ sortL b, r.key = x := by
    rw [← valsK_mem]; simp
  rw [e]
  constructor
  · exact fun h => h.2
  · rintro ⟨r, hr, hk⟩
    exact ⟨.inr ⟨r, (sortL_perm' b).mem_iff.1 hr, hk⟩, r, hr, hk⟩
theorem join_passed {n : Int} (hn : ∀ key v, oneK n key v [] = []) {a b : List RowV} {p : RowV → Bool} (hp : ∀ r ∈ a, (∃ q ∈ b, q.key = r.key) → p r = true) : l5J n (a.filter p) b = l5J n a b := by
  rw [by_right hn, by_right hn]
  refine flatMap_congr' fun key hkey => ?_
  obtain ⟨q, hq, e⟩ := (keysOf_mem _ _).1 hkey
  have hv : valsK (sortL (a.filter p)) key = valsK (sortL a) key := by
    rw [← filter_sorted5]
    unfold valsK
    rw [List.filter_filter]
    congr 1
    refine List.filter_congr fun r hr => ?_
    cases hk : isKey key r
    · rfl
    · rw [hp r ((sortL_perm' a).mem_iff.1 hr) ⟨q, (sortL_perm' b).mem_iff.1 hq, by rw [e, isKey_iff.1 hk]⟩]; rfl
  rw [hv]
theorem inner_none (key : ByteArray) (v : List ByteArray) : oneK 1 key v [] = [] := by
  rw [one_inner]
  exact flatMap_none v
theorem semi_none (key : ByteArray) (v : List ByteArray) : oneK 5 key v [] = [] := by
  rw [one_semi_of]; rfl
end Go.Proofs.Ytjhicjhgpbighaa

namespace Go.Proofs.Ytjhicjhgpbighaa
open Go.RowKit
theorem groups_of : ∀ (n : Nat) (l : List RowV), l.length ≤ n → KAsc l →
    (∀ g ∈ groupsR l, g.2 = l.filter (isKey g.1) ∧ ∃ r ∈ l, r.key = g.1) ∧ Rising ((groupsR l).map (·.1)) ∧ ∀ r ∈ l, r.key ∈ (groupsR l).map (·.1)
  | _, [], _, _ => ⟨fun g hg => by simp [groupsR_nil] at hg, List.Pairwise.nil, fun r hr => by cases hr⟩
  | 0, _ :: _, h, _ => by simp at h
  | n + 1, r :: l, h, ha => by
    have hge : ∀ x ∈ r :: l, Op.bytesLess x.key.toList r.key.toList = false := by
      intro x hx
      rcases List.mem_cons.1 hx with rfl | hx
      · exact bl_irrefl _
      · exact (List.pairwise_cons.1 ha).1 x hx
    obtain ⟨h1, h2⟩ := lead_filter ha hge
    have hp := leadN_pos r l
    have hl2 : ((r :: l).drop (leadN r.key (r :: l))).length ≤ n := by
      rw [List.length_drop]
      rw [List.length_cons] at h ⊢
      omega
    obtain ⟨g1, g2, g3⟩ := groups_of n _ hl2 (ha.drop _)
    rw [groupsR_next, h1]
    generalize hd : (r :: l).drop (leadN r.key (r :: l)) = d at *
    have hne : ∀ x ∈ d, x.key ≠ r.key := by
      intro x hx e
      rw [h2, List.mem_filter] at hx
      have := isKey_iff.2 e
      rw [this] at hx
      exact absurd hx.2 (by decide)
    refine ⟨?_, ?_, ?_⟩
    · intro g hg
      rcases List.mem_cons.1 hg with rfl | hg
      · exact ⟨rfl, r, List.mem_cons_self, rfl⟩
      · obtain ⟨e1, x, hx, e2⟩ := g1 g hg
        have hgk : g.1 ≠ r.key := by rw [← e2]; exact hne x hx
        refine ⟨?_, x, ?_, e2⟩
        · rw [e1, h2, List.filter_filter]
          refine List.filter_congr fun y _ => ?_
          cases e : isKey g.1 y
          · rfl
          · have e3 := isKey_iff.1 e
            have : isKey r.key y = false := by
              cases e4 : isKey r.key y
              · rfl
              · exact absurd ((e3.symm.trans (isKey_iff.1 e4))) hgk
            rw [this]; rfl
        · rw [h2, List.mem_filter] at hx
          exact hx.1
    · rw [List.map_cons]
      refine List.pairwise_cons.2 ⟨?_, g2⟩
      intro k hk
      obtain ⟨g, hg, rfl⟩ := List.mem_map.1 hk
      obtain ⟨_, x, hx, e2⟩ := g1 g hg
      show Op.bytesLess r.key.toList g.1.toList = true
      rw [← e2]
      have hxm : x ∈ r :: l := by
        rw [h2, List.mem_filter] at hx
        exact hx.1
      rcases bl_total (hge x hxm) with e3 | e3
      · exact absurd (ext_toList e3).symm (by first | exact hne x hx | exact fun e => hne x hx e.symm)
      · exact e3
    · intro x hx
      rw [List.map_cons]
      by_cases e : x.key = r.key
      · rw [e]; exact List.mem_cons_self
      · refine List.mem_cons_of_mem _ (g3 x ?_)
        rw [h2, List.mem_filter]
        refine ⟨hx, ?_⟩
        cases e4 : isKey r.key x
        · rfl
        · exact absurd (isKey_iff.1 e4) e
theorem groups_keys {l : List RowV} (h : KAsc l) : (groupsR l).map (·.1) = keysOf l := by
  obtain ⟨h1, h2, h3⟩ := groups_of _ l (Nat.le_refl _) h
  refine rising_eq h2 (keysOf_rising h) fun x => ?_
  rw [keysOf_mem]
  constructor
  · intro hx
    obtain ⟨g, hg, rfl⟩ := List.mem_map.1 hx
    exact (h1 g hg).2
  · rintro ⟨r, hr, rfl⟩
    exact h3 r hr
/-- How many rows have a key. -/
def manyK (l : List RowV) (key : ByteArray) : Nat := l.countP (isKey key)
theorem manyK_le (l : List RowV) (key : ByteArray) : manyK l key ≤ l.length := List.countP_le_length
theorem groups_many {l : List RowV} (h : KAsc l) : ∀ g ∈ groupsR l, g.2.length = manyK l g.1 := by
  intro g hg
  rw [((groups_of _ l (Nat.le_refl _) h).1 g hg).1, manyK, List.countP_eq_length_filter]
/-- The keys of more than so many rows: of groups, and of keys. -/
def skewG (M : Nat) (gs : List (ByteArray × List RowV)) : List ByteArray := (gs.filter fun g => decide (M < g.2.length)).map (·.1)
def skewK (M : Nat) (rs : List RowV) (K : List ByteArray) : List ByteArray := K.filter fun k => decide (M < manyK rs k)
theorem filter_map_congr {α β : Type} {f : α → β} {p : α → Bool} {q : β → Bool} : ∀ {l : List α}, (∀ x ∈ l, p x = q (f x)) → (l.filter p).map f = (l.map f).filter q
  | [], _ => rfl
  | x :: l, h => by
    have ih := filter_map_congr (l := l) (fun y hy => h y (List.mem_cons_of_mem _ hy))
    have hx := h x List.mem_cons_self
    rw [List.map_cons, List.filter_cons, List.filter_cons, ← hx]
    cases p x
    · exact ih
    · rw [if_pos rfl, if_pos rfl, List.map_cons, ih]
theorem many_sort (rs : List RowV) (k : ByteArray) : manyK (sortL rs) k = manyK rs k := (sortL_perm' rs).countP_eq _
theorem skew_same (M : Nat) (rs : List RowV) : skewG M (groupsR (sortL rs)) = skewK M rs (keysOf (sortL rs)) := by
  have ha : KAsc (sortL rs) := asc_keys (sortL_asc rs)
  unfold skewG skewK
  rw [← groups_keys ha]
  refine filter_map_congr fun g hg => ?_
  rw [groups_many ha g hg, many_sort]
theorem skewG_snoc (M : Nat) (gs : List (ByteArray × List RowV)) (g : ByteArray × List RowV) : skewG M (gs ++ [g]) = skewG M gs ++ (if M < g.2.length then [g.1] else []) := by
  unfold skewG
  rw [List.filter_append, List.map_append]
  congr 1
  by_cases h : M < g.2.length
  · rw [if_pos h]; simp [h]
  · rw [if_neg h]; simp [h]
theorem skewG_le (M : Nat) (gs : List (ByteArray × List RowV)) : (skewG M gs).length ≤ gs.length := by
  unfold skewG
  rw [List.length_map]
  exact List.length_filter_le _ _
theorem skewK_take {M : Nat} {rs : List RowV} {K : List ByteArray} {i : Nat} {k : ByteArray} (h : K[i]? = some k) : skewK M rs (K.take (i + 1)) = skewK M rs (K.take i) ++ (if M < manyK rs k then [k] else []) := by
  rw [List.take_add_one, h, Option.toList_some]
  unfold skewK
  rw [List.filter_append]
  congr 1
  by_cases h : M < manyK rs k
  · rw [if_pos h]; simp [h]
  · rw [if_neg h]; simp [h]
theorem skewK_le (M : Nat) (rs : List RowV) (K : List ByteArray) : (skewK M rs K).length ≤ K.length := List.length_filter_le _ _
theorem manyK_take {l : List RowV} {i : Nat} {r : RowV} {key : ByteArray} (h : l[i]? = some r) : manyK (l.take (i + 1)) key = manyK (l.take i) key + (if isKey key r = true then 1 else 0) := by
  rw [List.take_add_one, h, Option.toList_some]
  unfold manyK
  rw [List.countP_append, List.countP_singleton]
def skewedB (rs : List RowV) (N : Int) : Bool := rowsOk rs && decide (0 ≤ N)
def skewedS (rs : List RowV) (N : Int) : List ByteArray := if skewedB rs N = true then skewK N.toNat rs (keysOf (sortL rs)) else []
theorem skewedS_le (rs : List RowV) (N : Int) : (skewedS rs N).length ≤ 1048576 := by
  unfold skewedS
  split
  · rename_i h
    simp only [skewedB, Bool.and_eq_true] at h
    have h1 := rowsOk_le5 h.1
    have h2 := skewK_le N.toNat rs (keysOf (sortL rs))
    have h3 := keysOf_le (sortL rs)
    rw [sortL_length] at h3
    omega
  · exact Nat.zero_le _
end Go.Proofs.Ytjhicjhgpbighaa

namespace Go.Proofs.Ytjhicjhgpbighaa
open Go.RowKit
theorem groups_eqF {X : List RowV} (h : KAsc X) : groupsR X = (keysOf X).map fun k => (k, X.filter (isKey k)) := by
  obtain ⟨h1, _, _⟩ := groups_of _ X (Nat.le_refl _) h
  rw [← groups_keys h, List.map_map]
  have e : (groupsR X).map id = (groupsR X).map ((fun k => (k, X.filter (isKey k))) ∘ fun x => x.1) := by
    refine List.map_congr_left fun g hg => ?_
    show g = (g.1, X.filter (isKey g.1))
    rw [← (h1 g hg).1]
  rw [List.map_id] at e
  exact e
theorem flat_groups : ∀ (n : Nat) (l : List RowV), l.length ≤ n → (groupsR l).flatMap (·.2) = l
  | _, [], _ => rfl
  | 0, _ :: _, h => by simp at h
  | n + 1, r :: l, h => by
    have hp := leadN_pos r l
    rw [groupsR_next, List.flatMap_cons, flat_groups n _ (by rw [List.length_drop]; rw [List.length_cons] at h ⊢; omega)]
    show leadL r.key (r :: l) ++ _ = _
    rw [← lead_take, List.take_append_drop]
theorem first_sub (N : Nat) (rs : List RowV) : (firstL N (groupsR rs)).Sublist rs := by
  have h : ∀ G : List (ByteArray × List RowV), (firstL N G).Sublist (G.flatMap (·.2)) := by
    intro G
    induction G with
    | nil => exact List.Sublist.refl _
    | cons g G ih =>
      have e : firstL N (g :: G) = g.2.take N ++ firstL N G := by simp [firstL]
      rw [e, List.flatMap_cons]
      exact (List.take_sublist N g.2).append ih
  have := h (groupsR rs)
  rwa [flat_groups _ rs (Nat.le_refl _)] at this
theorem sorted_kasc {rs : List RowV} (h : sortedOk rs = true) : KAsc rs := by
  unfold sortedOk at h
  rw [Bool.and_eq_true] at h
  exact asc_keys (adjOk_asc h.2)
theorem sorted_sub {rs fs : List RowV} (h : sortedOk rs = true) (hs : fs.Sublist rs) : sortedOk fs = true := by
  unfold sortedOk at h ⊢
  rw [Bool.and_eq_true] at h ⊢
  have h1 := h.1
  have ha : Asc RowV.less fs := List.Pairwise.sublist hs (adjOk_asc h.2)
  refine ⟨?_, asc_adjOk ha⟩
  unfold rowsOk at h1 ⊢
  rw [Bool.and_eq_true, decide_eq_true_eq, List.all_eq_true] at h1 ⊢
  exact ⟨Nat.le_trans hs.length_le h1.1, fun r hr => h1.2 r (hs.subset hr)⟩
/-- The rows of one key in rows that were put together by keys. -/
theorem flat_key {h : ByteArray → List RowV} (hh : ∀ k, ∀ r ∈ h k, r.key = k) (x : ByteArray) : ∀ {K : List ByteArray}, Rising K → (x ∈ K → (K.flatMap h).filter (isKey x) = h x) ∧ (x ∉ K → (K.flatMap h).filter (isKey x) = [])
  | [], _ => ⟨fun hx => absurd hx List.not_mem_nil, fun _ => rfl⟩
  | k :: K, hK => by
    obtain ⟨h1, h2⟩ := List.pairwise_cons.1 hK
    obtain ⟨ih1, ih2⟩ := flat_key hh x h2
    rw [List.flatMap_cons, List.filter_append]
    by_cases e : x = k
    · subst e
      have hn : x ∉ K := fun hk => by have := h1 x hk; rw [bl_irrefl] at this; cases this
      have ef : (h x).filter (isKey x) = h x := List.filter_eq_self.2 fun r hr => isKey_iff.2 (hh x r hr)
      rw [ef, ih2 hn, List.append_nil]
      exact ⟨fun _ => rfl, fun hx => absurd List.mem_cons_self hx⟩
    · have ef : (h k).filter (isKey x) = [] := List.filter_eq_nil_iff.2 fun r hr hx => e ((isKey_iff.1 hx).symm.trans (hh k r hr))
      rw [ef, List.nil_append]
      exact ⟨fun hx => ih1 ((List.mem_cons.1 hx).resolve_left e), fun hx => ih2 fun hk => hx (List.mem_cons_of_mem _ hk)⟩
def capG (N : Nat) (G : List (ByteArray × List RowV)) : List (ByteArray × List RowV) := G.map fun g => (g.1, g.2.take N)
theorem first_flat (N : Nat) {rs : List RowV} (h : KAsc rs) : firstL N (groupsR rs) = (keysOf rs).flatMap fun k => (rs.filter (isKey k)).take N := by
  rw [groups_eqF h]
  unfold firstL
  rw [List.flatMap_map]
theorem first_groups {N : Nat} (hN : 1 ≤ N) {rs : List RowV} (h : KAsc rs) : groupsR (firstL N (groupsR rs)) = capG N (groupsR rs) := by
  have hsub := first_sub N rs
  have ha : KAsc (firstL N (groupsR rs)) := List.Pairwise.sublist hsub h
  have hk : ∀ k, ∀ r ∈ (rs.filter (isKey k)).take N, r.key = k := fun k r hr => isKey_iff.1 (List.mem_filter.1 (List.mem_of_mem_take hr)).2
  have hfl := fun x => flat_key (h := fun k => (rs.filter (isKey k)).take N) hk x (keysOf_rising h)
  have hkeys : keysOf (firstL N (groupsR rs)) = keysOf rs := by
    refine rising_eq (keysOf_rising ha) (keysOf_rising h) fun x => ?_
    rw [keysOf_mem, keysOf_mem]
    constructor
    · rintro ⟨r, hr, e⟩
      exact ⟨r, hsub.subset hr, e⟩
    · rintro ⟨r, hr, rfl⟩
      have hx : r.key ∈ keysOf rs := (keysOf_mem rs r.key).2 ⟨r, hr, rfl⟩
      have e := (hfl r.key).1 hx
      have hm : r ∈ rs.filter (isKey r.key) := List.mem_filter.2 ⟨hr, isKey_iff.2 rfl⟩
      cases hc : rs.filter (isKey r.key) with
      | nil => rw [hc] at hm; cases hm
      | cons y l =>
        have hy : y ∈ (rs.filter (isKey r.key)).take N := by
          rw [hc]
          obtain ⟨m, rfl⟩ : ∃ m, N = m + 1 := ⟨N - 1, by omega⟩
          simp
        rw [← e] at hy
        have hy2 := List.mem_filter.1 hy
        exact ⟨y, by rw [first_flat N h]; exact hy2.1, isKey_iff.1 hy2.2⟩
  have e3 : capG N (groupsR rs) = (keysOf rs).map fun k => (k, (rs.filter (isKey k)).take N) := by
    unfold capG
    rw [groups_eqF h, List.map_map]
    rfl
  rw [groups_eqF ha, hkeys, e3]
  refine List.map_congr_left fun k hk2 => ?_
  have e := (hfl k).1 hk2
  show (k, (firstL N (groupsR rs)).filter (isKey k)) = (k, (rs.filter (isKey k)).take N)
  rw [first_flat N h, e]
theorem first_zero (G : List (ByteArray × List RowV)) : firstL 0 G = [] := by
  unfold firstL
  induction G with
  | nil => rfl
  | cons g G ih => rw [List.flatMap_cons, ih]; rfl
theorem first_cap {M N : Nat} (h : N ≤ M) : ∀ G : List (ByteArray × List RowV), firstL N (capG M G) = firstL N G
  | [] => rfl
  | g :: G => by
    have ih := first_cap h G
    have e1 : firstL N (capG M (g :: G)) = (g.2.take M).take N ++ firstL N (capG M G) := by simp [firstL, capG]
    have e2 : firstL N (g :: G) = g.2.take N ++ firstL N G := by simp [firstL]
    rw [e1, e2, ih, List.take_take, Nat.min_eq_left h]
theorem first_again {N : Nat} {rs : List RowV} (h : KAsc rs) : firstL N (groupsR (firstL (N + 1) (groupsR rs))) = firstL N (groupsR rs) := by
  rw [first_groups (by omega) h, first_cap (by omega)]
/-- The groups of the first rows. -/
def bG (N : Nat) (rs : List RowV) : List (ByteArray × List RowV) := groupsR (firstL N (groupsR rs))
theorem bG_at {N : Nat} {rs : List RowV} (h : KAsc rs) {i : Nat} {k : ByteArray} {xs : List RowV} (hx : (bG N rs)[i]? = some (k, xs)) : ∃ ys, (groupsR rs)[i]? = some (k, ys) ∧ xs = ys.take N ∧ xs.length ≤ N := by
  unfold bG at hx
  rcases Nat.eq_zero_or_pos N with rfl | hN
  · rw [first_zero] at hx
    simp [groupsR_nil] at hx
  · rw [first_groups hN h] at hx
    unfold capG at hx
    rw [List.getElem?_map] at hx
    cases hg : (groupsR rs)[i]? with
    | none => rw [hg] at hx; cases hx
    | some g =>
      rw [hg] at hx
      simp only [Option.map_some, Option.some.injEq, Prod.mk.injEq] at hx
      obtain ⟨rfl, rfl⟩ := hx
      exact ⟨g.2, rfl, rfl, by rw [List.length_take]; omega⟩
theorem bG_len {N : Nat} {rs : List RowV} (h : KAsc rs) (hN : N ≠ 0) : (bG N rs).length = (groupsR rs).length := by
  unfold bG
  rw [first_groups (by omega) h]
  exact List.length_map _
end Go.Proofs.Ytjhicjhgpbighaa

namespace Go.Proofs.Ytjhicjhgpbighaa
open Go.RowKit
theorem first_twice {N : Nat} {rs : List RowV} (h : KAsc rs) : firstL N (groupsR (firstL N (groupsR rs))) = firstL N (groupsR rs) := by
  rcases Nat.eq_zero_or_pos N with rfl | hN
  · rw [first_zero, first_zero]
  · rw [first_groups hN h, first_cap (Nat.le_refl _)]
theorem first_all (N : Nat) : ∀ G : List (ByteArray × List RowV), (∀ g ∈ G, g.2.length ≤ N) → firstL N G = G.flatMap (·.2)
  | [], _ => rfl
  | g :: G, h => by
    have e : firstL N (g :: G) = g.2.take N ++ firstL N G := by simp [firstL]
    rw [e, List.flatMap_cons, first_all N G (fun x hx => h x (List.mem_cons_of_mem _ hx)), List.take_of_length_le (h g List.mem_cons_self)]
theorem first_whole (rs : List RowV) : firstL rs.length (groupsR rs) = rs := by
  have hf := flat_groups rs.length rs (Nat.le_refl _)
  rw [first_all rs.length (groupsR rs) fun g hg => ?_, hf]
  obtain ⟨s, t, e⟩ := List.append_of_mem hg
  have := congrArg List.length hf
  rw [e, List.flatMap_append, List.flatMap_cons, List.length_append, List.length_append] at this
  omega
set_option maxRecDepth 100000 in
theorem drawFirstOf_any (a : Option Addr) (len cap : Nat) (w : World) (hl : len ≤ 1048576) (h : IsBy w w.heap.size a len) :
    Calls Try.prog 11 #[.slice a len cap] w fun e w' => ∃ (l : List RowV) (b : Option Addr) (c : Nat) (z : Int), l.length ≤ 10 ∧ (∀ r ∈ l, r.Ok) ∧ -9223372036854775808 ≤ z ∧ z ≤ 9223372036854775807 ∧
      e = .returned (.tuple #[.slice b l.length c, .int .i64 z]) ∧ w'.ownsRow w.heap.size 39 3 (.slice b l.length c) l.length (flat l) ∧ Below w.heap.size w w' := by
  go_enter Try.func11, Try.ntmps11
  go_wp2_with fail
  refine (l1Open_any a len cap w hl h).mono ?_
  rintro e w1 ⟨rfl, hR1, hb1⟩
  have hlt := hR1.lt
  go_wp2_with fail
  refine (rows_lit w.heap.size len 10 _ _ hR1 (by omega) (by omega) (by omega)).mono ?_
  rintro e w2 ⟨l, b, c, hll, hok, rfl, hO, hD⟩
  have hlt2 := hD.rdr.lt
  go_wp2_with fail
  refine (l3Sort_any (some ⟨b, 0, none⟩) l.length c l w2 (by omega) (Rd.of_own hO)).mono ?_
  rintro e w3 ⟨sa, sc, rfl, hS, hb3⟩
  have hD3 : Drew w1 w3 w.heap.size len := hD.and hb3
  go_wp2_with fail
  refine (off_any w.heap.size len 0 4 _ hD3.rdr (by omega) (by omega) (by omega)).mono ?_
  rintro e w4 ⟨z, hz0, hz1, rfl, hD4⟩
  have hws1 : w.heap.size ≤ w1.heap.size := hb1.size
  have hws2 : w.heap.size ≤ w2.heap.size := Nat.le_trans hws1 hD.size
  have S4 := hD4.own hS (Nat.lt_of_lt_of_le hlt hD.size)
  have hb4 := below_drew hb1 (hD3.trans hD4)
  clear hO hD hD3 hD4 hS hb3
  go_wp2_with fail
  have hsl := sortL_length l
  refine bodyPost_ret (v := .tuple #[.slice sa l.length sc, .int .i64 z]) ?_ rfl ⟨sortL l, sa, sc, z, by rw [hsl]; exact hll, fun r hr => hok r ((sortL_perm' l).mem_iff.1 hr), hz0, hz1, by rw [hsl], by rw [hsl]; exact own_base' S4 hws2, hb4⟩
  simp [results, Try.results11, go_sem]
set_option maxRecDepth 100000 in
set_option maxHeartbeats 4000000 in
theorem walk_FirstTwice (a : Option Addr) (len cap : Nat) (xs : List Value) (w : World) (hI : IsCode w a len cap xs) :
    Calls Try.prog 5 #[.slice a len cap] w fun e w' => e = .returned (.bool true) ∧ Below w.heap.size w w' := by
  have hI0 := hI.by_
  obtain ⟨hlc, hcm, _, _⟩ := hI
  go_enter Try.func5, Try.ntmps5
  go_wp2_with fail
  refine (big_any a len cap w (by omega)).mono ?_
  rintro e w0 ⟨rfl, rfl⟩
  by_cases hbig : 1048576 < len
  · have hd : decide (1048576 < len) = true := by simpa using hbig
    rw [hd]
    go_wp2_with fail
    go_ret
    exact ⟨rfl, Below.refl _ _⟩
  have hd : decide (1048576 < len) = false := by simpa using hbig
  rw [hd]
  go_wp2_with fail
  refine (drawFirstOf_any a len cap w (by omega) hI0).mono ?_
  rintro e w1 ⟨l, la, lc, z, hll, hok, hz0, hz1, rfl, hO, hb⟩
  have B := hb
  clear hb
  have L := Rd.of_own hO
  have hlc2 : l.length ≤ lc := by
    obtain ⟨g, c', e, h⟩ := own_slice2 hO
    injection e with _ _ e
    rw [e]; exact h
  clear hO
  have hn1 := firstS_le l z
  obtain ⟨n1, e1⟩ : ∃ j, (firstS l z).length = j := ⟨_, rfl⟩
  rw [e1] at hn1
  cases hB : firstB l z
  · have CI : ∀ (w : World), Rd w w.heap.size 3 la l.length (flat l) → Calls Try.prog 12 #[.slice la l.length lc, .int .i64 z] w (fun e w' => ∃ a c, e = .returned (.tuple #[.slice a n1 c, .bool false]) ∧ Below w.heap.size w w' ∧ w'.ownsRow w.heap.size 39 3 (.slice a n1 c) n1 (flat (firstS l z))) := fun w h => by
      have := implFirstOf_any la l.length lc l z w (by omega) hlc2 hok h
      try unfold FirstOfOut at this
      rw [e1, hB] at this
      exact this
    have CS : ∀ (w : World), Rd w w.heap.size 3 la l.length (flat l) → Calls Try.prog 13 #[.slice la l.length lc, .int .i64 z] w (fun e w' => ∃ a c, e = .returned (.tuple #[.slice a n1 c, .bool false]) ∧ Below w.heap.size w w' ∧ w'.ownsRow w.heap.size 39 3 (.slice a n1 c) n1 (flat (firstS l z))) := fun w h => by
      have := specFirstOf_any la l.length lc l z w (by omega)  hok h
      try unfold FirstOfOut at this
      rw [e1, hB] at this
      exact this
    clear hB e1
    generalize firstS l z = F at *
    go_wp2_with fail
    refine (CI w1 L).mono ?_
    rintro e w2 ⟨pa, pc, rfl, hb, hO⟩
    replace B := B.trans (hb.mono B.size)
    replace L := (L.below hb (Nat.le_refl _)).more hb.size
    clear hb
    have P := Rd.of_own hO
    clear hO
    go_wp2_with fail
    refine (CS w2 L).mono ?_
    rintro e w3 ⟨qa, qc, rfl, hb, hO⟩
    replace B := B.trans (hb.mono B.size)
    replace L := (L.below hb (Nat.le_refl _)).more hb.size
    replace P := (P.below hb (Nat.le_refl _)).more hb.size
    clear hb
    have Q := Rd.of_own hO
    clear hO
    go_wp2_with fail
    refine (sameRows_same pa qa n1 pc qc F w3 (by omega) P Q).mono ?_
    rintro e w4 ⟨rfl, hb⟩
    replace B := B.trans (hb.mono B.size)
    replace L := (L.below hb (Nat.le_refl _)).more hb.size
    replace P := (P.below hb (Nat.le_refl _)).more hb.size
    replace Q := (Q.below hb (Nat.le_refl _)).more hb.size
    clear hb
    go_wp2_with fail
    refine (sameRows_same pa qa n1 pc qc F w4 (by omega) P Q).mono ?_
    rintro e w5 ⟨rfl, hb⟩
    replace B := B.trans (hb.mono B.size)
    replace L := (L.below hb (Nat.le_refl _)).more hb.size
    replace P := (P.below hb (Nat.le_refl _)).more hb.size
    replace Q := (Q.below hb (Nat.le_refl _)).more hb.size
    clear hb
    go_wp2_with fail
    go_ret
    exact ⟨rfl, B⟩
  have CI : ∀ (w : World), Rd w w.heap.size 3 la l.length (flat l) → Calls Try.prog 12 #[.slice la l.length lc, .int .i64 z] w (fun e w' => ∃ a c, e = .returned (.tuple #[.slice a n1 c, .bool true]) ∧ Below w.heap.size w w' ∧ w'.ownsRow w.heap.size 39 3 (.slice a n1 c) n1 (flat (firstS l z))) := fun w h => by
    have := implFirstOf_any la l.length lc l z w (by omega) hlc2 hok h
    try unfold FirstOfOut at this
    rw [e1, hB] at this
    exact this
  have CS : ∀ (w : World), Rd w w.heap.size 3 la l.length (flat l) → Calls Try.prog 13 #[.slice la l.length lc, .int .i64 z] w (fun e w' => ∃ a c, e = .returned (.tuple #[.slice a n1 c, .bool true]) ∧ Below w.heap.size w w' ∧ w'.ownsRow w.heap.size 39 3 (.slice a n1 c) n1 (flat (firstS l z))) := fun w h => by
    have := specFirstOf_any la l.length lc l z w (by omega)  hok h
    try unfold FirstOfOut at this
    rw [e1, hB] at this
    exact this
  have hB0 := hB
  simp only [firstB, Bool.and_eq_true, decide_eq_true_eq] at hB0
  obtain ⟨M, rfl⟩ : ∃ M : Nat, z = (M : Int) := ⟨z.toNat, by omega⟩
  have hso := hB0.1
  have hFS : firstS l M = firstL M (groupsR l) := by unfold firstS; rw [if_pos hB]; rfl
  have hka := sorted_kasc hso
  have hFo := sorted_sub hso (first_sub M l)
  have hFok : ∀ r ∈ firstL M (groupsR l), r.Ok := fun r hr => hok r ((first_sub M l).subset hr)
  have hB3 : firstB (firstL M (groupsR l)) (M : Int) = true := by unfold firstB; rw [hFo]; simp
  have hS3 : firstS (firstL M (groupsR l)) (M : Int) = firstL M (groupsR l) := by unfold firstS; rw [if_pos hB3]; exact first_twice hka
  rw [hFS] at e1
  have hB4 : firstB l (l.length : Int) = true := by unfold firstB; rw [hso]; simp
  have hS4 : firstS l (l.length : Int) = l := by unfold firstS; rw [if_pos hB4]; exact first_whole l
  have CA : ∀ (w : World) (a1 : Option Addr) (c1 : Nat) (hc1 : n1 ≤ c1), Rd w w.heap.size 3 a1 n1 (flat (firstL M (groupsR l))) → Calls Try.prog 12 #[.slice a1 n1 c1, .int .i64 (M : Int)] w (fun e w' => ∃ a c, e = .returned (.tuple #[.slice a n1 c, .bool true]) ∧ Below w.heap.size w w' ∧ w'.ownsRow w.heap.size 39 3 (.slice a n1 c) n1 (flat (firstL M (groupsR l)))) := fun w a1 c1 hc1 h => by
    have := implFirstOf_any a1 n1 c1 (firstL M (groupsR l)) (M : Int) w (by omega) hc1 hFok h
    try unfold FirstOfOut at this
    rw [hS3, e1, hB3] at this
    exact this
  have CW : ∀ (w : World), Rd w w.heap.size 3 la l.length (flat l) → Calls Try.prog 12 #[.slice la l.length lc, .int .i64 (l.length : Int)] w (fun e w' => ∃ a c, e = .returned (.tuple #[.slice a l.length c, .bool true]) ∧ Below w.heap.size w w' ∧ w'.ownsRow w.heap.size 39 3 (.slice a l.length c) l.length (flat l)) := fun w h => by
    have := implFirstOf_any la l.length lc l (l.length : Int) w (by omega) hlc2 hok h
    try unfold FirstOfOut at this
    rw [hS4, hB4] at this
    exact this
  rw [hFS] at CI CS
  clear hB hB0 hFS hso hka hFo hFok hB3 hS3 hB4 hS4 e1 hok
  generalize firstL M (groupsR l) = F at *
  go_wp2_with fail
  refine (CI w1 L).mono ?_
  rintro e w2 ⟨pa, pc, rfl, hb, hO⟩
  replace B := B.trans (hb.mono B.size)
  replace L := (L.below hb (Nat.le_refl _)).more hb.size
  clear hb
  have P := Rd.of_own hO
  have hpc : n1 ≤ pc := by
    obtain ⟨g, c', e, h⟩ := own_slice2 hO
    injection e with _ _ e
    rw [e]; exact h
  clear hO CI
  go_wp2_with fail
  refine (CS w2 L).mono ?_
  rintro e w3 ⟨qa, qc, rfl, hb, hO⟩
  replace B := B.trans (hb.mono B.size)
  replace L := (L.below hb (Nat.le_refl _)).more hb.size
  replace P := (P.below hb (Nat.le_refl _)).more hb.size
  clear hb
  have Q := Rd.of_own hO
  clear hO CS
  go_wp2_with fail
  refine (sameRows_same pa qa n1 pc qc F w3 (by omega) P Q).mono ?_
  rintro e w4 ⟨rfl, hb⟩
  replace B := B.trans (hb.mono B.size)
  replace L := (L.below hb (Nat.le_refl _)).more hb.size
  replace P := (P.below hb (Nat.le_refl _)).more hb.size
  replace Q := (Q.below hb (Nat.le_refl _)).more hb.size
  clear hb
  clear Q
  go_wp2_with fail
  refine (CA w4 pa pc hpc P).mono ?_
  rintro e w5 ⟨ta, tc, rfl, hb, hO⟩
  replace B := B.trans (hb.mono B.size)
  replace L := (L.below hb (Nat.le_refl _)).more hb.size
  replace P := (P.below hb (Nat.le_refl _)).more hb.size
  clear hb
  have T := Rd.of_own hO
  clear hO CA
  go_wp2_with fail
  refine (CW w5 L).mono ?_
  rintro e w6 ⟨va, vc, rfl, hb, hO⟩
  replace B := B.trans (hb.mono B.size)
  replace L := (L.below hb (Nat.le_refl _)).more hb.size
  replace P := (P.below hb (Nat.le_refl _)).more hb.size
  replace T := (T.below hb (Nat.le_refl _)).more hb.size
  clear hb
  have V := Rd.of_own hO
  clear hO CW
  go_wp2_with fail
  refine (sameRows_same ta pa n1 tc pc F w6 (by omega) T P).mono ?_
  rintro e w7 ⟨rfl, hb⟩
  replace B := B.trans (hb.mono B.size)
  replace L := (L.below hb (Nat.le_refl _)).more hb.size
  replace P := (P.below hb (Nat.le_refl _)).more hb.size
  replace T := (T.below hb (Nat.le_refl _)).more hb.size
  replace V := (V.below hb (Nat.le_refl _)).more hb.size
  clear hb
  go_wp2_with fail
  refine (sameRows_same va la l.length vc lc l w7 (by omega) V L).mono ?_
  rintro e w8 ⟨rfl, hb⟩
  replace B := B.trans (hb.mono B.size)
  replace L := (L.below hb (Nat.le_refl _)).more hb.size
  replace P := (P.below hb (Nat.le_refl _)).more hb.size
  replace T := (T.below hb (Nat.le_refl _)).more hb.size
  replace V := (V.below hb (Nat.le_refl _)).more hb.size
  clear hb
  go_wp2_with fail
  go_ret
  exact ⟨rfl, B⟩
end Go.Proofs.Ytjhicjhgpbighaa

namespace Go.Proofs.Ytjhicjhgpbighaa
open Go.ChangeShapes Go.WideShapes Go.ChangeAt Go.RowKit Go.Joins
open Go.ChangeMaps (open_string shut_string)
namespace FirstTwice

set_option maxRecDepth 100000 in
theorem lifted (os : Os) (started : os.Started) (H : Type) (enc : TypeId × Value → H) :
    ReturnsInHanded {} Try.checked os 5 .any (Rows.fnFirstTwiceSpec.pre6 enc Try.prog Try.f5 Rows.fnFirstTwiceRow.domain false) (Rows.fnFirstTwiceSpec.post enc Try.prog Try.f5 false true false false) := by
  refine returnsInHanded_of_change (C := Try.checked) own started (by kernel_rfl) Try.func5
    (ChangeSpec.witness6 (enc := enc) (C := Try.checked) false ⟨#[], #[.slice none 0 0], []⟩ 8 (by kernel_rfl) (by kernel_rfl) (by kernel_rfl) (by kernel_rfl)) ?_
  intro W base args ds gs before hval0 hW _ _
  have hval : ∀ (j : Nat) t v, Try.f5.params[j]? = some t → args[j]? = some v → Value.okWide Try.prog W .any base t v := hval0
  have hW' := hW
  obtain ⟨p, q, hA0, hV, rfl, _, _⟩ := hW
  have hA : DataW.TrodAll enc Try.prog W 0 (fun _ => true) true Try.f5.params.toList args.toList ds p := hA0
  rw [Try.params5] at hA hval
  obtain ⟨v0, vs0, d0, ds0, p0, q0, hargs, rfl, rfl, h0, r0⟩ := trodAll_cons hA
  obtain ⟨rfl, rfl, rfl⟩ := trodAll_nil r0
  obtain rfl : args = #[v0] := by cases args; simp_all
  obtain ⟨rfl, rfl⟩ := trodVars_none hV
  have k0 := h0
  have lt0 : ∀ x ∈ p0, x.block < W.heap.size := by obtain ⟨m, hm⟩ := k0; exact DataW.trod_lt m _ _ _ hm
  obtain ⟨a0, len0, cap0, z0, rfl, w0⟩ := open_Bytes (hval 0 22 v0 rfl rfl) h0
  clear hA0 hval0
  refine (walk_FirstTwice a0 len0 cap0 z0 W w0).mono fun e W' ⟨he, bel⟩ => ?_
  subst he
  exact ⟨_, rfl, _, _, _, [], _, [], hW', trodAll_mk1 (shut_bool Try.underlying4 _), (trodAll_cons_mk (Below.trod laidOut (by kernel_rfl) (of_decide_eq_true (by kernel_rfl)) k0 bel lt0) trodAll_mk0), rfl, bel.frame _, fun h => by cases h⟩

theorem over : Rows.fnFirstTwiceRow.holds Try.pinned (OpenSpec.ofChange Rows.fnFirstTwiceSpec) :=
  OpenClaim.holds_of_wide 5 Try.f5 rfl rfl rfl rfl rfl rfl rfl ⟨rfl, rfl, rfl, rfl, rfl⟩ rfl rfl rfl rfl rfl (by kernel_rfl) Try.func5 (by kernel_rfl)
    (of_decide_eq_true (by kernel_rfl)) (by unfold Func.isWrapper; first | (rw [if_pos (by decide +kernel)]; kernel_rfl) | (rw [if_neg (by decide +kernel)]; exact ⟨rfl, rfl⟩))
    (fun os started H enc _ => lifted os started H enc)
end FirstTwice
theorem fnFirstTwice_holds : Rows.FnFirstTwiceSaid := FirstTwice.over
end Go.Proofs.Ytjhicjhgpbighaa
