/-
  Rows.FnFirstSaid: laws.FnFirst returns true for every input, and each argument reads afterwards as it read before. No conditions.
-/
import Derived.Test.YtjepmcepgoncnaaPlain
import Derived.OwnWalkIn
import Derived.RangeFuncCalls
import Derived.Test.YtjepmcepgoncnaaLowB
import Derived.Test.YtjepmcepgoncnaaCollect
import Derived.Test.YtjepmcepgoncnaaSortedOkFns
import Derived.Test.YtjepmcepgoncnaaAppendAny
import Derived.Test.YtjepmcepgoncnaaStepOne
import Derived.Test.YtjepmcepgoncnaaJoinFns
import Derived.Lib.QuietBelow
import Derived.Test.YtjepmcepgoncnaaLowA
import Derived.Test.YtjepmcepgoncnaaOpen
namespace Go.Proofs.Ytjepmcepgoncnaa
open Go.RowKit
def noDefer (o : Oper) : Bool := match o.op with | .defer _ => false | _ => true
theorem noDefer_out {o : Oper} (h : noDefer o = true) : ∀ c, o.op ≠ .defer c := by
  intro c e
  unfold noDefer at h
  rw [e] at h
  cases h
theorem wpIn_round {P : Program} {l n : Nat} {o : Oper} {a : Act} {w : World} {K : Act → World → Prop} {Q : Exit → Act → World → Prop} (hd : noDefer o = true) (h : o.wp P a w K Q) : o.wpIn (Fence.wide.inRound l) n P a w K Q := by
  refine ⟨fun _ _ => trivial, ?_⟩
  rw [Oper.semAt_plain _ _ _ (noDefer_out hd)]
  unfold Oper.wp at h
  revert h
  generalize (execOp a.eval o).run P w = r
  intro h
  cases r with
  | ok x w' =>
    cases x with
    | value v => exact h
    | skip => exact h
    | defer d => exact h
    | enter f args => exact ⟨fun h => (by cases h), (callsIn_wide (n := n - 1)).2 h⟩
    | row r args => exact ⟨fun h => (by cases h), fun c cs _ => let ⟨v, w2, h1, h2⟩ := h c cs; ⟨v, w2, h1, stepsIn_wide.2 h2⟩⟩
    | _ => exact h.elim
  | halt x w' => cases x <;> first | exact h | exact h.elim
theorem wpOpsIn_round {P : Program} {l n : Nat} {ops : Array Oper} {Q : Exit → Act → World → Prop} (hd : ∀ o ∈ ops.toList, noDefer o = true) (hQ : ¬ LetsOut Q) : ∀ (is : List Nat) (a : Act) (w : World), wpOps P ops Q is a w → wpOpsIn (Fence.wide.inRound l) n P ops Q is a w := by
  intro is
  induction is with
  | nil => exact fun a w h => h
  | cons i is ih =>
    intro a w h
    unfold wpOps at h
    unfold wpOpsIn
    cases ho : ops[i]? with
    | none => rw [ho] at h; exact ih _ _ h
    | some o =>
      rw [ho] at h
      have hm : o ∈ ops.toList := by
        obtain ⟨hi, rfl⟩ := Array.getElem?_eq_some_iff.1 ho
        simp
      simp only at h ⊢
      split
      · rename_i hw
        rw [if_pos hw] at h
        rcases h with h | ⟨_, h⟩
        · exact wpIn_round (hd o hm) (Oper.wp_mono (fun a w h => ih a w h) h)
        · exact absurd h hQ
      · rename_i hw
        rw [if_neg hw] at h
        exact ⟨fun _ _ => trivial, ih _ _ h⟩
theorem wpIn_region_round {P : Program} {l n id : Nat} {ops : List Oper} {Q : Exit → Act → World → Prop} {a : Act} {w : World} (hm : P.follows .mixedOrders = true) (hd : ops.all noDefer = true) (hQ : ¬ LetsOut Q)
    (h : wpAny P .any ops.toArray Q ops.length (Array.replicate ops.length false) a w.drew) : (Code.region id ops.toArray true).wpIn (Fence.wide.inRound l) n P Q a w := by
  refine wpIn_region_draw fun t => ?_
  refine wpOpsIn_round (fun o ho => List.all_eq_true.1 hd o (by simpa using ho)) hQ _ _ _ ?_
  simp only [Region.schedule, hm, Bool.true_or, if_true]
  have := wpAny_sound ops.length t _ a _ h
  simpa [Region.linearise] using this
end Go.Proofs.Ytjepmcepgoncnaa

namespace Go.Proofs.Ytjepmcepgoncnaa
open Go.RowKit Go.Shelf
attribute [local go_sem] Oper.semAt_some
def firstB (rs : List RowV) (N : Int) : Bool := sortedOk rs && decide (0 ≤ N)
/-- The first rows of each group. -/
def firstL (N : Nat) (gs : List (ByteArray × List RowV)) : List RowV := gs.flatMap fun g => g.2.take N
def firstS (rs : List RowV) (N : Int) : List RowV := if firstB rs N = true then firstL N.toNat (groupsR rs) else []
theorem firstL_snoc (N : Nat) (gs : List (ByteArray × List RowV)) (g : ByteArray × List RowV) : firstL N (gs ++ [g]) = firstL N gs ++ g.2.take N := by simp [firstL]
theorem firstL_bound (N : Nat) {w : World} {B : Nat} : ∀ (l : List (GrpIn w B)), (firstL N (grpsOf l)).length ≤ l.length * 1048576
  | [] => by simp [firstL, grpsOf]
  | x :: l => by
    have h1 : x.1.rows.length = x.1.n := x.2.1.rows_length
    have h2 := x.2.2.2.1
    have ih := firstL_bound N l
    have e : (firstL N (grpsOf (x :: l))).length = (x.1.rows.take N).length + (firstL N (grpsOf l)).length := by simp [firstL, grpsOf]
    rw [e, List.length_take, List.length_cons]
    omega
theorem grps_snoc (N : Nat) {w : World} {B : Nat} (l : List (GrpIn w B)) (x : GrpIn w B) : firstL N (grpsOf (l ++ [x])) = firstL N (grpsOf l) ++ x.1.rows.take N := by
  unfold grpsOf
  rw [List.map_append]
  exact firstL_snoc N _ _
/-- A box and another beside an append behind a draw, and the store of what came. -/
theorem boxed_appended {W w1 : World} {n₀ B : Nat} {t e : TypeId} {size : Nat} {v v' : Value} {k m : Nat} {xs ys : List Value}
    (hv : Boxed W B t v) (hte : t ≠ e) (hrow : W.ownsRow n₀ e size v k xs) (hn₀ : n₀ ≤ W.heap.size) (hB : n₀ ≤ B)
    (hown' : w1.ownsRow n₀ e size v' m ys) (hgrow : W.drew.grownBy w1 v.ownBlock) :
    Boxed w1 B t v ∧ Boxed (w1.setCell ⟨B, 0, none⟩ v') B t v' ∧ (w1.setCell ⟨B, 0, none⟩ v').ownsRow n₀ e size v' m ys ∧ KeepsOthers W (w1.setCell ⟨B, 0, none⟩ v') ∧ Below n₀ W (w1.setCell ⟨B, 0, none⟩ v') := by
  have hv1 : Boxed w1 B t v := (show Boxed W.drew B t v from hv).kept hgrow (hv.not_row hte hrow)
  refine ⟨hv1, hv1.set v', hown'.kept (grownBy_setCell' w1 B v') (.inr (hv1.not_row hte hown').symm), ?_, ?_⟩
  · refine ((KeepsOthers.drew W).trans (KeepsOthers.of_grownBy hgrow fun j o ej hj => ?_)).trans (KeepsOthers.setCell _ _ _)
    rcases hrow.2 with ⟨rfl, _⟩ | ⟨g, cap, cur, rfl, _, hgb, _⟩
    · simp [Value.ownBlock] at ej
    · obtain rfl : g = j := by simpa [Value.ownBlock] using ej
      rw [show W.drew.heap = W.heap from rfl, hgb] at hj; cases hj; rfl
  · refine (((Below.refl n₀ W).drew).grown hgrow hn₀ fun j ej => ?_).setCell (p := ⟨B, 0, none⟩) hB v'
    rcases hrow.2 with ⟨rfl, _⟩ | ⟨g, cap, cur, rfl, hb, _, _⟩
    · simp [Value.ownBlock] at ej
    · obtain rfl : g = j := by simpa [Value.ownBlock] using ej
      exact hb
theorem flat_one0 (l : List RowV) : ∀ u ∈ flat l, u.oneCell' = true := by
  induction l with
  | nil => simp [flat]
  | cons r l ih =>
    intro u hu
    rw [flat_cons] at hu
    simp only [List.mem_cons] at hu
    rcases hu with rfl | rfl | rfl | hu
    · rfl
    · rfl
    · rfl
    · exact ih u hu
def FirstOfOut (rs : List RowV) (N : Int) (w : World) (e : Ending) (w' : World) : Prop :=
  ∃ b c, e = .returned (.tuple #[.slice b (firstS rs N).length c, .bool (firstB rs N)]) ∧ Below w.heap.size w w' ∧ w'.ownsRow w.heap.size 77 3 (.slice b (firstS rs N).length c) (firstS rs N).length (flat (firstS rs N))
set_option maxRecDepth 100000 in
set_option maxHeartbeats 4000000 in
theorem implFirstOf_yes (a : Option Addr) (n cap M : Nat) (rs : List RowV) (w : World) (hm : n ≤ 120) (hnc : n ≤ cap) (hok : ∀ r ∈ rs, r.Ok) (hR : Rd w w.heap.size 3 a n (flat rs)) (hs : sortedOk rs = true) :
    Calls Try.prog 18 #[.slice a n cap, .int .i64 M] w fun e w' => ∃ b c, e = .returned (.tuple #[.slice b (firstL M (groupsR rs)).length c, .bool true]) ∧ Below w.heap.size w w' ∧ w'.ownsRow w.heap.size 77 3 (.slice b (firstL M (groupsR rs)).length c) (firstL M (groupsR rs)).length (flat (firstL M (groupsR rs))) := by
  obtain ⟨i0, hi, hz0, hz1, hz2⟩ := info_parts infoRow
  have hb0 := bl1 w (.cells #[.int .i64 M] 2)
  have bN := Boxed.new w 2 (.int .i64 M)
  have C0 := implSortedOk_any a n cap rs _ (by omega) hok ((hR.below hb0 (Nat.le_refl _)).more hb0.size)
  rw [hs] at C0
  have CB := fun w => byKey_any a n cap w
  have hM0 : decide ((M : Int) < 0) = false := decide_eq_false (by omega)
  refine (callsIn_wide (n := 5)).1 ?_
  refine callsIn_of_wp_marks Try.func18 rfl trivial ?_ rfl
  simp only [Try.ntmps18, List.size_toArray, List.length_cons, List.length_nil, Nat.reduceAdd, Nat.reduceSub, Array.replicate_succ, Array.replicate_zero, List.push_toArray, List.append_toArray, List.nil_append, List.cons_append]
  gi_wp2_with fail
  refine ⟨trivial, ?_⟩
  refine (callsIn_wide.2 C0).mono ?_
  rintro e w1 ⟨rfl, hb1⟩
  have hb := hb0.trans (hb1.mono hb0.size)
  have n1 := (hb1.cell (p := ⟨w.heap.size, 0, none⟩) bN.lt).trans bN.cell
  have bN1 : Boxed w1 w.heap.size 2 (.int .i64 M) := (hb1.block _ bN.lt).trans bN
  have l1 := bN1.lt
  clear C0 hb0 hb1 bN
  have bF := Boxed.new w1 24 (.slice none 0 0)
  have bF2 := bl1 w1 (.cells #[.slice none 0 0] 24)
  gi_wp2_with fail
  refine ⟨trivial, ?_⟩
  refine (callsIn_wide.2 (CB _)).mono ?_
  rintro e w2 ⟨rfl, rfl⟩
  gi_wp2_with fail
  have hW0 := (hb.trans (bF2.mono hb.size)).alloc (by have := bF2.size; have := hb.size; omega) (.cells #[.slice a n cap] 24)
  have bF3 := bF.alloc (.cells #[.slice a n cap] 24)
  have bN2 := (bN1.alloc (.cells #[.slice none 0 0] 24)).alloc (.cells #[.slice a n cap] 24)
  have bC := Boxed.new (w1.alloc (.cells #[.slice none 0 0] 24)) 24 (.slice a n cap)
  rw [World.size_alloc] at bC
  have hR0 := hR.below hW0 (Nat.le_refl _)
  generalize hWe : ((w1.alloc (.cells #[.slice none 0 0] 24)).alloc (.cells #[.slice a n cap] 24)) = W0 at *
  have hsz : w.heap.size ≤ W0.heap.size := hW0.size
  have hl1 : w1.heap.size < W0.heap.size := bF3.lt
  clear hWe
  refine wpIn_rangeFunc_ownF rfl (by omega) (gf := 105) (lb := #[.pointer (some ⟨w1.heap.size + 1, 0, none⟩)]) rfl trivial (enters_of Try.func105 (by kernel_rfl) rfl)
    (byKey_stops _ (w1.heap.size + 1) w.heap.size a n cap rs (by omega) hnc W0 hsz bC.cell bC.lt hR0) belowK_t (belowK_b hsz) (Below.refl _ _) (fun _ => rfl)
    (fun (pre : List (GrpIn W0 w.heap.size)) W => ((∃ v, Boxed W w1.heap.size 24 v ∧ W.ownsRow w.heap.size 77 3 v (firstL M (grpsOf pre)).length (flat (firstL M (grpsOf pre))) ∧ True) ∧ Boxed W w.heap.size 2 (.int .i64 M)) ∧ Below w.heap.size W0 W)
    (fun _ _ _ => False)
    (OwnFrom.and (OwnFrom.and (Own.from (holdsRow_own w.heap.size w1.heap.size 24 77 3 (fun pre => (firstL M (grpsOf pre)).length) (fun pre => flat (firstL M (grpsOf pre))) (fun _ _ => True)) _) (Own.from (boxed_own _ _ _) _)) (ownFrom_below hsz hsz))
    (fun _ _ _ _ _ hs _ _ => hs)
    ⟨⟨⟨_, bF3, World.ownsRow_nil _ _ _ _, trivial⟩, bN2⟩, Below.refl _ _⟩
    (fun x => { tmps := #[.slice a n cap, .int .i64 M, undef, .pointer (some ⟨w.heap.size, 0, none⟩), .slice none 0 0, .bool false, .pointer (some ⟨w1.heap.size, 0, none⟩), undef, .slice x.1.a x.1.n x.1.c, .slice a n cap, .bool true, .bool false, .bool false, .int .i64 M, .bool false, .bool false, .slice a n cap, .func (.func 105) #[] #[.pointer (some ⟨w1.heap.size + 1, 0, none⟩)], .string x.1.key, .slice x.1.a x.1.n x.1.c, undef, undef, undef, undef, undef, undef, undef, undef, undef], defers := [] })
    ?assign ?body ?done ?stop
  case assign =>
    intro l x W K hK
    simp only [grpV] at *
    gi_wp2_with fail
    exact hK
  case body =>
    rintro l pre x W ⟨⟨⟨v, hv, hrow, _⟩, hN⟩, hB⟩ hlt
    have hEq0 := grps_snoc M pre x
    obtain ⟨⟨key, xa, xn, xc, rows⟩, hxp⟩ := x
    obtain ⟨hxR, hxc, hxb, xb, xo, hxe⟩ := id hxp
    dsimp only at hxR hxc hxb hxe hEq0 ⊢
    subst hxe
    have hc := hv.cell
    have hcN := hN.cell
    obtain ⟨q, hq1, hqe⟩ : ∃ q : Nat, min (M : Int) (xn : Int) = (q : Int) ∧ q = min M xn := ⟨min M xn, by omega, rfl⟩
    have hq6 : q ≤ xc := by omega
    have hq3 : (q : Int) ≤ (xc : Int) := by omega
    have hq4 : (0 : Int) ≤ (q : Int) := by omega
    have hq5 : (q : Int) ≤ (xn : Int) := by omega
    have hqn : q ≤ xn := by omega
    have hxl : rows.length = xn := hxR.rows_length
    have hxW : Rd W w.heap.size 3 (some ⟨xb, xo, none⟩) q (flat (rows.take q)) := (hxR.below hB (Nat.le_refl _)).head hqn
    have HQ := Lib.hid hqe
    have hTk : rows.take M = rows.take q := by
      rw [hqe]
      rcases Nat.le_total M xn with h | h
      · rw [Nat.min_eq_left h]
      · rw [Nat.min_eq_right h, List.take_of_length_le (by omega), List.take_of_length_le (by omega)]
    have hEq := Lib.hid (hEq0.trans (congrArg (firstL M (grpsOf pre) ++ ·) hTk))
    clear hEq0 hTk
    have hfl := firstL_bound M pre
    have hpl : pre.length ≤ 120 := by have := hR.rows_length; omega
    have hsW : w.heap.size ≤ W.heap.size := Nat.le_trans hsz hB.size
    clear hqe
    refine wpIn_block ?_
    refine wpIn_region_round (by kernel_rfl) (by rfl) (by rintro ⟨a, w, h⟩; exact h) ?_
    refine wpAny_take (i := 1) (v := .slice (some ⟨xb, xo, none⟩) xn xc) rfl (by kernel_rfl) (by kernel_rfl) (by kernel_rfl) (fun _ _ _ h => h) (Or.inl ⟨by rfl, fun w => by go_simp⟩) ?_
    refine wpAny_take (i := 3) (v := .slice (some ⟨xb, xo, none⟩) xn xc) rfl (by kernel_rfl) (by kernel_rfl) (by kernel_rfl) (fun _ _ _ h => h) (Or.inl ⟨by rfl, fun w => by go_simp⟩) ?_
    refine wpAny_take (i := 4) (v := .int .i64 (xn : Int)) rfl (by kernel_rfl) (by kernel_rfl) (by kernel_rfl) (fun _ _ _ h => h) (Or.inl ⟨by rfl, fun w => by go_simp⟩) ?_
    refine wpAny_ready (rs := [0, 2]) (by kernel_rfl) (by simp) ?_
    refine AllReady.cons rfl (fun K hK => ?_) ?_
    · go_simp
      refine hK _ _ ?_
      clear hK K
      refine wpAny_ready (rs := [2]) (by kernel_rfl) (by simp) ?_
      refine AllReady.cons rfl (fun K hK => ?_) AllReady.nil
      go_simp
      refine hK _ _ ?_
      clear hK K
      refine wpAny_take (i := 5) (v := .int .i64 (q : Int)) rfl (by kernel_rfl) (by kernel_rfl) (by kernel_rfl) (fun _ _ _ h => h) (Or.inl ⟨by rfl, fun w => by go_simp⟩) ?_
      refine wpAny_take (i := 6) (v := .slice (some ⟨xb, xo, none⟩) q xc) rfl (by kernel_rfl) (by kernel_rfl) (by kernel_rfl) (fun _ _ _ h => h) (Or.inl ⟨by rfl, fun w => by go_simp⟩) ?_
      refine wpAny_ready (rs := [7]) (by kernel_rfl) (by simp) ?_
      refine AllReady.cons rfl (fun K hK => ?_) AllReady.nil
      refine step_append_rd rfl _ _ 24 rfl w.heap.size 77 i0 (.agg #[.string ⟨#[]⟩, .int .i64 0, .string ⟨#[]⟩]) 3 40 Try.underlying24 hi hz0 hz1 hz2 rfl (by decide) v _ _ rfl (show W.drew.ownsRow _ _ _ _ _ _ from hrow) (some ⟨xb, xo, none⟩) w.heap.size q _ (flat (rows.take q)) rfl (show Rd W.drew _ _ _ _ _ from hxW) (flat_one0 _) (by unfold maxLen; omega) (by omega) hsW ?_
      intro v' w2 hown' hgrow hblk
      obtain ⟨vb, vc, rfl, _⟩ := own_slice2 hown'
      obtain ⟨hv1, hv2, hr2, hk2, hb2⟩ := boxed_appended hv (by decide) hrow hsW (by omega) hown' hgrow
      have hc1 := hv1.cell
      have hf1 := hv1.frozen
      refine hK _ _ ?_
      clear hK K
      refine wpAny_ready (rs := [8]) (by kernel_rfl) (by simp) ?_
      refine AllReady.cons rfl (fun K hK => ?_) AllReady.nil
      go_simp
      refine hK _ _ ?_
      clear hK K
      refine wpAny_done (by kernel_rfl) ?_ _
      exact ⟨hk2, hb2, ⟨⟨_, hv2, by rw [hEq.out, List.length_append, List.length_take, hxl, Nat.min_eq_left hqn, flat_append]; exact hr2, trivial⟩, ((show Boxed W.drew _ _ _ from hN).kept hgrow (hN.not_row (by decide) hrow)).other (by omega) _⟩, hB.trans hb2⟩
    · refine AllReady.cons rfl (fun K hK => ?_) AllReady.nil
      go_simp
      refine hK _ _ ?_
      clear hK K
      refine wpAny_take (i := 5) (v := .int .i64 (q : Int)) rfl (by kernel_rfl) (by kernel_rfl) (by kernel_rfl) (fun _ _ _ h => h) (Or.inl ⟨by rfl, fun w => by go_simp⟩) ?_
      refine wpAny_take (i := 6) (v := .slice (some ⟨xb, xo, none⟩) q xc) rfl (by kernel_rfl) (by kernel_rfl) (by kernel_rfl) (fun _ _ _ h => h) (Or.inl ⟨by rfl, fun w => by go_simp⟩) ?_
      refine wpAny_ready (rs := [0]) (by kernel_rfl) (by simp) ?_
      refine AllReady.cons rfl (fun K hK => ?_) AllReady.nil
      go_simp
      refine hK _ _ ?_
      clear hK K
      refine wpAny_ready (rs := [7]) (by kernel_rfl) (by simp) ?_
      refine AllReady.cons rfl (fun K hK => ?_) AllReady.nil
      refine step_append_rd rfl _ _ 24 rfl w.heap.size 77 i0 (.agg #[.string ⟨#[]⟩, .int .i64 0, .string ⟨#[]⟩]) 3 40 Try.underlying24 hi hz0 hz1 hz2 rfl (by decide) v _ _ rfl (show W.drew.ownsRow _ _ _ _ _ _ from hrow) (some ⟨xb, xo, none⟩) w.heap.size q _ (flat (rows.take q)) rfl (show Rd W.drew _ _ _ _ _ from hxW) (flat_one0 _) (by unfold maxLen; omega) (by omega) hsW ?_
      intro v' w2 hown' hgrow hblk
      obtain ⟨vb, vc, rfl, _⟩ := own_slice2 hown'
      obtain ⟨hv1, hv2, hr2, hk2, hb2⟩ := boxed_appended hv (by decide) hrow hsW (by omega) hown' hgrow
      have hc1 := hv1.cell
      have hf1 := hv1.frozen
      refine hK _ _ ?_
      clear hK K
      refine wpAny_ready (rs := [8]) (by kernel_rfl) (by simp) ?_
      refine AllReady.cons rfl (fun K hK => ?_) AllReady.nil
      go_simp
      refine hK _ _ ?_
      clear hK K
      refine wpAny_done (by kernel_rfl) ?_ _
      exact ⟨hk2, hb2, ⟨⟨_, hv2, by rw [hEq.out, List.length_append, List.length_take, hxl, Nat.min_eq_left hqn, flat_append]; exact hr2, trivial⟩, ((show Boxed W.drew _ _ _ from hN).kept hgrow (hN.not_row (by decide) hrow)).other (by omega) _⟩, hB.trans hb2⟩
  case done =>
    rintro D ys W hD hys ⟨⟨⟨v, hv, hrow, _⟩, hN⟩, hB⟩ hK
    obtain ⟨fb, fc, rfl, _⟩ := own_slice2 hrow
    have hc := hv.cell
    gi_wp2_with fail
    rw [hys] at hrow
    refine ⟨by simp, .inl ⟨_, _, rfl, run_takeDeferred hK, ?_⟩⟩
    exact ⟨_, results_tmp2 rfl _ _ _, fb, fc, by simp, (hW0.trans hB).trans (belowK_b (w := w) (Nat.le_refl _) W D _ _ (by omega) hK rfl rfl), ownsRow_putObj hrow _ hK rfl⟩
  case stop =>
    rintro D c pre W _ _ h _
    exact h.elim
set_option maxRecDepth 100000 in
set_option maxHeartbeats 1000000 in
theorem implFirstOf_no (a : Option Addr) (n cap : Nat) (N : Int) (rs : List RowV) (w : World) (hm : n ≤ 1048576) (hok : ∀ r ∈ rs, r.Ok) (hR : Rd w w.heap.size 3 a n (flat rs)) (hq : firstB rs N = false) :
    Calls Try.prog 18 #[.slice a n cap, .int .i64 N] w fun e w' => e = .returned (.tuple #[.slice none 0 0, .bool false]) ∧ Below w.heap.size w w' := by
  have hb0 := bl1 w (.cells #[.int .i64 N] 2)
  have bN := Boxed.new w 2 (.int .i64 N)
  have C0 := implSortedOk_any a n cap rs _ hm hok ((hR.below hb0 (Nat.le_refl _)).more hb0.size)
  unfold firstB at hq
  cases hs : sortedOk rs
  case false =>
    rw [hs] at C0
    clear hq hs
    go_enter Try.func18, Try.ntmps18
    go_wp2_with fail
    refine C0.mono ?_
    rintro e w1 ⟨rfl, hb⟩
    have hb' := hb0.trans (hb.mono hb0.size)
    go_wp2_with fail
    go_ret2
    exact ⟨rfl, hb'⟩
  rw [hs] at C0 hq
  have hN : N < 0 := by simpa using hq
  have hN0 : decide (N < 0) = true := decide_eq_true hN
  clear hq hs
  go_enter Try.func18, Try.ntmps18
  go_wp2_with fail
  refine C0.mono ?_
  rintro e w1 ⟨rfl, hb⟩
  have hb' := hb0.trans (hb.mono hb0.size)
  have n1 := (hb.cell (p := ⟨w.heap.size, 0, none⟩) bN.lt).trans bN.cell
  go_wp2_with fail
  go_ret2
  exact ⟨rfl, hb'⟩
theorem sortedOk_le4 {rs : List RowV} (h : sortedOk rs = true) : rs.length ≤ 120 := by
  unfold sortedOk at h
  rw [Bool.and_eq_true] at h
  have h1 := h.1
  unfold rowsOk at h1
  rw [Bool.and_eq_true] at h1
  exact of_decide_eq_true h1.1
theorem implFirstOf_any (a : Option Addr) (n cap : Nat) (rs : List RowV) (N : Int) (w : World) (hm : n ≤ 1048576) (hnc : n ≤ cap) (hok : ∀ r ∈ rs, r.Ok) (hR : Rd w w.heap.size 3 a n (flat rs)) :
    Calls Try.prog 18 #[.slice a n cap, .int .i64 N] w fun e w' => ∃ b c, e = .returned (.tuple #[.slice b (firstS rs N).length c, .bool (firstB rs N)]) ∧ Below w.heap.size w w' ∧ w'.ownsRow w.heap.size 77 3 (.slice b (firstS rs N).length c) (firstS rs N).length (flat (firstS rs N)) := by
  unfold firstS
  cases hq : firstB rs N
  case false =>
    refine (implFirstOf_no a n cap N rs w hm hok hR hq).mono ?_
    rintro e w' ⟨rfl, hb⟩
    exact ⟨none, 0, rfl, hb, World.ownsRow_nil _ _ _ _⟩
  have hq2 := hq
  unfold firstB at hq2
  rw [Bool.and_eq_true] at hq2
  have hN : 0 ≤ N := of_decide_eq_true hq2.2
  obtain ⟨M, rfl⟩ : ∃ M : Nat, N = (M : Int) := ⟨N.toNat, by omega⟩
  exact implFirstOf_yes a n cap M rs w (by have := hR.rows_length; have := sortedOk_le4 hq2.1; omega) hnc hok hR hq2.1
end Go.Proofs.Ytjepmcepgoncnaa

namespace Go.Proofs.Ytjepmcepgoncnaa
open Go.RowKit
theorem groups_flat : ∀ (n : Nat) (l : List RowV), l.length ≤ n → (groupsR l).flatMap (·.2) = l
  | _, [], _ => rfl
  | 0, _ :: _, h => by simp at h
  | n + 1, r :: l, h => by
    have hp := leadN_pos r l
    rw [groupsR_next, List.flatMap_cons, groups_flat n _ (by rw [List.length_drop]; rw [List.length_cons] at h ⊢; omega)]
    show leadL r.key (r :: l) ++ _ = _
    rw [← lead_take, List.take_append_drop]
theorem firstL_len (M : Nat) : ∀ G : List (ByteArray × List RowV), (firstL M G).length ≤ (G.flatMap (·.2)).length
  | [] => Nat.le_refl _
  | g :: G => by
    have ih := firstL_len M G
    have e : firstL M (g :: G) = g.2.take M ++ firstL M G := by simp [firstL]
    rw [e, List.flatMap_cons, List.length_append, List.length_append, List.length_take]
    omega
theorem firstL_take {M k : Nat} {G : List (ByteArray × List RowV)} {key : ByteArray} {rs : List RowV} (h : G[k]? = some (key, rs)) : firstL M (G.take (k + 1)) = firstL M (G.take k) ++ rs.take M := by
  rw [List.take_add_one, h, Option.toList_some, firstL_snoc]
theorem firstL_part (M k : Nat) (G : List (ByteArray × List RowV)) : (firstL M (G.take k)).length ≤ (firstL M G).length := by
  have e : firstL M G = firstL M (G.take k) ++ firstL M (G.drop k) := by
    unfold firstL
    rw [← List.flatMap_append, List.take_append_drop]
  rw [e, List.length_append]
  omega
theorem firstS_le (rs : List RowV) (N : Int) : (firstS rs N).length ≤ 1048576 := by
  unfold firstS
  split
  · rename_i h
    simp only [firstB, Bool.and_eq_true] at h
    have h1 := sortedOk_le4 h.1
    have h2 := firstL_len N.toNat (groupsR rs)
    rw [groups_flat _ rs (Nat.le_refl _)] at h2
    omega
  · exact Nat.zero_le _
theorem flat_oneF (l : List RowV) : ∀ u ∈ flat l, u.oneCell' = true := flat_one0 l
set_option maxRecDepth 100000 in
set_option maxHeartbeats 4000000 in
theorem specFirstOf_any (a : Option Addr) (n cap : Nat) (rs : List RowV) (N : Int) (w : World) (hm : n ≤ 1048576) (hok : ∀ r ∈ rs, r.Ok) (hR : Rd w w.heap.size 3 a n (flat rs)) :
    Calls Try.prog 16 #[.slice a n cap, .int .i64 N] w (FirstOfOut rs N w) := by
  have C0 := specSortedOk_any a n cap rs w hm hok hR
  unfold FirstOfOut
  cases hq : sortedOk rs
  case false =>
    rw [hq] at C0
    have E : firstB rs N = false := by unfold firstB; rw [hq]; rfl
    have E2 : firstS rs N = [] := by unfold firstS; rw [E]; rfl
    rw [E2, E]
    clear hq E E2
    go_enter Try.func16, Try.ntmps16
    go_wp2_with fail
    refine C0.mono ?_
    rintro e w1 ⟨rfl, hb⟩
    go_wp2_with fail
    go_ret2
    exact ⟨none, 0, rfl, hb, World.ownsRow_nil _ _ _ _⟩
  rw [hq] at C0
  cases hp : decide (0 ≤ N)
  case false =>
    have E : firstB rs N = false := by unfold firstB; rw [hp, Bool.and_false]
    have E2 : firstS rs N = [] := by unfold firstS; rw [E]; rfl
    rw [E2, E]
    have hN : decide (N < 0) = true := by simpa using hp
    clear hq E E2 hp
    go_enter Try.func16, Try.ntmps16
    go_wp2_with fail
    refine C0.mono ?_
    rintro e w1 ⟨rfl, hb⟩
    go_wp2_with fail
    go_ret2
    exact ⟨none, 0, rfl, hb, World.ownsRow_nil _ _ _ _⟩
  have hN1 : 0 ≤ N := by simpa using hp
  obtain ⟨M, rfl⟩ : ∃ M : Nat, N = (M : Int) := ⟨N.toNat, by omega⟩
  clear hN1
  have E : firstB rs M = true := by unfold firstB; rw [hp, hq]; rfl
  have E2 : firstS rs M = firstL M (groupsR rs) := by unfold firstS; rw [if_pos E]; rfl
  have hle := firstS_le rs M
  rw [E2] at hle
  rw [E2, E]
  have hM0 : decide ((M : Int) < 0) = false := decide_eq_false (by omega)
  have HP := Lib.hid (fun k => firstL_part M k (groupsR rs))
  generalize hT : firstL M (groupsR rs) = T
  have HT := Lib.hid hT
  rw [hT] at hle HP
  clear hq E E2 hp hT
  obtain ⟨i0, hi, hz0, hz1, hz2⟩ := info_parts infoRow
  go_enter Try.func16, Try.ntmps16
  go_wp2_with fail
  refine C0.mono ?_
  rintro e w1 ⟨rfl, hb⟩
  have hOn := World.ownsRow_lit (base := w1.heap.size) (e := 77) (size := 3) w1 #[] 0 (Nat.le_refl _) (Nat.zero_le _) rfl
  have hb1 := hb.trans ((bl1 w1 (.cells #[] 77)).mono hb.size)
  have H0 := Lib.hid (show (w1.alloc (.cells #[] 77)).heap.size = w1.heap.size + 1 by simp)
  have HZ := Lib.hid hb.size
  clear C0 hb
  go_wp2_with fail
  have R1 := (hR.below hb1 (Nat.le_refl _)).more hb1.size
  generalize w1.alloc (.cells #[] 77) = w2 at *
  refine (l4Groups_any a n cap rs w2 hm R1).mono ?_
  rintro e w3 ⟨ga, gc, gs, rfl, hb2, hG⟩
  have O1 := own_base' (own_below hOn hb2) HZ.out
  have B1 := hb1.trans (hb2.mono hb1.size)
  have G1 := GIn.of_own hG
  have s1 := hb2.size
  have A1 : Apart w2.heap.size w3.heap.size (.slice (some ⟨w1.heap.size, 0, none⟩) 0 0) := Apart.at_ (.inl (by have := H0.out; omega))
  have hgl : (groupsR rs).length ≤ 1048576 := by have := hG.len.2; have := groupsF_le rs.length rs; have := hR.rows_length; unfold groupsR; omega
  clear hG hOn hb1 hb2 R1 H0 hR
  generalize groupsR rs = G at *
  go_wp2_with fail
  obtain ⟨ng, hng⟩ : ∃ k, G.length = k := ⟨_, rfl⟩
  rw [hng] at hgl ⊢
  go_loopw [6, 8] (fun v i wr => ∃ (k q : Nat) (g : Option Addr) (c : Nat), k ≤ ng ∧ i = .int .i64 k ∧ v = .slice g q c ∧ q ≤ 1048576 ∧ Hid ((firstL M (G.take k)).length = q) ∧ wr.ownsRow w.heap.size 77 3 (.slice g q c) q (flat (firstL M (G.take k))) ∧ Below w.heap.size w wr ∧ GIn wr w2.heap.size w3.heap.size ga G ∧ Hid (Apart w2.heap.size w3.heap.size (.slice g q c)) ∧ w3.heap.size ≤ wr.heap.size) (fun _ j _ => ng - (intOf j).toNat)
  case atStart => exact ⟨0, 0, _, _, Nat.zero_le _, rfl, rfl, Nat.zero_le _, Lib.hid rfl, O1, B1, G1, Lib.hid A1, Nat.le_refl _⟩
  case round =>
    obtain ⟨k, q, g, c, hk, rfl, rfl, hq, HQ, hO, hb, hG, HA, hs⟩ := hrel
    clear O1 B1 G1 A1
    by_cases hlt : k < ng
    · obtain ⟨⟨key, xs⟩, hx⟩ : ∃ x, G[k]? = some x := ⟨_, List.getElem?_eq_getElem (by omega)⟩
      obtain ⟨b, ra, rc, rfl, h1, h2, _, c1, hxc, hxr⟩ := hG k key xs hx
      have E := Lib.hid (firstL_take (M := M) hx)
      obtain ⟨p, hp1, hp2⟩ : ∃ p : Nat, min (M : Int) (xs.length : Int) = (p : Int) ∧ p = min M xs.length := ⟨min M xs.length, by omega, rfl⟩
      have hTk : xs.take M = xs.take p := by
        rw [hp2]
        rcases Nat.le_total M xs.length with h | h
        · rw [Nat.min_eq_left h]
        · rw [Nat.min_eq_right h, List.take_of_length_le (by omega), List.take_of_length_le (by omega)]
      have hpx : p ≤ xs.length := by omega
      have HPL := Lib.hid (show (firstL M (G.take (k + 1))).length = q + p by rw [E.out, List.length_append, HQ.out, List.length_take]; omega)
      have hqp : q + p ≤ 1048576 := by have := HP.out (k + 1); rw [HPL.out] at this; omega
      have E3 := Lib.hid (show firstL M (G.take (k + 1)) = firstL M (G.take k) ++ xs.take p by rw [E.out, hTk])
      have hX : Rd wr.drew wr.drew.heap.size 3 ra p (flat (xs.take p)) := ((hxr.rd.more hs).head hpx)
      have hp3 : p ≤ rc := by omega
      have hp4 : (0 : Int) ≤ (p : Int) := by omega
      have hp5 : (p : Int) ≤ (rc : Int) := by omega
      have hl1 : q + p ≤ maxLen := by unfold maxLen; omega
      have hl2 : (q + p) * 40 ≤ 140737488355328 := by omega
      have hO' : wr.drew.ownsRow w.heap.size 77 3 (.slice g q c) q (flat (firstL M (G.take k))) := hO
      have hsd : w.heap.size ≤ wr.drew.heap.size := hb.size
      have c1' : wr.drew.cell? ⟨b, k * 2 + 1, none⟩ = some (.slice ra xs.length rc) := c1
      have HX := Lib.hid hX
      have HO := Lib.hid hO'
      have HB := Lib.hid hb.drew
      have HG := Lib.hid hG
      clear hx hp2 hTk hxr hX hO hO' hb hG E
      go_wp2_with fail
      go_region_law (refine step_append_rd rfl (.tmp 25) (.tmp 39) 24 rfl w.heap.size 77 i0 (.agg #[.string ⟨#[]⟩, .int .i64 0, .string ⟨#[]⟩]) 3 40 Try.underlying24 hi hz0 hz1 hz2 rfl (by decide) (.slice g q c) q _ rfl HO.out ra _ p rc (flat (xs.take p)) rfl HX.out (flat_oneF _) hl1 hl2 hsd ?_; intro v' w4 hO4 hg4 hat; obtain ⟨a4, c4, rfl⟩ := own_slice' hO4)
      all_goals
        have hb4 : Below w.heap.size w w4 := HB.out.grown hg4 hsd (fun q e => (own_ge HO.out q e).1)
        have hG4 := GIn.gb (show GIn wr.drew w2.heap.size w3.heap.size _ G from HG.out) hg4 hs HA.out
        have HA4 := Lib.hid (HA.out.next hat hs)
        have hs4 : w3.heap.size ≤ w4.heap.size := Nat.le_trans hs hg4.size
        have hO5 : w4.ownsRow w.heap.size 77 3 (.slice a4 (q + p) c4) (q + p) (flat (firstL M (G.take (k + 1)))) := by
          rw [E3.out, flat_append]; exact hO4
        clear hO4 hg4 hat HO HX HB HG HA HQ E3 c1' c1
        go_wp2_with fail
        go_roundw
        case rel => exact ⟨k + 1, q + p, a4, c4, by omega, by go_num, rfl, hqp, HPL, hO5, hb4, hG4, HA4, hs4⟩
        case measure => simp [intOf]; omega
    · obtain rfl : k = ng := by omega
      have e : G.take k = G := List.take_of_length_le (by omega)
      have hl := HQ.out
      rw [e, HT.out] at hO hl
      have HL := Lib.hid hl
      clear e hl HP HQ
      go_wp2_with fail
      go_ret2
      refine ⟨g, c, ?_, hb, ?_⟩
      · rw [HL.out]; rfl
      · rw [HL.out]; exact hO
end Go.Proofs.Ytjepmcepgoncnaa

namespace Go.Proofs.Ytjepmcepgoncnaa
open Go.RowKit Go.Shelf
attribute [local go_sem] Oper.semAt_some
theorem GOwn.bnd {w : World} {lo n c : Nat} {a : Option Addr} {gs : List (ByteArray × Value)} {G : List (ByteArray × List RowV)} (h : GOwn w lo a n c gs G) : BndG w.heap.size a gs := by
  constructor
  · intro v hv g hg
    obtain ⟨i, hi, e⟩ := List.mem_iff_getElem.1 hv
    have h1 : (gs.map (·.2))[i]? = some v := by rw [List.getElem?_eq_getElem hi, e]
    have h2 : (G.map (·.2))[i]? = some ((G.map (·.2))[i]'(by rw [← h.fam.len]; exact hi)) := List.getElem?_eq_getElem _
    exact (own_ge (h.fam.own i v _ h1 h2) g hg).2
  · rintro b o rfl
    rcases h.outer.2 with ⟨hv, _⟩ | ⟨g, cap, cur, hv, _, hgb, _⟩
    · cases hv
    · injection hv with hv
      injection hv with hv
      injection hv with h1
      subst h1
      exact (Array.getElem?_eq_some_iff.1 hgb).1
def groupsOfB (rs : List RowV) : Bool := sortedOk rs
def groupsOfS (rs : List RowV) : List (ByteArray × List RowV) := if groupsOfB rs = true then groupsR rs else []
theorem sizeG_flat : ∀ G : List (ByteArray × List RowV), sizeG G = G.length + 3 * (G.flatMap (·.2)).length
  | [] => rfl
  | g :: G => by
    rw [sizeG, sizeG_flat G, List.flatMap_cons, List.length_append, List.length_cons]
    omega
theorem groups_flatG : ∀ (n : Nat) (l : List RowV), l.length ≤ n → (groupsR l).flatMap (·.2) = l
  | _, [], _ => rfl
  | 0, _ :: _, h => by simp at h
  | n + 1, r :: l, h => by
    have hp := leadN_pos r l
    rw [groupsR_next, List.flatMap_cons, groups_flatG n _ (by rw [List.length_drop]; rw [List.length_cons] at h ⊢; omega)]
    show leadL r.key (r :: l) ++ _ = _
    rw [← lead_take, List.take_append_drop]
theorem sorted_few {rs : List RowV} (h : sortedOk rs = true) : rs.length ≤ 120 := by
  unfold sortedOk at h
  rw [Bool.and_eq_true] at h
  have h1 := h.1
  unfold rowsOk at h1
  rw [Bool.and_eq_true] at h1
  exact of_decide_eq_true h1.1
theorem groupsOfS_le (rs : List RowV) : (groupsOfS rs).length ≤ 1048576 ∧ sizeG (groupsOfS rs) ≤ 1048576 := by
  unfold groupsOfS
  split
  · rename_i h
    have h1 := sorted_few h
    have h2 := groupsF_le rs.length rs
    have h3 := sizeG_flat (groupsR rs)
    rw [groups_flatG _ rs (Nat.le_refl _)] at h3
    have h4 : (groupsR rs).length ≤ rs.length := h2
    exact ⟨by omega, by omega⟩
  · exact ⟨Nat.zero_le _, Nat.zero_le _⟩
theorem GOwn.nilG (w : World) (lo : Nat) : GOwn w lo none 0 0 [] [] := ⟨World.ownsRow_nil _ _ _ _, rfl, Fam.nil _ _, fun v hv => by cases hv⟩
theorem kept_rowG {X Y : World} {row : Option Nat} {n₀ e size n : Nat} {v : Value} {xs : List Value} (hr : X.ownsRow n₀ e size v n xs) (hg : X.grownBy Y row) (hrow : ∀ r, row = some r → ∃ o : Obj, X.heap[r]? = some o ∧ o.isCells = false) : Y.ownsRow n₀ e size v n xs := by
  refine hr.kept hg ?_
  rcases hr.2 with ⟨rfl, _⟩ | ⟨g, cap, cur, rfl, _, hgb, _⟩
  · exact .inl rfl
  · refine .inr fun e' => ?_
    obtain ⟨o, ho, hc⟩ := hrow g (by simpa [Value.ownBlock] using e'.symm)
    rw [hgb] at ho; cases ho; cases hc
theorem GOwn.keptRow {X Y : World} {row : Option Nat} {lo n c : Nat} {a : Option Addr} {gs : List (ByteArray × Value)} {G : List (ByteArray × List RowV)} (h : GOwn X lo a n c gs G) (hg : X.grownBy Y row) (hrow : ∀ r, row = some r → ∃ o : Obj, X.heap[r]? = some o ∧ o.isCells = false) : GOwn Y lo a n c gs G :=
  ⟨kept_rowG h.outer hg hrow, h.keys, ⟨h.fam.len, fun i v rs hv hr => kept_rowG (h.fam.own i v rs hv hr) hg hrow, h.fam.sep⟩, h.out⟩
theorem GOwn.setBox {W : World} {B lo n c : Nat} {t : TypeId} {u x : Value} {a : Option Addr} {gs : List (ByteArray × Value)} {G : List (ByteArray × List RowV)} (h : GOwn W lo a n c gs G) (hv : Boxed W B t u) (h1 : t ≠ 39) (h2 : t ≠ 77) : GOwn (W.setCell ⟨B, 0, none⟩ x) lo a n c gs G :=
  ⟨h.outer.kept (grownBy_setCell' W B x) (.inr (hv.not_row h1 h.outer).symm), h.keys, ⟨h.fam.len, fun i v rs hw hr => (h.fam.own i v rs hw hr).kept (grownBy_setCell' W B x) (.inr (hv.not_row h2 (h.fam.own i v rs hw hr)).symm), h.fam.sep⟩, h.out⟩
/-- A box holds a slice of groups. -/
def BoxGroups (B n₀ : Nat) (W : World) (G : List (ByteArray × List RowV)) : Prop := ∃ a c gs, Boxed W B 35 (.slice a G.length c) ∧ GOwn W n₀ a G.length c gs G
theorem boxGroups_own {β : Type} (B n₀ : Nat) (f : β → List (ByteArray × List RowV)) : Own (fun s W => BoxGroups B n₀ W (f s)) := by
  rintro s X Y row ⟨a, c, gs, hv, hP⟩ hg hrow
  refine ⟨a, c, gs, hv.kept hg (fun e' => ?_), hP.keptRow hg hrow⟩
  obtain ⟨o, ho, hc⟩ := hrow B e'.symm
  rw [show X.heap[B]? = _ from hv] at ho; cases ho; cases hc
theorem keeps_of_belowG {W W' : World} (h : Below W.heap.size W W') : KeepsOthers W W' := ⟨h.size, fun i _ hi _ => (h.block i (Array.getElem?_eq_some_iff.1 hi).1).trans hi⟩
theorem keeps_rowG {X Y : World} {n₀ e size n : Nat} {v : Value} {xs : List Value} (hr : X.ownsRow n₀ e size v n xs) (hg : X.grownBy Y v.ownBlock) : KeepsOthers X Y := by
  refine KeepsOthers.of_grownBy hg fun j o ej hj => ?_
  rcases hr.2 with ⟨rfl, _⟩ | ⟨g, cap, cur, rfl, _, hgb, _⟩
  · simp [Value.ownBlock] at ej
  · obtain rfl : g = j := by simpa [Value.ownBlock] using ej
    rw [hgb] at hj; cases hj; rfl
/-- One more group at the end of the list in the box: a call that copies its rows, an append, a store. -/
theorem round_groups {W w2 w4 : World} {B n₀ c c' : Nat} {b a' : Option Addr} {k : ByteArray} {v : Value} {gs : List (ByteArray × Value)} {D : List (ByteArray × List RowV)} {rs : List RowV} {o : Obj} (hv : Boxed W B 35 (.slice b D.length c)) (hP : GOwn W n₀ b D.length c gs D) (hn : n₀ ≤ W.heap.size) (hB : n₀ ≤ B)
    (hb : Below W.heap.size W w2) (hO : w2.ownsRow W.heap.size 77 3 v rs.length (flat rs))
    (hg4 : (w2.alloc o).grownBy w4 (Value.slice b D.length c).ownBlock) (hO4 : w4.ownsRow n₀ 39 2 (.slice a' (D.length + 1) c') (D.length + 1) (gcells gs ++ [.string k, v])) (hat : (Value.slice a' (D.length + 1) c').ownBlock = (Value.slice b D.length c).ownBlock ∨ (Value.slice a' (D.length + 1) c').ownBlock = some (w2.alloc o).heap.size) :
    Boxed w4 B 35 (.slice b D.length c) ∧ BoxGroups B n₀ (w4.setCell ⟨B, 0, none⟩ (.slice a' (D.length + 1) c')) (D ++ [(k, rs)]) ∧ Below n₀ W (w4.setCell ⟨B, 0, none⟩ (.slice a' (D.length + 1) c')) ∧ KeepsOthers W (w4.setCell ⟨B, 0, none⟩ (.slice a' (D.length + 1) c')) := by
  have hv2 : Boxed w2 B 35 (.slice b D.length c) := (hb.block _ hv.lt).trans hv
  have hP2 := hP.below hb
  have hb3 : Below W.heap.size W (w2.alloc o) := hb.alloc hb.size o
  have hv4 : Boxed w4 B 35 (.slice b D.length c) := (hv2.alloc o).kept hg4 (hv2.not_row (by decide) hP2.outer)
  have hP4 := hP.snoc hn hb3 (hO.alloc o) hg4 hO4 hat
  have hl : (D ++ [(k, rs)]).length = D.length + 1 := by rw [List.length_append, List.length_singleton]
  have hb4 : Below n₀ W w4 := ((hb.mono hn).alloc (Nat.le_trans hn hb.size) o).grown hg4 (by have := hb.size; simp; omega) (fun q e => (own_ge hP2.outer q e).1)
  refine ⟨hv4, ⟨a', c', gs ++ [(k, v)], by rw [hl]; exact hv4.set _, by rw [hl]; exact hP4.setBox hv4 (by decide) (by decide)⟩, hb4.setCell (p := ⟨B, 0, none⟩) hB _, ?_⟩
  exact (((keeps_of_belowG hb).trans (KeepsOthers.alloc _ _)).trans (keeps_rowG (hP2.outer.alloc o) hg4)).trans (KeepsOthers.setCell _ _ _)
theorem grps_snocG {w : World} {B : Nat} (l : List (GrpIn w B)) (x : GrpIn w B) : grpsOf (l ++ [x]) = grpsOf l ++ [(x.1.key, x.1.rows)] := by
  unfold grpsOf
  rw [List.map_append]
  rfl
theorem cell_grp_new (w : World) (k : ByteArray) (v : Value) (t : TypeId) (_h1 : v.oneCell' = true) : ∀ j u, [Value.string k, v][j]? = some u → (w.alloc (.cells #[.string k, v] t)).cell? (Addr.add ⟨w.heap.size, 0, none⟩ j) = some u := by
  intro j u hu
  rw [Addr.add_mid, Nat.zero_add]
  rcases j with _ | _ | j <;> simp at hu <;> subst hu <;> simp [go_sem]
set_option maxRecDepth 100000 in
set_option maxHeartbeats 4000000 in
theorem implGroupsOf_yes (a : Option Addr) (n cap : Nat) (rs : List RowV) (w : World) (hm : n ≤ 1048576) (hnc : n ≤ cap) (hok : ∀ r ∈ rs, r.Ok) (hR : Rd w w.heap.size 3 a n (flat rs)) (hs : sortedOk rs = true) :
    Calls Try.prog 25 #[.slice a n cap] w fun e w' => ∃ b c gs, e = .returned (.tuple #[.slice b (groupsR rs).length c, .bool true]) ∧ Below w.heap.size w w' ∧ GOwn w' w.heap.size b (groupsR rs).length c gs (groupsR rs) := by
  obtain ⟨i1, hi, hz0, hz1, hz2⟩ := info_parts infoGroup
  have C0 := implSortedOk_any a n cap rs w hm hok hR
  rw [hs] at C0
  have hn120 := sorted_few hs
  have HRL := Lib.hid hR.rows_length
  have CB := fun w => byKey_any a n cap w
  clear hok hs
  refine (callsIn_wide (n := 5)).1 ?_
  refine callsIn_of_wp_marks Try.func25 rfl trivial ?_ rfl
  simp only [Try.ntmps25, List.size_toArray, List.length_cons, List.length_nil, Nat.reduceAdd, Nat.reduceSub, Array.replicate_succ, Array.replicate_zero, List.push_toArray, List.append_toArray, List.nil_append, List.cons_append]
  gi_wp2_with fail
  refine ⟨trivial, ?_⟩
  refine (callsIn_wide.2 C0).mono ?_
  rintro e w1 ⟨rfl, hb1⟩
  have bF := Boxed.new w1 35 (.slice none 0 0)
  have bF2 := bl1 w1 (.cells #[.slice none 0 0] 35)
  have hR1 := hR.below hb1 (Nat.le_refl _)
  clear C0
  gi_wp2_with fail
  refine ⟨trivial, ?_⟩
  refine (callsIn_wide.2 (CB _)).mono ?_
  rintro e w2 ⟨rfl, rfl⟩
  gi_wp2_with fail
  have hW1 := bF2.alloc (by have := bF2.size; omega) (.cells #[.slice a n cap] 24)
  have bF3 := bF.alloc (.cells #[.slice a n cap] 24)
  have bC := Boxed.new (w1.alloc (.cells #[.slice none 0 0] 35)) 24 (.slice a n cap)
  rw [World.size_alloc] at bC
  have hR0 := hR1.below (hW1.mono hb1.size) (Nat.le_refl _)
  have hW0 := hb1.trans (hW1.mono hb1.size)
  generalize hWe : ((w1.alloc (.cells #[.slice none 0 0] 35)).alloc (.cells #[.slice a n cap] 24)) = W0 at *
  have hsz : w.heap.size ≤ W0.heap.size := hW0.size
  have hl2 : w.heap.size ≤ w1.heap.size := hb1.size
  clear hWe
  refine wpIn_rangeFunc_ownF rfl (by omega) (gf := 105) (lb := #[.pointer (some ⟨w1.heap.size + 1, 0, none⟩)]) rfl trivial (enters_of Try.func105 (by kernel_rfl) rfl)
    (byKey_stops _ (w1.heap.size + 1) w.heap.size a n cap rs hm hnc W0 hsz bC.cell bC.lt hR0) belowK_t (belowK_b hsz) (Below.refl _ _) (fun _ => rfl)
    (fun (pre : List (GrpIn W0 w.heap.size)) W => BoxGroups w1.heap.size w.heap.size W (grpsOf pre) ∧ Below w.heap.size W0 W)
    (fun _ _ _ => False)
    (OwnFrom.and (Own.from (boxGroups_own _ _ _) _) (ownFrom_below hsz hsz))
    (fun _ _ _ _ _ hs _ _ => hs)
    ⟨⟨_, _, [], bF3, GOwn.nilG _ _⟩, Below.refl _ _⟩
    (fun x => { tmps := #[.slice a n cap, undef, .slice none 0 0, .bool false, .pointer (some ⟨w1.heap.size, 0, none⟩), .string x.1.key, .slice x.1.a x.1.n x.1.c, .slice a n cap, .bool true, .bool false, .slice a n cap, .func (.func 105) #[] #[.pointer (some ⟨w1.heap.size + 1, 0, none⟩)], .string x.1.key, .slice x.1.a x.1.n x.1.c, undef, undef, undef, undef, undef, undef, undef, undef], defers := [] })
    ?assign ?body ?done ?stop
  case assign =>
    intro l x W K hK
    simp only [grpV] at *
    gi_wp2_with fail
    exact hK
  case body =>
    rintro l pre x W ⟨⟨b, c, gs, hv, hP⟩, hB⟩ hlt
    have hEq0 := grps_snocG pre x
    have hxR := x.2.1
    have hxm := x.2.2.2.1
    obtain ⟨⟨key, xa, xn, xc, rows⟩, hxp⟩ := x
    dsimp only at hxR hxm hEq0 ⊢
    have hxl : rows.length = xn := hxR.rows_length
    have hc := hv.cell
    have hDl : (grpsOf pre).length ≤ 120 := by rw [show (grpsOf pre).length = pre.length from List.length_map _]; omega
    have hsW : w.heap.size ≤ W.heap.size := Nat.le_trans hsz hB.size
    generalize grpsOf pre = D at *
    have HEQ := Lib.hid hEq0
    clear hEq0
    have RX : Rd W.drew W.drew.heap.size 3 xa xn (flat rows) := (hxR.below hB.drew (Nat.le_refl _)).more hsW
    refine wpIn_block ?_
    refine wpIn_region_round (by kernel_rfl) (by rfl) (by rintro ⟨a, w, h⟩; exact h) ?_
    refine wpAny_take (i := 1) (v := .string key) rfl (by kernel_rfl) (by kernel_rfl) (by kernel_rfl) (fun _ _ _ h => h) (Or.inl ⟨by rfl, fun w => by go_simp⟩) ?_
    refine wpAny_take (i := 2) (v := .slice xa xn xc) rfl (by kernel_rfl) (by kernel_rfl) (by kernel_rfl) (fun _ _ _ h => h) (Or.inl ⟨by rfl, fun w => by go_simp⟩) ?_
    refine wpAny_ready (rs := [0, 3]) (by kernel_rfl) (by simp) ?_
    refine AllReady.cons rfl (fun K hK => ?_) ?_
    · go_simp
      refine hK _ _ ?_
      clear hK K
      refine wpAny_ready (rs := [3]) (by kernel_rfl) (by simp) ?_
      refine AllReady.cons rfl (fun K hK => ?_) AllReady.nil
      go_simp
      refine (clone_any xa xn xc rows W.drew hxm RX).mono ?_
      rintro e w2 ⟨b2, c2, rfl, hO2, hb2x⟩
      refine hK _ _ ?_
      clear hK K
      refine wpAny_take (i := 4) (v := .agg #[.string key, .slice b2 xn c2]) rfl (by kernel_rfl) (by kernel_rfl) (by kernel_rfl) (fun _ _ _ h => h) (Or.inl ⟨by rfl, fun w => by go_simp⟩) ?_
      have hb2 : Below W.heap.size W w2 := (Below.refl W.heap.size W).drew.trans hb2x
      have hO2' : w2.ownsRow W.heap.size 77 3 (.slice b2 xn c2) rows.length (flat rows) := by rw [hxl]; exact hO2
      have hv2 : Boxed w2 w1.heap.size 35 (.slice b D.length c) := (hb2.block _ hv.lt).trans hv
      have hc2 := hv2.cell
      have hc2a := (hv2.alloc (.cells #[.string key, .slice b2 xn c2] 39)).cell
      refine wpAny_ready (rs := [5]) (by kernel_rfl) (by simp) ?_
      refine AllReady.cons rfl (fun K hK => ?_) AllReady.nil
      go_simp
      refine hK _ _ ?_
      clear hK K
      refine wpAny_ready (rs := [6]) (by kernel_rfl) (by simp) ?_
      refine AllReady.cons rfl (fun K hK => ?_) AllReady.nil
      refine step_append_one rfl _ _ 35 rfl w.heap.size 39 i1 (.agg #[.string ⟨#[]⟩, .slice none 0 0]) 2 40 Try.underlying35 hi hz0 hz1 hz2 rfl (by decide) (.slice b D.length c) _ _ rfl ((hP.below hb2).outer.alloc _) ⟨w2.heap.size, 0, none⟩ 1 1 [.string key, .slice b2 xn c2] rfl rfl (cell_grp_new _ _ _ _ rfl) (by intro u hu; simp at hu; rcases hu with rfl | rfl <;> rfl) (by unfold maxLen; omega) (by omega) (by have := hb2.size; simp; omega) ?_
      intro v' w4 hO4 hg4 hat
      obtain ⟨a4, c4, rfl⟩ := own_slice' hO4
      obtain ⟨hv4, hf1, hf2, hf3⟩ := round_groups hv hP hsW hl2 hb2 hO2' hg4 hO4 hat
      have hc4 := hv4.cell
      have hz4 := hv4.frozen
      refine hK _ _ ?_
      clear hK K
      refine wpAny_ready (rs := [7]) (by kernel_rfl) (by simp) ?_
      refine AllReady.cons rfl (fun K hK => ?_) AllReady.nil
      go_simp
      refine hK _ _ ?_
      clear hK K
      refine wpAny_done (by kernel_rfl) ?_ _
      exact ⟨hf3, hf2, by rw [HEQ.out]; exact hf1, hB.trans hf2⟩
    · refine AllReady.cons rfl (fun K hK => ?_) AllReady.nil
      go_simp
      refine (clone_any xa xn xc rows W.drew hxm RX).mono ?_
      rintro e w2 ⟨b2, c2, rfl, hO2, hb2x⟩
      refine hK _ _ ?_
      clear hK K
      refine wpAny_take (i := 4) (v := .agg #[.string key, .slice b2 xn c2]) rfl (by kernel_rfl) (by kernel_rfl) (by kernel_rfl) (fun _ _ _ h => h) (Or.inl ⟨by rfl, fun w => by go_simp⟩) ?_
      have hb2 : Below W.heap.size W w2 := (Below.refl W.heap.size W).drew.trans hb2x
      have hO2' : w2.ownsRow W.heap.size 77 3 (.slice b2 xn c2) rows.length (flat rows) := by rw [hxl]; exact hO2
      have hv2 : Boxed w2 w1.heap.size 35 (.slice b D.length c) := (hb2.block _ hv.lt).trans hv
      have hc2 := hv2.cell
      have hc2a := (hv2.alloc (.cells #[.string key, .slice b2 xn c2] 39)).cell
      refine wpAny_ready (rs := [0, 5]) (by kernel_rfl) (by simp) ?_
      refine AllReady.cons rfl (fun K hK => ?_) ?_
      · go_simp
        refine hK _ _ ?_
        clear hK K
        refine wpAny_ready (rs := [5]) (by kernel_rfl) (by simp) ?_
        refine AllReady.cons rfl (fun K hK => ?_) AllReady.nil
        go_simp
        refine hK _ _ ?_
        clear hK K
        refine wpAny_ready (rs := [6]) (by kernel_rfl) (by simp) ?_
        refine AllReady.cons rfl (fun K hK => ?_) AllReady.nil
        refine step_append_one rfl _ _ 35 rfl w.heap.size 39 i1 (.agg #[.string ⟨#[]⟩, .slice none 0 0]) 2 40 Try.underlying35 hi hz0 hz1 hz2 rfl (by decide) (.slice b D.length c) _ _ rfl ((hP.below hb2).outer.alloc _) ⟨w2.heap.size, 0, none⟩ 1 1 [.string key, .slice b2 xn c2] rfl rfl (cell_grp_new _ _ _ _ rfl) (by intro u hu; simp at hu; rcases hu with rfl | rfl <;> rfl) (by unfold maxLen; omega) (by omega) (by have := hb2.size; simp; omega) ?_
        intro v' w4 hO4 hg4 hat
        obtain ⟨a4, c4, rfl⟩ := own_slice' hO4
        obtain ⟨hv4, hf1, hf2, hf3⟩ := round_groups hv hP hsW hl2 hb2 hO2' hg4 hO4 hat
        have hc4 := hv4.cell
        have hz4 := hv4.frozen
        refine hK _ _ ?_
        clear hK K
        refine wpAny_ready (rs := [7]) (by kernel_rfl) (by simp) ?_
        refine AllReady.cons rfl (fun K hK => ?_) AllReady.nil
        go_simp
        refine hK _ _ ?_
        clear hK K
        refine wpAny_done (by kernel_rfl) ?_ _
        exact ⟨hf3, hf2, by rw [HEQ.out]; exact hf1, hB.trans hf2⟩
      · refine AllReady.cons rfl (fun K hK => ?_) AllReady.nil
        go_simp
        refine hK _ _ ?_
        clear hK K
        refine wpAny_ready (rs := [0]) (by kernel_rfl) (by simp) ?_
        refine AllReady.cons rfl (fun K hK => ?_) AllReady.nil
        go_simp
        refine hK _ _ ?_
        clear hK K
        refine wpAny_ready (rs := [6]) (by kernel_rfl) (by simp) ?_
        refine AllReady.cons rfl (fun K hK => ?_) AllReady.nil
        refine step_append_one rfl _ _ 35 rfl w.heap.size 39 i1 (.agg #[.string ⟨#[]⟩, .slice none 0 0]) 2 40 Try.underlying35 hi hz0 hz1 hz2 rfl (by decide) (.slice b D.length c) _ _ rfl ((hP.below hb2).outer.alloc _) ⟨w2.heap.size, 0, none⟩ 1 1 [.string key, .slice b2 xn c2] rfl rfl (cell_grp_new _ _ _ _ rfl) (by intro u hu; simp at hu; rcases hu with rfl | rfl <;> rfl) (by unfold maxLen; omega) (by omega) (by have := hb2.size; simp; omega) ?_
        intro v' w4 hO4 hg4 hat
        obtain ⟨a4, c4, rfl⟩ := own_slice' hO4
        obtain ⟨hv4, hf1, hf2, hf3⟩ := round_groups hv hP hsW hl2 hb2 hO2' hg4 hO4 hat
        have hc4 := hv4.cell
        have hz4 := hv4.frozen
        refine hK _ _ ?_
        clear hK K
        refine wpAny_ready (rs := [7]) (by kernel_rfl) (by simp) ?_
        refine AllReady.cons rfl (fun K hK => ?_) AllReady.nil
        go_simp
        refine hK _ _ ?_
        clear hK K
        refine wpAny_done (by kernel_rfl) ?_ _
        exact ⟨hf3, hf2, by rw [HEQ.out]; exact hf1, hB.trans hf2⟩
  case done =>
    rintro D ys W hD hys ⟨⟨b, c, gs, hv, hP⟩, hB⟩ hK
    rw [hys] at hv hP
    have hc := hv.cell
    gi_wp2_with fail
    refine ⟨by simp, .inl ⟨_, _, rfl, run_takeDeferred hK, ?_⟩⟩
    exact ⟨_, results_tmp2 rfl _ _ _, b, c, gs, by simp, (hW0.trans hB).trans (belowK_b (w := w) (Nat.le_refl _) W D _ _ (by omega) hK rfl rfl), hP.keptRow (grownBy_putObj' W D _) (fun r e => by cases e; exact ⟨_, hK, rfl⟩)⟩
  case stop =>
    rintro D c pre W _ _ h _
    exact h.elim
set_option maxRecDepth 100000 in
set_option maxHeartbeats 1000000 in
theorem implGroupsOf_any (a : Option Addr) (n cap : Nat) (rs : List RowV) (w : World) (hm : n ≤ 1048576) (hnc : n ≤ cap) (hok : ∀ r ∈ rs, r.Ok) (hR : Rd w w.heap.size 3 a n (flat rs)) :
    Calls Try.prog 25 #[.slice a n cap] w fun e w' => ∃ b c gs, e = .returned (.tuple #[.slice b (groupsOfS rs).length c, .bool (groupsOfB rs)]) ∧ Below w.heap.size w w' ∧ GOwn w' w.heap.size b (groupsOfS rs).length c gs (groupsOfS rs) := by
  unfold groupsOfS groupsOfB
  cases hs : sortedOk rs
  · rw [if_neg (by decide)]
    have C0 := implSortedOk_any a n cap rs w hm hok hR
    rw [hs] at C0
    clear hs
    go_enter Try.func25, Try.ntmps25
    go_wp2_with fail
    refine C0.mono ?_
    rintro e w1 ⟨rfl, hb⟩
    go_wp2_with fail
    go_ret2
    exact ⟨none, 0, [], rfl, hb, GOwn.nilG _ _⟩
  · rw [if_pos rfl]
    exact implGroupsOf_yes a n cap rs w hm hnc hok hR hs
set_option maxRecDepth 100000 in
set_option maxHeartbeats 1000000 in
theorem specGroupsOf_any (a : Option Addr) (n cap : Nat) (rs : List RowV) (w : World) (hm : n ≤ 1048576) (hok : ∀ r ∈ rs, r.Ok) (hR : Rd w w.heap.size 3 a n (flat rs)) :
    Calls Try.prog 48 #[.slice a n cap] w fun e w' => ∃ b c gs, e = .returned (.tuple #[.slice b (groupsOfS rs).length c, .bool (groupsOfB rs)]) ∧ Below w.heap.size w w' ∧ GOwn w' w.heap.size b (groupsOfS rs).length c gs (groupsOfS rs) := by
  have C0 := specSortedOk_any a n cap rs w hm hok hR
  unfold groupsOfS groupsOfB
  cases hs : sortedOk rs
  · rw [if_neg (by decide)]
    rw [hs] at C0
    clear hs
    go_enter Try.func48, Try.ntmps48
    go_wp2_with fail
    refine C0.mono ?_
    rintro e w1 ⟨rfl, hb⟩
    go_wp2_with fail
    go_ret2
    exact ⟨none, 0, [], rfl, hb, GOwn.nilG _ _⟩
  · rw [if_pos rfl]
    rw [hs] at C0
    clear hs
    have CG := fun w h => l4Groups_any a n cap rs w hm h
    unfold GroupsOut at CG
    generalize groupsR rs = T at *
    go_enter Try.func48, Try.ntmps48
    go_wp2_with fail
    refine C0.mono ?_
    rintro e w1 ⟨rfl, hb⟩
    have C1 := CG w1 ((hR.below hb (Nat.le_refl _)).more hb.size)
    clear C0 CG
    go_wp2_with fail
    refine C1.mono ?_
    rintro e w2 ⟨b, c, gs, rfl, hb2, hG⟩
    have B2 := hb.trans (hb2.mono hb.size)
    have hG2 : GOwn w2 w.heap.size b T.length c gs T := ⟨own_base' hG.outer hb.size, hG.keys, ⟨hG.fam.len, fun i v r h1 h2 => own_base' (hG.fam.own i v r h1 h2) hb.size, hG.fam.sep⟩, hG.out⟩
    go_wp2_with fail
    go_ret2
    exact ⟨b, c, gs, rfl, B2, hG2⟩
end Go.Proofs.Ytjepmcepgoncnaa

namespace Go.Proofs.Ytjepmcepgoncnaa
open Go.RowKit
theorem rows_by_keys {g : ByteArray → List ByteArray → List PairV} (hg : ∀ k v, (g k v).length = v.length) : ∀ (K : List ByteArray) (l : List RowV), Rising K → (∀ r ∈ l, r.key ∈ K) → (K.flatMap fun k => g k (valsK l k)).length = l.length
  | [], l, _, h => by
    have : l = [] := List.eq_nil_iff_forall_not_mem.2 fun r hr => by have := h r hr; cases this
    subst this
    rfl
  | x :: K, l, hK, h => by
    obtain ⟨k1, k2⟩ := List.pairwise_cons.1 hK
    have hxK : x ∉ K := fun h => by have := k1 x h; rw [bl_irrefl] at this; cases this
    have ih := rows_by_keys hg K (l.filter fun r => !isKey x r) k2 (fun r hr => by
      rw [List.mem_filter] at hr
      refine (List.mem_cons.1 (h r hr.1)).resolve_left fun e => ?_
      rw [isKey_iff.2 e] at hr
      simp at hr)
    have e : (K.flatMap fun k => g k (valsK l k)) = K.flatMap fun k => g k (valsK (l.filter fun r => !isKey x r) k) := flatMap_congr' fun y hy => by
      have hne : y ≠ x := fun e => hxK (e ▸ hy)
      rw [valsK_rest hne]
    rw [List.flatMap_cons, List.length_append, e, ih, hg]
    unfold valsK
    rw [List.length_map]
    have : ∀ l : List RowV, (l.filter (isKey x)).length + (l.filter fun r => !isKey x r).length = l.length := by
      intro l
      induction l with
      | nil => rfl
      | cons r l ih2 => cases hr : isKey x r <;> simp [hr] <;> omega
    exact this l
theorem flatMap_len_le {α β γ : Type} {f : α → List β} {g : α → List γ} : ∀ {l : List α}, (∀ x ∈ l, (f x).length ≤ (g x).length) → (l.flatMap f).length ≤ (l.flatMap g).length
  | [], _ => by simp
  | x :: l, h => by
    have ih := flatMap_len_le (l := l) fun y hy => h y (List.mem_cons_of_mem _ hy)
    have := h x (List.mem_cons_self)
    rw [List.flatMap_cons, List.flatMap_cons, List.length_append, List.length_append]
    omega
theorem keys_all (a b : List RowV) : Rising (keysOf (sortL (a ++ b))) ∧ ∀ x, x ∈ keysOf (sortL (a ++ b)) ↔ (∃ r ∈ a, r.key = x) ∨ ∃ r ∈ b, r.key = x := by
  refine ⟨keysOf_rising (asc_keys (sortL_asc _)), fun x => ?_⟩
  rw [keysOf_mem]
  constructor
  · rintro ⟨r, hr, e⟩
    rw [(sortL_perm' _).mem_iff, List.mem_append] at hr
    rcases hr with hr | hr
    · exact .inl ⟨r, hr, e⟩
    · exact .inr ⟨r, hr, e⟩
  · rintro (⟨r, hr, e⟩ | ⟨r, hr, e⟩)
    · exact ⟨r, by rw [(sortL_perm' _).mem_iff, List.mem_append]; exact .inl hr, e⟩
    · exact ⟨r, by rw [(sortL_perm' _).mem_iff, List.mem_append]; exact .inr hr, e⟩
theorem keys_left (a b : List RowV) : ∀ r ∈ sortL a, r.key ∈ keysOf (sortL (a ++ b)) := fun r hr => ((keys_all a b).2 r.key).2 (.inl ⟨r, (sortL_perm' a).mem_iff.1 hr, rfl⟩)
/-- A row of the left side alone, for each. -/
def lonelyL (a b : List RowV) : List PairV := (keysOf (sortL (a ++ b))).flatMap fun key => (valsK (sortL a) key).map (leftP key)
theorem lonelyL_length (a b : List RowV) : (lonelyL a b).length = a.length := by
  have := rows_by_keys (g := fun k v => v.map (leftP k)) (by simp) (keysOf (sortL (a ++ b))) (sortL a) (keys_all a b).1 (keys_left a b)
  rw [sortL_length] at this
  exact this
theorem valsK_nil (key : ByteArray) : valsK (sortL []) key = [] := rfl
theorem flatMap_one {α β : Type} (f : α → β) (l : List α) : (l.flatMap fun x => [f x]) = l.map f := by
  induction l with
  | nil => rfl
  | cons x l ih => rw [List.flatMap_cons, ih]; rfl
theorem none_left {n : Int} (hn : n = 2 ∨ n = 4 ∨ n = 6) (a : List RowV) : l5J n a [] = lonelyL a [] := by
  unfold l5J lonelyL
  refine flatMap_congr' fun key _ => ?_
  rw [valsK_nil]
  rcases hn with rfl | rfl | rfl <;> simp [oneK, leftP, flatMap_one]
theorem none_none {n : Int} (hn : n = 1 ∨ n = 3 ∨ n = 5) (a : List RowV) : l5J n a [] = [] := by
  unfold l5J
  rw [List.flatMap_eq_nil_iff]
  intro key _
  rw [valsK_nil]
  rcases hn with rfl | rfl | rfl <;> simp [oneK]
theorem self_semi (a : List RowV) : l5J 5 a a = lonelyL a a := by
  unfold l5J lonelyL
  refine flatMap_congr' fun key _ => ?_
  cases h : valsK (sortL a) key with
  | nil => simp [oneK]
  | cons x l => simp [oneK, leftP, flatMap_one]
theorem self_anti (a : List RowV) : l5J 6 a a = [] := by
  unfold l5J
  rw [List.flatMap_eq_nil_iff]
  intro key _
  cases h : valsK (sortL a) key with
  | nil => simp [oneK]
  | cons x l => simp [oneK]
theorem self_full (a : List RowV) : l5J 4 a a = l5J 1 a a := by
  unfold l5J
  refine flatMap_congr' fun key _ => ?_
  cases h : valsK (sortL a) key with
  | nil => simp [oneK]
  | cons x l => simp [oneK]
theorem self_many (a : List RowV) : a.length ≤ (l5J 1 a a).length := by
  rw [← lonelyL_length a a]
  unfold l5J lonelyL
  refine flatMap_len_le fun key _ => ?_
  rw [List.length_map]
  generalize valsK (sortL a) key = v
  have h : ∀ u : List ByteArray, 0 < v.length → u.length ≤ (u.flatMap fun x => v.map fun y => (⟨key, x, y, true, true⟩ : PairV)).length := by
    intro u hv
    induction u with
    | nil => simp
    | cons x u ih =>
      rw [List.flatMap_cons, List.length_append, List.length_map, List.length_cons]
      omega
  rcases Nat.eq_zero_or_pos v.length with h0 | h0
  · omega
  · have := h v h0
    simpa [oneK] using this
end Go.Proofs.Ytjepmcepgoncnaa

namespace Go.Proofs.Ytjepmcepgoncnaa
open Go.RowKit
theorem flatMap_none {α β : Type} (l : List α) : (l.flatMap fun _ => ([] : List β)) = [] := by
  induction l with
  | nil => rfl
  | cons x l ih => rw [List.flatMap_cons, ih]; rfl
theorem filter_map_none {α β : Type} {q : β → Bool} {f : α → β} (h : ∀ x, q (f x) = false) (l : List α) : (l.map f).filter q = [] := by
  rw [List.filter_eq_nil_iff]
  intro x hx
  obtain ⟨y, _, rfl⟩ := List.mem_map.1 hx
  rw [h]; decide
theorem one_semi {key : ByteArray} {a b : List ByteArray} {p : PairV} (h : p ∈ oneK 5 key a b) : p.key = key ∧ b ≠ [] := by
  cases b with
  | nil => simp [oneK] at h
  | cons y b =>
    refine ⟨?_, by simp⟩
    simp [oneK] at h
    obtain ⟨x, _, rfl⟩ := h
    rfl
theorem one_anti {key : ByteArray} {a b : List ByteArray} {p : PairV} (h : p ∈ oneK 6 key a b) : p.key = key ∧ b = [] := by
  cases b with
  | nil =>
    refine ⟨?_, rfl⟩
    simp [oneK] at h
    obtain ⟨x, _, rfl⟩ := h
    rfl
  | cons y b => simp [oneK] at h
theorem semi_anti_keys {a b : List RowV} {p q : PairV} (hp : p ∈ l5J 5 a b) (hq : q ∈ l5J 6 a b) : (p.key.toList == q.key.toList) = false := by
  unfold l5J at hp hq
  obtain ⟨k, _, hk⟩ := List.mem_flatMap.1 hp
  obtain ⟨m, _, hm⟩ := List.mem_flatMap.1 hq
  obtain ⟨e1, h1⟩ := one_semi hk
  obtain ⟨e2, h2⟩ := one_anti hm
  rw [beq_eq_false_iff_ne]
  intro e
  have := ext_toList e
  rw [e1, e2] at this
  rw [this] at h1
  exact h1 h2
theorem flatMap_two {α β γ δ : Type} {f : α → List β} {g : α → List γ} {h : α → List δ} (hh : ∀ x, (f x).length + (g x).length = (h x).length) : ∀ l : List α, (l.flatMap f).length + (l.flatMap g).length = (l.flatMap h).length
  | [] => by simp
  | x :: l => by
    have ih := flatMap_two hh l
    have := hh x
    rw [List.flatMap_cons, List.flatMap_cons, List.flatMap_cons, List.length_append, List.length_append, List.length_append]
    omega
theorem semi_anti_length (a b : List RowV) : (l5J 5 a b).length + (l5J 6 a b).length = a.length := by
  rw [← lonelyL_length a b]
  unfold l5J lonelyL
  refine flatMap_two (fun key => ?_) _
  cases valsK (sortL b) key with
  | nil =>
    have e1 : oneK 5 key (valsK (sortL a) key) [] = [] := by simp only [oneK]; simp [flatMap_none]
    have e2 : oneK 6 key (valsK (sortL a) key) [] = (valsK (sortL a) key).map (leftP key) := by simp only [oneK]; simp [flatMap_one, leftP]
    rw [e1, e2]; simp
  | cons y l =>
    have e1 : oneK 6 key (valsK (sortL a) key) (y :: l) = [] := by simp only [oneK]; simp [flatMap_none]
    have e2 : oneK 5 key (valsK (sortL a) key) (y :: l) = (valsK (sortL a) key).map (leftP key) := by simp only [oneK]; simp [flatMap_one, leftP]
    rw [e1, e2]; simp
theorem one_left {key : ByteArray} (a b : List ByteArray) : (oneK 2 key a b).filter (fun p => !p.hr) = oneK 6 key a b := by
  cases b with
  | nil =>
    simp only [oneK]
    simp [flatMap_one]
  | cons y b =>
    have e2 : oneK 6 key a (y :: b) = [] := by simp only [oneK]; simp [flatMap_none]
    have e1 : oneK 2 key a (y :: b) = a.flatMap fun x => (y :: b).map (bothP key x) := by simp only [oneK]; simp; rfl
    rw [e1, e2, List.filter_flatMap]
    have : ∀ x, ((y :: b).map (bothP key x)).filter (fun p => !p.hr) = [] := fun x => filter_map_none (fun _ => rfl) _
    simp only [this]
    exact flatMap_none a
theorem left_anti (a b : List RowV) : (l5J 2 a b).filter (fun p => !p.hr) = l5J 6 a b := by
  unfold l5J
  rw [List.filter_flatMap]
  exact flatMap_congr' fun key _ => one_left _ _
/-- How many of the first i are left alone. -/
def aloneN (l : List PairV) (i : Nat) : Nat := (l.take i).countP fun p => !p.hr
theorem aloneN_zero (l : List PairV) : aloneN l 0 = 0 := rfl
theorem aloneN_yes {l : List PairV} {i : Nat} {p : PairV} (h : l[i]? = some p) (hr : p.hr = false) : aloneN l (i + 1) = aloneN l i + 1 := by
  unfold aloneN
  rw [List.take_add_one, h, Option.toList_some, List.countP_append]
  simp [hr]
theorem aloneN_no {l : List PairV} {i : Nat} {p : PairV} (h : l[i]? = some p) (hr : p.hr = true) : aloneN l (i + 1) = aloneN l i := by
  unfold aloneN
  rw [List.take_add_one, h, Option.toList_some, List.countP_append]
  simp [hr]
theorem alone_at {l : List PairV} {i : Nat} {p : PairV} (h : l[i]? = some p) (hr : p.hr = false) : (l.filter fun p => !p.hr)[aloneN l i]? = some p := by
  obtain ⟨hi, e⟩ := List.getElem?_eq_some_iff.1 h
  have hs : l = l.take i ++ p :: l.drop (i + 1) := by
    rw [← e, ← List.drop_eq_getElem_cons hi, List.take_append_drop]
  unfold aloneN
  rw [List.countP_eq_length_filter]
  have e2 : (l.filter fun p => !p.hr) = ((l.take i).filter fun p => !p.hr) ++ p :: ((l.drop (i + 1)).filter fun p => !p.hr) := by
    have e3 := congrArg (List.filter fun p : PairV => !p.hr) hs
    rw [List.filter_append, List.filter_cons_of_pos (by simp [hr])] at e3
    exact e3
  rw [e2, List.getElem?_append_right (Nat.le_refl _), Nat.sub_self]
  rfl
theorem aloneN_all {l : List PairV} {i : Nat} (h : l.length ≤ i) : aloneN l i = (l.filter fun p => !p.hr).length := by
  unfold aloneN
  rw [List.take_of_length_le h, List.countP_eq_length_filter]
theorem aloneN_le (l : List PairV) (i : Nat) : aloneN l i ≤ i := by
  unfold aloneN
  have := List.countP_le_length (p := fun p : PairV => !p.hr) (l := l.take i)
  rw [List.length_take] at this
  omega
end Go.Proofs.Ytjepmcepgoncnaa

namespace Go.Proofs.Ytjepmcepgoncnaa
open Go.RowKit
theorem rising_sublist : ∀ {K L : List ByteArray}, Rising K → Rising L → (∀ x ∈ K, x ∈ L) → K.Sublist L
  | [], L, _, _, _ => List.nil_sublist L
  | k :: K, [], _, _, h => by have := h k (List.mem_cons_self); cases this
  | k :: K, y :: L, hK, hL, h => by
    obtain ⟨k1, k2⟩ := List.pairwise_cons.1 hK
    obtain ⟨l1, l2⟩ := List.pairwise_cons.1 hL
    by_cases e : k = y
    · subst e
      refine List.Sublist.cons_cons _ (rising_sublist k2 l2 fun x hx => ?_)
      refine (List.mem_cons.1 (h x (List.mem_cons_of_mem _ hx))).resolve_left fun e => ?_
      subst e
      have := k1 x hx
      rw [bl_irrefl] at this; cases this
    · refine List.Sublist.cons _ (rising_sublist hK l2 fun x hx => ?_)
      refine (List.mem_cons.1 (h x hx)).resolve_left fun e2 => ?_
      subst e2
      have hk : k ∈ L := (List.mem_cons.1 (h k (List.mem_cons_self))).resolve_left e
      have h1 := l1 k hk
      rcases List.mem_cons.1 hx with e3 | hx
      · exact e e3.symm
      · have h2 := k1 x hx
        rw [bl_asymm h1] at h2; cases h2
theorem flatMap_sub {α β : Type} {f g : α → List β} (h : ∀ x, (f x).Sublist (g x)) : ∀ l : List α, (l.flatMap f).Sublist (l.flatMap g)
  | [] => List.Sublist.refl _
  | x :: l => by
    rw [List.flatMap_cons, List.flatMap_cons]
    exact (h x).append (flatMap_sub h l)
theorem sub_flatMap {α β : Type} (f : α → List β) : ∀ {k l : List α}, k.Sublist l → (k.flatMap f).Sublist (l.flatMap f)
  | _, _, .slnil => List.Sublist.refl _
  | _, _, .cons x h => by
    rw [List.flatMap_cons]
    exact (sub_flatMap f h).trans (List.sublist_append_right _ _)
  | _, _, .cons_cons x h => by
    rw [List.flatMap_cons, List.flatMap_cons]
    exact (List.Sublist.refl _).append (sub_flatMap f h)
theorem ins_sub (r : RowV) (l : List RowV) : l.Sublist (ins r l) := by
  unfold ins
  have h : (l.take (insPos r l) ++ l.drop (insPos r l)).Sublist (l.take (insPos r l) ++ [r] ++ l.drop (insPos r l)) :=
    (List.sublist_append_left _ _).append (List.Sublist.refl _)
  rwa [List.take_append_drop] at h
theorem vals_sub (b : List RowV) (r : RowV) (key : ByteArray) : (valsK (sortL b) key).Sublist (valsK (sortL (b ++ [r])) key) := by
  rw [sortL_snoc]
  unfold valsK
  exact ((ins_sub r (sortL b)).filter _).map _
theorem keys_sub (a b : List RowV) (r : RowV) : (keysOf (sortL (a ++ b))).Sublist (keysOf (sortL (a ++ (b ++ [r])))) := by
  refine rising_sublist (keys_all a b).1 (keys_all a (b ++ [r])).1 fun x hx => ?_
  rw [(keys_all a (b ++ [r])).2]
  rcases ((keys_all a b).2 x).1 hx with h | ⟨q, hq, e⟩
  · exact .inl h
  · exact .inr ⟨q, List.mem_append_left _ hq, e⟩
theorem join_sub {n : Int} (hn : ∀ key (v u u' : List ByteArray), u.Sublist u' → (oneK n key v u).Sublist (oneK n key v u')) (a b : List RowV) (r : RowV) : (l5J n a b).Sublist (l5J n a (b ++ [r])) := by
  unfold l5J
  exact (sub_flatMap _ (keys_sub a b r)).trans (flatMap_sub (fun key => hn key _ _ _ (vals_sub b r key)) _)
theorem one_inner (key : ByteArray) (v u : List ByteArray) : oneK 1 key v u = v.flatMap fun x => u.map (bothP key x) := by
  simp only [oneK]; simp; rfl
theorem one_semi_of (key : ByteArray) (v u : List ByteArray) : oneK 5 key v u = if u.length = 0 then [] else v.map (leftP key) := by
  cases u with
  | nil => simp only [oneK]; simp [flatMap_none]
  | cons y u => simp only [oneK]; simp [flatMap_one, leftP]
theorem inner_sub (a b : List RowV) (r : RowV) : (l5J 1 a b).Sublist (l5J 1 a (b ++ [r])) := by
  refine join_sub (fun key v u u' h => ?_) a b r
  rw [one_inner, one_inner]
  exact flatMap_sub (fun x => h.map _) v
theorem anti_less (a b : List RowV) (r : RowV) : (l5J 6 a (b ++ [r])).length ≤ (l5J 6 a b).length := by
  have h : (l5J 5 a b).Sublist (l5J 5 a (b ++ [r])) := by
    refine join_sub (fun key v u u' h => ?_) a b r
    rw [one_semi_of, one_semi_of]
    have hl := h.length_le
    split
    · exact List.nil_sublist _
    · rw [if_neg (by omega)]
      exact List.Sublist.refl _
  have h1 := h.length_le
  have h2 := semi_anti_length a b
  have h3 := semi_anti_length a (b ++ [r])
  omega
/-- One step of finding one list in another. -/
theorem sub_step {x y : PairV} {l f : List PairV} (h : (y :: f).Sublist (x :: l)) : (x = y → f.Sublist l) ∧ (x ≠ y → (y :: f).Sublist l) := by
  constructor
  · rintro rfl
    exact List.cons_sublist_cons.1 h
  · intro hne
    cases h with
    | cons _ h => exact h
    | cons_cons _ h => exact absurd rfl hne
end Go.Proofs.Ytjepmcepgoncnaa

namespace Go.Proofs.Ytjepmcepgoncnaa
open Go.RowKit
theorem filter_sorted5 (l : List RowV) (p : RowV → Bool) : (sortL l).filter p = sortL (l.filter p) :=
  sortL_unique (List.Pairwise.sublist List.filter_sublist (sortL_asc l)) ((sortL_perm' l).filter p)
theorem rising_eq {K L : List ByteArray} (hK : Rising K) (hL : Rising L) (h : ∀ x, x ∈ K ↔ x ∈ L) : K = L :=
  (rising_sublist hK hL fun x hx => (h x).1 hx).eq_of_length_le (rising_sublist hL hK fun x hx => (h x).2 hx).length_le
theorem flatMap_filter_none {α β : Type} {f : α → List β} {q : α → Bool} (h : ∀ x, q x = false → f x = []) : ∀ l : List α, l.flatMap f = (l.filter q).flatMap f
  | [] => rfl
  | x :: l => by
    have ih := flatMap_filter_none h l
    cases hq : q x
    · rw [List.flatMap_cons, h x hq, List.filter_cons_of_neg (by rw [hq]; decide), ih]; rfl
    · rw [List.flatMap_cons, List.filter_cons_of_pos hq, List.flatMap_cons, ih]
theorem valsK_mem {l : List RowV} {key : ByteArray} : valsK l key ≠ [] ↔ ∃ r ∈ l, r.key = key := by
  unfold valsK
  rw [Ne, List.map_eq_nil_iff, List.filter_eq_nil_iff]
  constructor
  · intro h
    have h' : ∃ r, r ∈ l ∧ isKey key r = true := by
      apply Classical.byContradiction
      intro h2
      exact h fun r hr hk => h2 ⟨r, hr, hk⟩
    obtain ⟨r, hr, hk⟩ := h'
    exact ⟨r, hr, isKey_iff.1 hk⟩
  · rintro ⟨r, hr, e⟩ h
    exact h r hr (isKey_iff.2 e)
/-- A join that tells nothing of a key that the right side lacks goes by the keys of the right side. -/
theorem by_right {n : Int} (hn : ∀ key v, oneK n key v [] = []) (a b : List RowV) : l5J n a b = (keysOf (sortL b)).flatMap fun key => oneK n key (valsK (sortL a) key) (valsK (sortL b) key) := by
  unfold l5J
  rw [flatMap_filter_none (q := fun key => !(valsK (sortL b) key).isEmpty) (fun key h => by
    have : valsK (sortL b) key = [] := by simpa using h
    rw [this]; exact hn _ _)]
  congr 1
  refine rising_eq (List.Pairwise.filter _ (keys_all a b).1) (keysOf_rising (asc_keys (sortL_asc b))) fun x => ?_
  rw [List.mem_filter, (keys_all a b).2, keysOf_mem]
  have e : (!(valsK (sortL b) x).isEmpty) = true ↔ ∃ r ∈ sortL b, r.key = x := by
    rw [← valsK_mem]; simp
  rw [e]
  constructor
  · exact fun h => h.2
  · rintro ⟨r, hr, hk⟩
    exact ⟨.inr ⟨r, (sortL_perm' b).mem_iff.1 hr, hk⟩, r, hr, hk⟩
theorem join_passed {n : Int} (hn : ∀ key v, oneK n key v [] = []) {a b : List RowV} {p : RowV → Bool} (hp : ∀ r ∈ a, (∃ q ∈ b, q.key = r.key) → p r = true) : l5J n (a.filter p) b = l5J n a b := by
  rw [by_right hn, by_right hn]
  refine flatMap_congr' fun key hkey => ?_
  obtain ⟨q, hq, e⟩ := (keysOf_mem _ _).1 hkey
  have hv : valsK (sortL (a.filter p)) key = valsK (sortL a) key := by
    rw [← filter_sorted5]
    unfold valsK
    rw [List.filter_filter]
    congr 1
    refine List.filter_congr fun r hr => ?_
    cases hk : isKey key r
    · rfl
    · rw [hp r ((sortL_perm' a).mem_iff.1 hr) ⟨q, (sortL_perm' b).mem_iff.1 hq, by rw [e, isKey_iff.1 hk]⟩]; rfl
  rw [hv]
theorem inner_none (key : ByteArray) (v : List ByteArray) : oneK 1 key v [] = [] := by
  rw [one_inner]
  exact flatMap_none v
theorem semi_none (key : ByteArray) (v : List ByteArray) : oneK 5 key v [] = [] := by
  rw [one_semi_of]; rfl
end Go.Proofs.Ytjepmcepgoncnaa

namespace Go.Proofs.Ytjepmcepgoncnaa
open Go.RowKit
theorem groups_of : ∀ (n : Nat) (l : List RowV), l.length ≤ n → KAsc l →
    (∀ g ∈ groupsR l, g.2 = l.filter (isKey g.1) ∧ ∃ r ∈ l, r.key = g.1) ∧ Rising ((groupsR l).map (·.1)) ∧ ∀ r ∈ l, r.key ∈ (groupsR l).map (·.1)
  | _, [], _, _ => ⟨fun g hg => by simp [groupsR_nil] at hg, List.Pairwise.nil, fun r hr => by cases hr⟩
  | 0, _ :: _, h, _ => by simp at h
  | n + 1, r :: l, h, ha => by
    have hge : ∀ x ∈ r :: l, Op.bytesLess x.key.toList r.key.toList = false := by
      intro x hx
      rcases List.mem_cons.1 hx with rfl | hx
      · exact bl_irrefl _
      · exact (List.pairwise_cons.1 ha).1 x hx
    obtain ⟨h1, h2⟩ := lead_filter ha hge
    have hp := leadN_pos r l
    have hl2 : ((r :: l).drop (leadN r.key (r :: l))).length ≤ n := by
      rw [List.length_drop]
      rw [List.length_cons] at h ⊢
      omega
    obtain ⟨g1, g2, g3⟩ := groups_of n _ hl2 (ha.drop _)
    rw [groupsR_next, h1]
    generalize hd : (r :: l).drop (leadN r.key (r :: l)) = d at *
    have hne : ∀ x ∈ d, x.key ≠ r.key := by
      intro x hx e
      rw [h2, List.mem_filter] at hx
      have := isKey_iff.2 e
      rw [this] at hx
      exact absurd hx.2 (by decide)
    refine ⟨?_, ?_, ?_⟩
    · intro g hg
      rcases List.mem_cons.1 hg with rfl | hg
      · exact ⟨rfl, r, List.mem_cons_self, rfl⟩
      · obtain ⟨e1, x, hx, e2⟩ := g1 g hg
        have hgk : g.1 ≠ r.key := by rw [← e2]; exact hne x hx
        refine ⟨?_, x, ?_, e2⟩
        · rw [e1, h2, List.filter_filter]
          refine List.filter_congr fun y _ => ?_
          cases e : isKey g.1 y
          · rfl
          · have e3 := isKey_iff.1 e
            have : isKey r.key y = false := by
              cases e4 : isKey r.key y
              · rfl
              · exact absurd ((e3.symm.trans (isKey_iff.1 e4))) hgk
            rw [this]; rfl
        · rw [h2, List.mem_filter] at hx
          exact hx.1
    · rw [List.map_cons]
      refine List.pairwise_cons.2 ⟨?_, g2⟩
      intro k hk
      obtain ⟨g, hg, rfl⟩ := List.mem_map.1 hk
      obtain ⟨_, x, hx, e2⟩ := g1 g hg
      show Op.bytesLess r.key.toList g.1.toList = true
      rw [← e2]
      have hxm : x ∈ r :: l := by
        rw [h2, List.mem_filter] at hx
        exact hx.1
      rcases bl_total (hge x hxm) with e3 | e3
      · exact absurd (ext_toList e3).symm (by first | exact hne x hx | exact fun e => hne x hx e.symm)
      · exact e3
    · intro x hx
      rw [List.map_cons]
      by_cases e : x.key = r.key
      · rw [e]; exact List.mem_cons_self
      · refine List.mem_cons_of_mem _ (g3 x ?_)
        rw [h2, List.mem_filter]
        refine ⟨hx, ?_⟩
        cases e4 : isKey r.key x
        · rfl
        · exact absurd (isKey_iff.1 e4) e
theorem groups_keys {l : List RowV} (h : KAsc l) : (groupsR l).map (·.1) = keysOf l := by
  obtain ⟨h1, h2, h3⟩ := groups_of _ l (Nat.le_refl _) h
  refine rising_eq h2 (keysOf_rising h) fun x => ?_
  rw [keysOf_mem]
  constructor
  · intro hx
    obtain ⟨g, hg, rfl⟩ := List.mem_map.1 hx
    exact (h1 g hg).2
  · rintro ⟨r, hr, rfl⟩
    exact h3 r hr
/-- How many rows have a key. -/
def manyK (l : List RowV) (key : ByteArray) : Nat := l.countP (isKey key)
theorem manyK_le (l : List RowV) (key : ByteArray) : manyK l key ≤ l.length := List.countP_le_length
theorem groups_many {l : List RowV} (h : KAsc l) : ∀ g ∈ groupsR l, g.2.length = manyK l g.1 := by
  intro g hg
  rw [((groups_of _ l (Nat.le_refl _) h).1 g hg).1, manyK, List.countP_eq_length_filter]
/-- The keys of more than so many rows: of groups, and of keys. -/
def skewG (M : Nat) (gs : List (ByteArray × List RowV)) : List ByteArray := (gs.filter fun g => decide (M < g.2.length)).map (·.1)
def skewK (M : Nat) (rs : List RowV) (K : List ByteArray) : List ByteArray := K.filter fun k => decide (M < manyK rs k)
theorem filter_map_congr {α β : Type} {f : α → β} {p : α → Bool} {q : β → Bool} : ∀ {l : List α}, (∀ x ∈ l, p x = q (f x)) → (l.filter p).map f = (l.map f).filter q
  | [], _ => rfl
  | x :: l, h => by
    have ih := filter_map_congr (l := l) (fun y hy => h y (List.mem_cons_of_mem _ hy))
    have hx := h x List.mem_cons_self
    rw [List.map_cons, List.filter_cons, List.filter_cons, ← hx]
    cases p x
    · exact ih
    · rw [if_pos rfl, if_pos rfl, List.map_cons, ih]
theorem many_sort (rs : List RowV) (k : ByteArray) : manyK (sortL rs) k = manyK rs k := (sortL_perm' rs).countP_eq _
theorem skew_same (M : Nat) (rs : List RowV) : skewG M (groupsR (sortL rs)) = skewK M rs (keysOf (sortL rs)) := by
  have ha : KAsc (sortL rs) := asc_keys (sortL_asc rs)
  unfold skewG skewK
  rw [← groups_keys ha]
  refine filter_map_congr fun g hg => ?_
  rw [groups_many ha g hg, many_sort]
theorem skewG_snoc (M : Nat) (gs : List (ByteArray × List RowV)) (g : ByteArray × List RowV) : skewG M (gs ++ [g]) = skewG M gs ++ (if M < g.2.length then [g.1] else []) := by
  unfold skewG
  rw [List.filter_append, List.map_append]
  congr 1
  by_cases h : M < g.2.length
  · rw [if_pos h]; simp [h]
  · rw [if_neg h]; simp [h]
theorem skewG_le (M : Nat) (gs : List (ByteArray × List RowV)) : (skewG M gs).length ≤ gs.length := by
  unfold skewG
  rw [List.length_map]
  exact List.length_filter_le _ _
theorem skewK_take {M : Nat} {rs : List RowV} {K : List ByteArray} {i : Nat} {k : ByteArray} (h : K[i]? = some k) : skewK M rs (K.take (i + 1)) = skewK M rs (K.take i) ++ (if M < manyK rs k then [k] else []) := by
  rw [List.take_add_one, h, Option.toList_some]
  unfold skewK
  rw [List.filter_append]
  congr 1
  by_cases h : M < manyK rs k
  · rw [if_pos h]; simp [h]
  · rw [if_neg h]; simp [h]
theorem skewK_le (M : Nat) (rs : List RowV) (K : List ByteArray) : (skewK M rs K).length ≤ K.length := List.length_filter_le _ _
theorem manyK_take {l : List RowV} {i : Nat} {r : RowV} {key : ByteArray} (h : l[i]? = some r) : manyK (l.take (i + 1)) key = manyK (l.take i) key + (if isKey key r = true then 1 else 0) := by
  rw [List.take_add_one, h, Option.toList_some]
  unfold manyK
  rw [List.countP_append, List.countP_singleton]
def skewedB (rs : List RowV) (N : Int) : Bool := rowsOk rs && decide (0 ≤ N)
def skewedS (rs : List RowV) (N : Int) : List ByteArray := if skewedB rs N = true then skewK N.toNat rs (keysOf (sortL rs)) else []
theorem skewedS_le (rs : List RowV) (N : Int) : (skewedS rs N).length ≤ 1048576 := by
  unfold skewedS
  split
  · rename_i h
    simp only [skewedB, Bool.and_eq_true] at h
    have h1 := rowsOk_le5 h.1
    have h2 := skewK_le N.toNat rs (keysOf (sortL rs))
    have h3 := keysOf_le (sortL rs)
    rw [sortL_length] at h3
    omega
  · exact Nat.zero_le _
end Go.Proofs.Ytjepmcepgoncnaa

namespace Go.Proofs.Ytjepmcepgoncnaa
open Go.RowKit
theorem groups_eqF {X : List RowV} (h : KAsc X) : groupsR X = (keysOf X).map fun k => (k, X.filter (isKey k)) := by
  obtain ⟨h1, _, _⟩ := groups_of _ X (Nat.le_refl _) h
  rw [← groups_keys h, List.map_map]
  have e : (groupsR X).map id = (groupsR X).map ((fun k => (k, X.filter (isKey k))) ∘ fun x => x.1) := by
    refine List.map_congr_left fun g hg => ?_
    show g = (g.1, X.filter (isKey g.1))
    rw [← (h1 g hg).1]
  rw [List.map_id] at e
  exact e
theorem flat_groups : ∀ (n : Nat) (l : List RowV), l.length ≤ n → (groupsR l).flatMap (·.2) = l
  | _, [], _ => rfl
  | 0, _ :: _, h => by simp at h
  | n + 1, r :: l, h => by
    have hp := leadN_pos r l
    rw [groupsR_next, List.flatMap_cons, flat_groups n _ (by rw [List.length_drop]; rw [List.length_cons] at h ⊢; omega)]
    show leadL r.key (r :: l) ++ _ = _
    rw [← lead_take, List.take_append_drop]
theorem first_sub (N : Nat) (rs : List RowV) : (firstL N (groupsR rs)).Sublist rs := by
  have h : ∀ G : List (ByteArray × List RowV), (firstL N G).Sublist (G.flatMap (·.2)) := by
    intro G
    induction G with
    | nil => exact List.Sublist.refl _
    | cons g G ih =>
      have e : firstL N (g :: G) = g.2.take N ++ firstL N G := by simp [firstL]
      rw [e, List.flatMap_cons]
      exact (List.take_sublist N g.2).append ih
  have := h (groupsR rs)
  rwa [flat_groups _ rs (Nat.le_refl _)] at this
theorem sorted_kasc {rs : List RowV} (h : sortedOk rs = true) : KAsc rs := by
  unfold sortedOk at h
  rw [Bool.and_eq_true] at h
  exact asc_keys (adjOk_asc h.2)
theorem sorted_sub {rs fs : List RowV} (h : sortedOk rs = true) (hs : fs.Sublist rs) : sortedOk fs = true := by
  unfold sortedOk at h ⊢
  rw [Bool.and_eq_true] at h ⊢
  have h1 := h.1
  have ha : Asc RowV.less fs := List.Pairwise.sublist hs (adjOk_asc h.2)
  refine ⟨?_, asc_adjOk ha⟩
  unfold rowsOk at h1 ⊢
  rw [Bool.and_eq_true, decide_eq_true_eq, List.all_eq_true] at h1 ⊢
  exact ⟨Nat.le_trans hs.length_le h1.1, fun r hr => h1.2 r (hs.subset hr)⟩
/-- The rows of one key in rows that were put together by keys. -/
theorem flat_key {h : ByteArray → List RowV} (hh : ∀ k, ∀ r ∈ h k, r.key = k) (x : ByteArray) : ∀ {K : List ByteArray}, Rising K → (x ∈ K → (K.flatMap h).filter (isKey x) = h x) ∧ (x ∉ K → (K.flatMap h).filter (isKey x) = [])
  | [], _ => ⟨fun hx => absurd hx List.not_mem_nil, fun _ => rfl⟩
  | k :: K, hK => by
    obtain ⟨h1, h2⟩ := List.pairwise_cons.1 hK
    obtain ⟨ih1, ih2⟩ := flat_key hh x h2
    rw [List.flatMap_cons, List.filter_append]
    by_cases e : x = k
    · subst e
      have hn : x ∉ K := fun hk => by have := h1 x hk; rw [bl_irrefl] at this; cases this
      have ef : (h x).filter (isKey x) = h x := List.filter_eq_self.2 fun r hr => isKey_iff.2 (hh x r hr)
      rw [ef, ih2 hn, List.append_nil]
      exact ⟨fun _ => rfl, fun hx => absurd List.mem_cons_self hx⟩
    · have ef : (h k).filter (isKey x) = [] := List.filter_eq_nil_iff.2 fun r hr hx => e ((isKey_iff.1 hx).symm.trans (hh k r hr))
      rw [ef, List.nil_append]
      exact ⟨fun hx => ih1 ((List.mem_cons.1 hx).resolve_left e), fun hx => ih2 fun hk => hx (List.mem_cons_of_mem _ hk)⟩
def capG (N : Nat) (G : List (ByteArray × List RowV)) : List (ByteArray × List RowV) := G.map fun g => (g.1, g.2.take N)
theorem first_flat (N : Nat) {rs : List RowV} (h : KAsc rs) : firstL N (groupsR rs) = (keysOf rs).flatMap fun k => (rs.filter (isKey k)).take N := by
  rw [groups_eqF h]
  unfold firstL
  rw [List.flatMap_map]
theorem first_groups {N : Nat} (hN : 1 ≤ N) {rs : List RowV} (h : KAsc rs) : groupsR (firstL N (groupsR rs)) = capG N (groupsR rs) := by
  have hsub := first_sub N rs
  have ha : KAsc (firstL N (groupsR rs)) := List.Pairwise.sublist hsub h
  have hk : ∀ k, ∀ r ∈ (rs.filter (isKey k)).take N, r.key = k := fun k r hr => isKey_iff.1 (List.mem_filter.1 (List.mem_of_mem_take hr)).2
  have hfl := fun x => flat_key (h := fun k => (rs.filter (isKey k)).take N) hk x (keysOf_rising h)
  have hkeys : keysOf (firstL N (groupsR rs)) = keysOf rs := by
    refine rising_eq (keysOf_rising ha) (keysOf_rising h) fun x => ?_
    rw [keysOf_mem, keysOf_mem]
    constructor
    · rintro ⟨r, hr, e⟩
      exact ⟨r, hsub.subset hr, e⟩
    · rintro ⟨r, hr, rfl⟩
      have hx : r.key ∈ keysOf rs := (keysOf_mem rs r.key).2 ⟨r, hr, rfl⟩
      have e := (hfl r.key).1 hx
      have hm : r ∈ rs.filter (isKey r.key) := List.mem_filter.2 ⟨hr, isKey_iff.2 rfl⟩
      cases hc : rs.filter (isKey r.key) with
      | nil => rw [hc] at hm; cases hm
      | cons y l =>
        have hy : y ∈ (rs.filter (isKey r.key)).take N := by
          rw [hc]
          obtain ⟨m, rfl⟩ : ∃ m, N = m + 1 := ⟨N - 1, by omega⟩
          simp
        rw [← e] at hy
        have hy2 := List.mem_filter.1 hy
        exact ⟨y, by rw [first_flat N h]; exact hy2.1, isKey_iff.1 hy2.2⟩
  have e3 : capG N (groupsR rs) = (keysOf rs).map fun k => (k, (rs.filter (isKey k)).take N) := by
    unfold capG
    rw [groups_eqF h, List.map_map]
    rfl
  rw [groups_eqF ha, hkeys, e3]
  refine List.map_congr_left fun k hk2 => ?_
  have e := (hfl k).1 hk2
  show (k, (firstL N (groupsR rs)).filter (isKey k)) = (k, (rs.filter (isKey k)).take N)
  rw [first_flat N h, e]
theorem first_zero (G : List (ByteArray × List RowV)) : firstL 0 G = [] := by
  unfold firstL
  induction G with
  | nil => rfl
  | cons g G ih => rw [List.flatMap_cons, ih]; rfl
theorem first_cap {M N : Nat} (h : N ≤ M) : ∀ G : List (ByteArray × List RowV), firstL N (capG M G) = firstL N G
  | [] => rfl
  | g :: G => by
    have ih := first_cap h G
    have e1 : firstL N (capG M (g :: G)) = (g.2.take M).take N ++ firstL N (capG M G) := by simp [firstL, capG]
    have e2 : firstL N (g :: G) = g.2.take N ++ firstL N G := by simp [firstL]
    rw [e1, e2, ih, List.take_take, Nat.min_eq_left h]
theorem first_again {N : Nat} {rs : List RowV} (h : KAsc rs) : firstL N (groupsR (firstL (N + 1) (groupsR rs))) = firstL N (groupsR rs) := by
  rw [first_groups (by omega) h, first_cap (by omega)]
/-- The groups of the first rows. -/
def bG (N : Nat) (rs : List RowV) : List (ByteArray × List RowV) := groupsR (firstL N (groupsR rs))
theorem bG_at {N : Nat} {rs : List RowV} (h : KAsc rs) {i : Nat} {k : ByteArray} {xs : List RowV} (hx : (bG N rs)[i]? = some (k, xs)) : ∃ ys, (groupsR rs)[i]? = some (k, ys) ∧ xs = ys.take N ∧ xs.length ≤ N := by
  unfold bG at hx
  rcases Nat.eq_zero_or_pos N with rfl | hN
  · rw [first_zero] at hx
    simp [groupsR_nil] at hx
  · rw [first_groups hN h] at hx
    unfold capG at hx
    rw [List.getElem?_map] at hx
    cases hg : (groupsR rs)[i]? with
    | none => rw [hg] at hx; cases hx
    | some g =>
      rw [hg] at hx
      simp only [Option.map_some, Option.some.injEq, Prod.mk.injEq] at hx
      obtain ⟨rfl, rfl⟩ := hx
      exact ⟨g.2, rfl, rfl, by rw [List.length_take]; omega⟩
theorem bG_len {N : Nat} {rs : List RowV} (h : KAsc rs) (hN : N ≠ 0) : (bG N rs).length = (groupsR rs).length := by
  unfold bG
  rw [first_groups (by omega) h]
  exact List.length_map _
end Go.Proofs.Ytjepmcepgoncnaa

namespace Go.Proofs.Ytjepmcepgoncnaa
open Go.RowKit

structure WQ (P : Program) (ops : Array Oper) (C : World → Prop) (Q : Act → Prop) (l : List Oper) (a : Act) : Prop where
  out : wpQuiet P ops C Q l a
section
variable {P : Program} {ops : Array Oper} {C : World → Prop} {Q : Act → Prop} {a : Act} {o : Oper} {rest : List Oper}
theorem WQ.nil (h : Q a) : WQ P ops C Q [] a := ⟨wpQuiet_nil h⟩
theorem WQ.step (h : ∀ K : Act → Prop, (∀ a, WQ P ops C Q rest a → K a) → if Region.wanted o (yielded ops a.tmps) then o.quiet P a C K else K (a.put o.dst undef)) : WQ P ops C Q (o :: rest) a :=
  ⟨wpQuiet_step fun K hK => h K fun a h => hK a h.out⟩
end
theorem wp_region_wq {P : Program} {id : Nat} {Q : Exit → Act → World → Prop} {a : Act} {w : World} {l : List Oper} (hm : P.follows .mixedOrders = true) (hB : Region.lexB .any l.toArray = true)
    (h : WQ P l.toArray (fun w' => ∃ p : Regrown, w' = Go.Sort.grow (redrawn w p.d) p.os) (fun a' => ∀ w', (∃ p : Regrown, w' = Go.Sort.grow (redrawn w p.d) p.os) → Q .normal a' w') l a) : (Code.region id l.toArray true).wp P Q a w :=
  wp_region_quiet_below hm hB h.out
end Go.Proofs.Ytjepmcepgoncnaa

namespace Go.Proofs.Ytjepmcepgoncnaa
open Go.RowKit
/-- Groups that can be read below block B, with their capacities. -/
def GRc (w : World) (B : Nat) (a : Option Addr) (n : Nat) (G : List (ByteArray × List RowV)) : Prop :=
  G.length = n ∧ ∀ (i : Nat) (key : ByteArray) (rs : List RowV), G[i]? = some (key, rs) → ∃ b a' c', a = some ⟨b, 0, none⟩ ∧ b < B ∧ w.cell? ⟨b, i * 2, none⟩ = some (.string key) ∧ w.cell? ⟨b, i * 2 + 1, none⟩ = some (.slice a' rs.length c') ∧ rs.length ≤ c' ∧ Rd w B 3 a' rs.length (flat rs)
theorem GRc.of_own {w : World} {lo n c : Nat} {a : Option Addr} {gs : List (ByteArray × Value)} {G : List (ByteArray × List RowV)} (h : GOwn w lo a n c gs G) : GRc w w.heap.size a n G :=
  ⟨h.len.2, fun i key rs hi => by
    obtain ⟨b, a', c', e, h1, h2, c0, c1, hc, hr⟩ := GIn.of_own h i key rs hi
    exact ⟨b, a', c', e, h2, c0, c1, hc, hr.rd⟩⟩
theorem GRc.below {w w' : World} {B D n : Nat} {a : Option Addr} {G : List (ByteArray × List RowV)} (h : GRc w B a n G) (hb : Below D w w') (hD : B ≤ D) : GRc w' B a n G :=
  ⟨h.1, fun i key rs hi => by
    obtain ⟨b, a', c', e, h2, c0, c1, hc, hr⟩ := h.2 i key rs hi
    exact ⟨b, a', c', e, h2, (hb.cell (p := ⟨b, i * 2, none⟩) (Nat.lt_of_lt_of_le h2 hD)).trans c0, (hb.cell (p := ⟨b, i * 2 + 1, none⟩) (Nat.lt_of_lt_of_le h2 hD)).trans c1, hc, hr.below hb hD⟩⟩
theorem GRc.more {w : World} {B D n : Nat} {a : Option Addr} {G : List (ByteArray × List RowV)} (h : GRc w B a n G) (hD : B ≤ D) : GRc w D a n G :=
  ⟨h.1, fun i key rs hi => by
    obtain ⟨b, a', c', e, h2, c0, c1, hc, hr⟩ := h.2 i key rs hi
    exact ⟨b, a', c', e, Nat.lt_of_lt_of_le h2 hD, c0, c1, hc, hr.more hD⟩⟩
theorem Rd.grownF {w : World} {s n : Nat} {a : Option Addr} {xs : List Value} (h : Rd w w.heap.size s a n xs) {w' : World} (hb : Below w.heap.size w w') : Rd w' w'.heap.size s a n xs := (h.below hb (Nat.le_refl _)).more hb.size
set_option maxRecDepth 100000 in
theorem drawFirstOf_any (a : Option Addr) (len cap : Nat) (w : World) (hl : len ≤ 1048576) (h : IsBy w w.heap.size a len) :
    Calls Try.prog 23 #[.slice a len cap] w fun e w' => ∃ (l : List RowV) (b : Option Addr) (c : Nat) (z : Int), l.length ≤ 10 ∧ (∀ r ∈ l, r.Ok) ∧ -9223372036854775808 ≤ z ∧ z ≤ 9223372036854775807 ∧
      e = .returned (.tuple #[.slice b l.length c, .int .i64 z]) ∧ w'.ownsRow w.heap.size 77 3 (.slice b l.length c) l.length (flat l) ∧ Below w.heap.size w w' := by
  go_enter Try.func23, Try.ntmps23
  go_wp2_with fail
  refine (l1Open_any a len cap w hl h).mono ?_
  rintro e w1 ⟨rfl, hR1, hb1⟩
  have hlt := hR1.lt
  go_wp2_with fail
  refine (rows_lit w.heap.size len 10 _ _ hR1 (by omega) (by omega) (by omega)).mono ?_
  rintro e w2 ⟨l, b, c, hll, hok, rfl, hO, hD⟩
  have hlt2 := hD.rdr.lt
  go_wp2_with fail
  refine (l3Sort_any (some ⟨b, 0, none⟩) l.length c l w2 (by omega) (Rd.of_own hO)).mono ?_
  rintro e w3 ⟨sa, sc, rfl, hS, hb3⟩
  have hD3 : Drew w1 w3 w.heap.size len := hD.and hb3
  go_wp2_with fail
  refine (off_any w.heap.size len 0 4 _ hD3.rdr (by omega) (by omega) (by omega)).mono ?_
  rintro e w4 ⟨z, hz0, hz1, rfl, hD4⟩
  have hws1 : w.heap.size ≤ w1.heap.size := hb1.size
  have hws2 : w.heap.size ≤ w2.heap.size := Nat.le_trans hws1 hD.size
  have S4 := hD4.own hS (Nat.lt_of_lt_of_le hlt hD.size)
  have hb4 := below_drew hb1 (hD3.trans hD4)
  clear hO hD hD3 hD4 hS hb3
  go_wp2_with fail
  have hsl := sortL_length l
  refine bodyPost_ret (v := .tuple #[.slice sa l.length sc, .int .i64 z]) ?_ rfl ⟨sortL l, sa, sc, z, by rw [hsl]; exact hll, fun r hr => hok r ((sortL_perm' l).mem_iff.1 hr), hz0, hz1, by rw [hsl], by rw [hsl]; exact own_base' S4 hws2, hb4⟩
  simp [results, Try.results23, go_sem]
set_option maxRecDepth 100000 in
set_option maxHeartbeats 4000000 in
theorem walk_First (a : Option Addr) (len cap : Nat) (xs : List Value) (w : World) (hI : IsCode w a len cap xs) :
    Calls Try.prog 4 #[.slice a len cap] w fun e w' => e = .returned (.bool true) ∧ Below w.heap.size w w' := by
  have hI0 := hI.by_
  obtain ⟨hlc, hcm, _, _⟩ := hI
  go_enter Try.func4, Try.ntmps4
  go_wp2_with fail
  refine (big_any a len cap w (by omega)).mono ?_
  rintro e w0 ⟨rfl, rfl⟩
  by_cases hbig : 1048576 < len
  · have hd : decide (1048576 < len) = true := by simpa using hbig
    rw [hd]
    go_wp2_with fail
    go_ret
    exact ⟨rfl, Below.refl _ _⟩
  have hd : decide (1048576 < len) = false := by simpa using hbig
  rw [hd]
  go_wp2_with fail
  refine (drawFirstOf_any a len cap w (by omega) hI0).mono ?_
  rintro e w1 ⟨l, la, lc, z, hll, hok, hz0, hz1, rfl, hO, hb⟩
  have B := hb
  clear hb
  have L := Rd.of_own hO
  have hlc2 : l.length ≤ lc := by
    obtain ⟨g, c', e, h⟩ := own_slice2 hO
    injection e with _ _ e
    rw [e]; exact h
  clear hO
  have hn1 := firstS_le l z
  obtain ⟨n1, e1⟩ : ∃ j, (firstS l z).length = j := ⟨_, rfl⟩
  rw [e1] at hn1
  cases hB : firstB l z
  · have CI : ∀ (w : World), Rd w w.heap.size 3 la l.length (flat l) → Calls Try.prog 18 #[.slice la l.length lc, .int .i64 z] w (fun e w' => ∃ a c, e = .returned (.tuple #[.slice a n1 c, .bool false]) ∧ Below w.heap.size w w' ∧ w'.ownsRow w.heap.size 77 3 (.slice a n1 c) n1 (flat (firstS l z))) := fun w h => by
      have := implFirstOf_any la l.length lc l z w (by omega) hlc2 hok h
      try unfold FirstOfOut at this
      rw [e1, hB] at this
      exact this
    have CS : ∀ (w : World), Rd w w.heap.size 3 la l.length (flat l) → Calls Try.prog 16 #[.slice la l.length lc, .int .i64 z] w (fun e w' => ∃ a c, e = .returned (.tuple #[.slice a n1 c, .bool false]) ∧ Below w.heap.size w w' ∧ w'.ownsRow w.heap.size 77 3 (.slice a n1 c) n1 (flat (firstS l z))) := fun w h => by
      have := specFirstOf_any la l.length lc l z w (by omega)  hok h
      try unfold FirstOfOut at this
      rw [e1, hB] at this
      exact this
    clear hB e1
    generalize firstS l z = F at *
    go_wp2_with fail
    refine (CI w1 L).mono ?_
    rintro e w2 ⟨pa, pc, rfl, hb, hO⟩
    replace B := B.trans (hb.mono B.size)
    replace L := (L.below hb (Nat.le_refl _)).more hb.size
    clear hb
    have P := Rd.of_own hO
    clear hO
    go_wp2_with fail
    refine (CS w2 L).mono ?_
    rintro e w3 ⟨qa, qc, rfl, hb, hO⟩
    replace B := B.trans (hb.mono B.size)
    replace L := (L.below hb (Nat.le_refl _)).more hb.size
    replace P := (P.below hb (Nat.le_refl _)).more hb.size
    clear hb
    have Q := Rd.of_own hO
    clear hO
    go_wp2_with fail
    refine (sameRows_same pa qa n1 pc qc F w3 (by omega) P Q).mono ?_
    rintro e w4 ⟨rfl, hb⟩
    replace B := B.trans (hb.mono B.size)
    replace L := (L.below hb (Nat.le_refl _)).more hb.size
    replace P := (P.below hb (Nat.le_refl _)).more hb.size
    replace Q := (Q.below hb (Nat.le_refl _)).more hb.size
    clear hb
    go_wp2_with fail
    refine (sameRows_same pa qa n1 pc qc F w4 (by omega) P Q).mono ?_
    rintro e w5 ⟨rfl, hb⟩
    replace B := B.trans (hb.mono B.size)
    replace L := (L.below hb (Nat.le_refl _)).more hb.size
    replace P := (P.below hb (Nat.le_refl _)).more hb.size
    replace Q := (Q.below hb (Nat.le_refl _)).more hb.size
    clear hb
    go_wp2_with fail
    go_ret
    exact ⟨rfl, B⟩
  have CI : ∀ (w : World), Rd w w.heap.size 3 la l.length (flat l) → Calls Try.prog 18 #[.slice la l.length lc, .int .i64 z] w (fun e w' => ∃ a c, e = .returned (.tuple #[.slice a n1 c, .bool true]) ∧ Below w.heap.size w w' ∧ w'.ownsRow w.heap.size 77 3 (.slice a n1 c) n1 (flat (firstS l z))) := fun w h => by
    have := implFirstOf_any la l.length lc l z w (by omega) hlc2 hok h
    try unfold FirstOfOut at this
    rw [e1, hB] at this
    exact this
  have CS : ∀ (w : World), Rd w w.heap.size 3 la l.length (flat l) → Calls Try.prog 16 #[.slice la l.length lc, .int .i64 z] w (fun e w' => ∃ a c, e = .returned (.tuple #[.slice a n1 c, .bool true]) ∧ Below w.heap.size w w' ∧ w'.ownsRow w.heap.size 77 3 (.slice a n1 c) n1 (flat (firstS l z))) := fun w h => by
    have := specFirstOf_any la l.length lc l z w (by omega)  hok h
    try unfold FirstOfOut at this
    rw [e1, hB] at this
    exact this
  have hB0 := hB
  simp only [firstB, Bool.and_eq_true, decide_eq_true_eq] at hB0
  obtain ⟨M, rfl⟩ : ∃ M : Nat, z = (M : Int) := ⟨z.toNat, by omega⟩
  have hso := hB0.1
  have hFS : firstS l M = firstL M (groupsR l) := by unfold firstS; rw [if_pos hB]; rfl
  by_cases hM : 1000 < M
  · have hM1 : (1000 : Int) < (M : Int) := by omega
    clear hB e1 hB0 hFS hso
    generalize firstS l M = F at *
    go_wp2_with fail
    refine (CI w1 L).mono ?_
    rintro e w2 ⟨pa, pc, rfl, hb, hO⟩
    replace B := B.trans (hb.mono B.size)
    replace L := (L.below hb (Nat.le_refl _)).more hb.size
    clear hb
    have P := Rd.of_own hO
    clear hO
    go_wp2_with fail
    refine (CS w2 L).mono ?_
    rintro e w3 ⟨qa, qc, rfl, hb, hO⟩
    replace B := B.trans (hb.mono B.size)
    replace L := (L.below hb (Nat.le_refl _)).more hb.size
    replace P := (P.below hb (Nat.le_refl _)).more hb.size
    clear hb
    have Q := Rd.of_own hO
    clear hO
    go_wp2_with fail
    refine (sameRows_same pa qa n1 pc qc F w3 (by omega) P Q).mono ?_
    rintro e w4 ⟨rfl, hb⟩
    replace B := B.trans (hb.mono B.size)
    replace L := (L.below hb (Nat.le_refl _)).more hb.size
    replace P := (P.below hb (Nat.le_refl _)).more hb.size
    replace Q := (Q.below hb (Nat.le_refl _)).more hb.size
    clear hb
    go_wp2_with fail
    refine (sameRows_same pa qa n1 pc qc F w4 (by omega) P Q).mono ?_
    rintro e w5 ⟨rfl, hb⟩
    replace B := B.trans (hb.mono B.size)
    replace L := (L.below hb (Nat.le_refl _)).more hb.size
    replace P := (P.below hb (Nat.le_refl _)).more hb.size
    replace Q := (Q.below hb (Nat.le_refl _)).more hb.size
    clear hb
    go_wp2_with fail
    go_ret
    exact ⟨rfl, B⟩
  have hka := sorted_kasc hso
  have hFo := sorted_sub hso (first_sub M l)
  have hEo := sorted_sub hso (first_sub (M + 1) l)
  have hB2 : firstB l ((M : Int) + 1) = true := by unfold firstB; rw [hso]; simp; omega
  have hS2 : firstS l ((M : Int) + 1) = firstL (M + 1) (groupsR l) := by unfold firstS; rw [if_pos hB2, show ((M : Int) + 1).toNat = M + 1 by omega]
  obtain ⟨n2, e2⟩ : ∃ j, (firstL (M + 1) (groupsR l)).length = j := ⟨_, rfl⟩
  have CM : ∀ (w : World), Rd w w.heap.size 3 la l.length (flat l) → Calls Try.prog 18 #[.slice la l.length lc, .int .i64 ((M : Int) + 1)] w (fun e w' => ∃ a c, e = .returned (.tuple #[.slice a n2 c, .bool true]) ∧ Below w.heap.size w w' ∧ w'.ownsRow w.heap.size 77 3 (.slice a n2 c) n2 (flat (firstL (M + 1) (groupsR l)))) := fun w h => by
    have := implFirstOf_any la l.length lc l ((M : Int) + 1) w (by omega) hlc2 hok h
    try unfold FirstOfOut at this
    rw [hS2, e2, hB2] at this
    exact this
  have hn2 : n2 ≤ 120 := by rw [← e2]; exact sortedOk_le4 hEo
  have hEok : ∀ r ∈ firstL (M + 1) (groupsR l), r.Ok := fun r hr => hok r ((first_sub (M + 1) l).subset hr)
  have hFok : ∀ r ∈ firstL M (groupsR l), r.Ok := fun r hr => hok r ((first_sub M l).subset hr)
  have hB3 : firstB (firstL (M + 1) (groupsR l)) (M : Int) = true := by unfold firstB; rw [hEo]; simp
  have hS3 : firstS (firstL (M + 1) (groupsR l)) (M : Int) = firstL M (groupsR l) := by unfold firstS; rw [if_pos hB3]; exact first_again hka
  rw [hFS] at e1
  have CA : ∀ (w : World) (a1 : Option Addr) (c1 : Nat) (hc1 : n2 ≤ c1), Rd w w.heap.size 3 a1 n2 (flat (firstL (M + 1) (groupsR l))) → Calls Try.prog 18 #[.slice a1 n2 c1, .int .i64 (M : Int)] w (fun e w' => ∃ a c, e = .returned (.tuple #[.slice a n1 c, .bool true]) ∧ Below w.heap.size w w' ∧ w'.ownsRow w.heap.size 77 3 (.slice a n1 c) n1 (flat (firstL M (groupsR l)))) := fun w a1 c1 hc1 h => by
    have := implFirstOf_any a1 n2 c1 (firstL (M + 1) (groupsR l)) (M : Int) w (by omega) hc1 hEok h
    try unfold FirstOfOut at this
    rw [hS3, e1, hB3] at this
    exact this
  obtain ⟨nA, e3⟩ : ∃ j, (groupsR l).length = j := ⟨_, rfl⟩
  obtain ⟨nB, e4⟩ : ∃ j, (bG M l).length = j := ⟨_, rfl⟩
  have e5 : groupsR (firstL M (groupsR l)) = bG M l := rfl
  have CG : ∀ (w : World), Rd w w.heap.size 3 la l.length (flat l) → Calls Try.prog 25 #[.slice la l.length lc] w (fun e w' => ∃ b c gs, e = .returned (.tuple #[.slice b nA c, .bool true]) ∧ Below w.heap.size w w' ∧ GOwn w' w.heap.size b nA c gs (groupsR l)) := fun w h => by
    have := implGroupsOf_yes la l.length lc l w (by omega) hlc2 hok h hso
    rw [e3] at this
    exact this
  have CH : ∀ (w : World) (a1 : Option Addr) (c1 : Nat) (hc1 : n1 ≤ c1), Rd w w.heap.size 3 a1 n1 (flat (firstL M (groupsR l))) → Calls Try.prog 25 #[.slice a1 n1 c1] w (fun e w' => ∃ b c gs, e = .returned (.tuple #[.slice b nB c, .bool true]) ∧ Below w.heap.size w w' ∧ GOwn w' w.heap.size b nB c gs (bG M l)) := fun w a1 c1 hc1 h => by
    have := implGroupsOf_yes a1 n1 c1 (firstL M (groupsR l)) w (by omega) hc1 hFok h hFo
    rw [e5, e4] at this
    exact this
  have CO : ∀ (w : World) (a1 : Option Addr) (c1 : Nat), Rd w w.heap.size 3 a1 n1 (flat (firstL M (groupsR l))) → Calls Try.prog 26 #[.slice a1 n1 c1] w (fun e w' => e = .returned (.bool true) ∧ Below w.heap.size w w') := fun w a1 c1 h => by
    have := implSortedOk_any a1 n1 c1 (firstL M (groupsR l)) w (by omega) hFok h
    rw [hFo] at this
    exact this
  have HBA := Lib.hid (fun i k xs h => bG_at (N := M) hka (i := i) (k := k) (xs := xs) h)
  have HBL := Lib.hid (show M ≠ 0 → nB = nA from fun h => by rw [← e4, ← e3]; exact bG_len hka h)
  have hnB : nB ≤ 1048576 := by
    rw [← e4]
    have h := groupsF_le (firstL M (groupsR l)).length (firstL M (groupsR l))
    have h2 : (bG M l).length ≤ (firstL M (groupsR l)).length := h
    omega
  have HNB := Lib.hid e4
  rw [hFS] at CI CS
  clear hB hB0 hFS hso hka hFo hEo hB2 hS2 e2 hEok hFok hB3 hS3 e1 e3 e4 e5 hok
  generalize bG M l = BG at *
  generalize firstL M (groupsR l) = F at *
  generalize firstL (M + 1) (groupsR l) = E at *
  generalize groupsR l = AG at *
  go_wp2_with fail
  refine (CI w1 L).mono ?_
  rintro e w2 ⟨pa, pc, rfl, hb, hO⟩
  replace B := B.trans (hb.mono B.size)
  replace L := (L.below hb (Nat.le_refl _)).more hb.size
  clear hb
  have P := Rd.of_own hO
  have hpc : n1 ≤ pc := by
    obtain ⟨g, c', e, h⟩ := own_slice2 hO
    injection e with _ _ e
    rw [e]; exact h
  clear hO CI
  go_wp2_with fail
  refine (CS w2 L).mono ?_
  rintro e w3 ⟨qa, qc, rfl, hb, hO⟩
  replace B := B.trans (hb.mono B.size)
  replace L := (L.below hb (Nat.le_refl _)).more hb.size
  replace P := (P.below hb (Nat.le_refl _)).more hb.size
  clear hb
  have Q := Rd.of_own hO
  clear hO CS
  go_wp2_with fail
  refine (sameRows_same pa qa n1 pc qc F w3 (by omega) P Q).mono ?_
  rintro e w4 ⟨rfl, hb⟩
  replace B := B.trans (hb.mono B.size)
  replace L := (L.below hb (Nat.le_refl _)).more hb.size
  replace P := (P.below hb (Nat.le_refl _)).more hb.size
  replace Q := (Q.below hb (Nat.le_refl _)).more hb.size
  clear hb
  clear Q
  go_wp2_with fail
  have hwm : IntKind.i64.wrap ((M : Int) + 1) = (M : Int) + 1 := IntWalk.i64_in _ (by omega)
  refine (CM w4 L).mono ?_
  rintro e w5 ⟨ma, mc, rfl, hb, hO⟩
  replace B := B.trans (hb.mono B.size)
  replace L := (L.below hb (Nat.le_refl _)).more hb.size
  replace P := (P.below hb (Nat.le_refl _)).more hb.size
  clear hb
  have MM := Rd.of_own hO
  have hmc : n2 ≤ mc := by
    obtain ⟨g, c', e, h⟩ := own_slice2 hO
    injection e with _ _ e
    rw [e]; exact h
  clear hO CM
  go_wp2_with fail
  refine (CA w5 ma mc hmc MM).mono ?_
  rintro e w6 ⟨ta, tc, rfl, hb, hO⟩
  replace B := B.trans (hb.mono B.size)
  replace L := (L.below hb (Nat.le_refl _)).more hb.size
  replace P := (P.below hb (Nat.le_refl _)).more hb.size
  replace MM := (MM.below hb (Nat.le_refl _)).more hb.size
  clear hb
  have T := Rd.of_own hO
  clear hO CA
  clear MM
  go_wp2_with fail
  refine (CG w6 L).mono ?_
  rintro e w7 ⟨aa, ac, ags, rfl, hb, hO⟩
  replace B := B.trans (hb.mono B.size)
  replace L := (L.below hb (Nat.le_refl _)).more hb.size
  replace P := (P.below hb (Nat.le_refl _)).more hb.size
  replace T := (T.below hb (Nat.le_refl _)).more hb.size
  clear hb
  have GA := GRc.of_own hO
  clear hO CG
  clear L
  go_wp2_with fail
  refine (CH w7 pa pc hpc P).mono ?_
  rintro e w8 ⟨ba, bc, bgs, rfl, hb, hO⟩
  replace B := B.trans (hb.mono B.size)
  replace P := (P.below hb (Nat.le_refl _)).more hb.size
  replace T := (T.below hb (Nat.le_refl _)).more hb.size
  replace GA := (GA.below hb (Nat.le_refl _)).more hb.size
  clear hb
  have GB := GRc.of_own hO
  clear hO CH
  go_wp2_with fail
  go_loopw [17] (fun i wr => ∃ k : Nat, k ≤ nB ∧ i = .int .i64 k ∧ Below w8.heap.size w8 wr) (fun i _ => nB - (intOf i).toNat)
  case atStart => exact ⟨0, Nat.zero_le _, rfl, Below.refl _ _⟩
  case round =>
    obtain ⟨k, hk, rfl, hb⟩ := hrel
    by_cases hlt : k < nB
    · obtain ⟨⟨key, xs⟩, hx⟩ : ∃ x, BG[k]? = some x := ⟨_, List.getElem?_eq_getElem (by rw [HNB.out]; exact hlt)⟩
      obtain ⟨ys, hy, hxy, hxM⟩ := HBA.out k key xs hx
      obtain ⟨b1, a1, c1, rfl, hB1, c0, c1c, hc1, R1⟩ := ((GB.below hb (Nat.le_refl _)).more hb.size).2 k key xs hx
      obtain ⟨b2, a2, c2, rfl, hB2, d0, d1, hc2, R2⟩ := ((GA.below hb (Nat.le_refl _)).more hb.size).2 k key ys hy
      have hkA : k < nA := by
        rw [← GA.1]
        exact (List.getElem?_eq_some_iff.1 hy).1
      have hxl : xs.length ≤ ys.length := by rw [hxy, List.length_take]; omega
      have hxl2 : xs.length ≤ c2 := by omega
      have hxl3 : ¬ M < xs.length := by omega
      have hxt : xs = ys.take xs.length := by
        rw [hxy, List.length_take]
        rcases Nat.le_total M ys.length with h | h
        · rw [Nat.min_eq_left h]
        · rw [Nat.min_eq_right h, List.take_of_length_le h, List.take_of_length_le (Nat.le_refl _)]
      have R3 : Rd wr wr.heap.size 3 a2 xs.length (flat xs) := by
        have := R2.head hxl
        rw [← hxt] at this
        exact this
      have g0 := fun d os => cell_regrown c0 d os
      have g1 := fun d os => cell_regrown c1c d os
      have f0 := fun d os => cell_regrown d0 d os
      have f1 := fun d os => cell_regrown d1 d os
      have CR := Lib.hid (fun d os => Calls.regrown_of (w := wr) (d := d) (os := os) (sameRows_same a1 a2 xs.length c1 c2 xs _ (by omega) (R1.grownF (below_regrown wr d os)) (R3.grownF (below_regrown wr d os))))
      clear hx hy hxy hxt R1 R2 R3 c0 c1c d0 d1
      go_wp2_with fail
      refine wp_region_wq (by kernel_rfl) (by kernel_rfl) ?_
      repeat (refine WQ.step (fun K hK => ?_); go_simp; first | (refine hK _ ?_; clear hK K) | (apply Exists.intro; refine ⟨fun _ => ?_, hK _ ?_⟩; (first | with_reducible exact CR.out _ _); clear hK K))
      refine WQ.nil ?_
      intro _ hw'
      obtain ⟨⟨dq, osq⟩, hw''⟩ := hw'
      subst hw''
      have hb2 := hb.trans ((below_regrown wr dq osq).mono hb.size)
      generalize Go.Sort.grow (redrawn wr dq) osq = w9 at *
      clear g0 g1 f0 f1 CR hb
      go_wp2_with fail
      go_roundw
      case rel => exact ⟨k + 1, by omega, by go_num, hb2⟩
      case measure => simp [intOf]; omega
    · obtain rfl : k = nB := by omega
      have B9 := B.trans (hb.mono B.size)
      have P9 := P.grownF hb
      have T9 := T.grownF hb
      go_wp2_with fail
      refine (sameRows_same ta pa n1 tc pc F wr (by omega) T9 P9).mono ?_
      rintro e w8 ⟨rfl, hb8⟩
      have B8 := B9.trans (hb8.mono B9.size)
      have P8 := P9.grownF hb8
      go_wp2_with fail
      refine (CO w8 pa pc P8).mono ?_
      rintro e w7 ⟨rfl, hb7⟩
      have B7 := B8.trans (hb7.mono B8.size)
      by_cases hM0 : M = 0
      · subst hM0
        go_wp2_with fail
        go_ret
        exact ⟨rfl, B7⟩
      · have hE := HBL.out hM0
        have hM1 : ((M : Int) == 0) = false := by simp; omega
        have hE2 : (k == nA) = true := by simp; omega
        have hE3 : ((k : Int) == (nA : Int)) = true := by simp; omega
        go_wp2_with fail
        go_ret
        exact ⟨rfl, B7⟩
end Go.Proofs.Ytjepmcepgoncnaa

namespace Go.Proofs.Ytjepmcepgoncnaa
open Go.ChangeShapes Go.WideShapes Go.ChangeAt Go.RowKit Go.Joins
open Go.ChangeMaps (open_string shut_string)
namespace First

set_option maxRecDepth 100000 in
theorem lifted (os : Os) (started : os.Started) (H : Type) (enc : TypeId × Value → H) :
    ReturnsInHanded {} Try.checked os 4 .any (Rows.fnFirstSpec.pre6 enc Try.prog Try.f4 Rows.fnFirstRow.domain false) (Rows.fnFirstSpec.post enc Try.prog Try.f4 false true false false) := by
  refine returnsInHanded_of_change (C := Try.checked) own started (by kernel_rfl) Try.func4
    (ChangeSpec.witness6 (enc := enc) (C := Try.checked) false ⟨#[], #[.slice none 0 0], []⟩ 8 (by kernel_rfl) (by kernel_rfl) (by kernel_rfl) (by kernel_rfl)) ?_
  intro W base args ds gs before hval0 hW _ _
  have hval : ∀ (j : Nat) t v, Try.f4.params[j]? = some t → args[j]? = some v → Value.okWide Try.prog W .any base t v := hval0
  have hW' := hW
  obtain ⟨p, q, hA0, hV, rfl, _, _⟩ := hW
  have hA : DataW.TrodAll enc Try.prog W 0 (fun _ => true) true Try.f4.params.toList args.toList ds p := hA0
  rw [Try.params4] at hA hval
  obtain ⟨v0, vs0, d0, ds0, p0, q0, hargs, rfl, rfl, h0, r0⟩ := trodAll_cons hA
  obtain ⟨rfl, rfl, rfl⟩ := trodAll_nil r0
  obtain rfl : args = #[v0] := by cases args; simp_all
  obtain ⟨rfl, rfl⟩ := trodVars_none hV
  have k0 := h0
  have lt0 : ∀ x ∈ p0, x.block < W.heap.size := by obtain ⟨m, hm⟩ := k0; exact DataW.trod_lt m _ _ _ hm
  obtain ⟨a0, len0, cap0, z0, rfl, w0⟩ := open_Bytes (hval 0 31 v0 rfl rfl) h0
  clear hA0 hval0
  refine (walk_First a0 len0 cap0 z0 W w0).mono fun e W' ⟨he, bel⟩ => ?_
  subst he
  exact ⟨_, rfl, _, _, _, [], _, [], hW', trodAll_mk1 (shut_bool Try.underlying4 _), (trodAll_cons_mk (Below.trod laidOut (by kernel_rfl) (of_decide_eq_true (by kernel_rfl)) k0 bel lt0) trodAll_mk0), rfl, bel.frame _, fun h => by cases h⟩

theorem over : Rows.fnFirstRow.holds Try.pinned (OpenSpec.ofChange Rows.fnFirstSpec) :=
  OpenClaim.holds_of_wide 4 Try.f4 rfl rfl rfl rfl rfl rfl rfl ⟨rfl, rfl, rfl, rfl, rfl⟩ rfl rfl rfl rfl rfl (by kernel_rfl) Try.func4 (by kernel_rfl)
    (of_decide_eq_true (by kernel_rfl)) (by unfold Func.isWrapper; first | (rw [if_pos (by decide +kernel)]; kernel_rfl) | (rw [if_neg (by decide +kernel)]; exact ⟨rfl, rfl⟩))
    (fun os started H enc _ => lifted os started H enc)
end First
theorem fnFirst_holds : Rows.FnFirstSaid := First.over
end Go.Proofs.Ytjepmcepgoncnaa
