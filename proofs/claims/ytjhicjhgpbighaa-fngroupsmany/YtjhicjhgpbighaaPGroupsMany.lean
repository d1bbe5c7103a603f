/-
  Rows.FnGroupsManySaid: laws.FnGroupsMany returns true for every input, and each argument reads afterwards as it read before. No conditions.
-/
import Derived.Test.YtjhicjhgpbighaaLowB
import Derived.Test.YtjhicjhgpbighaaMarkRows
import Derived.Test.YtjhicjhgpbighaaPlain
import Derived.OwnWalkIn
import Derived.RangeFuncCalls
import Derived.Test.YtjhicjhgpbighaaStepOne
import Derived.Test.YtjhicjhgpbighaaSortedOkFns
import Derived.Test.YtjhicjhgpbighaaSame
import Derived.Test.YtjhicjhgpbighaaWQ
import Derived.Test.YtjhicjhgpbighaaSort
import Derived.Deep.QuietTactic
import Derived.BigQuiet
import Derived.Laws.IdiomStrings
import Derived.Laws.BitsAllLaws
import Derived.Test.YtjhicjhgpbighaaOpen
import Derived.ChangeSlices
import Derived.Deep.RegionWith
import Derived.Test.YtjhicjhgpbighaaSortedList
namespace Go.Proofs.Ytjhicjhgpbighaa
open Go.RowKit
/-- Groups that can be read below block B. -/
def GRd (w : World) (B : Nat) (a : Option Addr) (n : Nat) (G : List (ByteArray × List RowV)) : Prop :=
  G.length = n ∧ ∀ (i : Nat) (key : ByteArray) (rs : List RowV), G[i]? = some (key, rs) → ∃ b a' c', a = some ⟨b, 0, none⟩ ∧ b < B ∧ w.cell? ⟨b, i * 2, none⟩ = some (.string key) ∧ w.cell? ⟨b, i * 2 + 1, none⟩ = some (.slice a' rs.length c') ∧ Rd w B 3 a' rs.length (flat rs)
theorem GOwn.rd {w : World} {lo n c : Nat} {a : Option Addr} {gs : List (ByteArray × Value)} {G : List (ByteArray × List RowV)} (h : GOwn w lo a n c gs G) : GRd w w.heap.size a n G :=
  ⟨h.len.2, fun i key rs hi => by
    obtain ⟨b, a', c', e, h1, h2, c0, c1, _, hr⟩ := GIn.of_own h i key rs hi
    exact ⟨b, a', c', e, h2, c0, c1, hr.rd⟩⟩
theorem GRd.below {w w' : World} {B D n : Nat} {a : Option Addr} {G : List (ByteArray × List RowV)} (h : GRd w B a n G) (hb : Below D w w') (hD : B ≤ D) : GRd w' B a n G :=
  ⟨h.1, fun i key rs hi => by
    obtain ⟨b, a', c', e, h2, c0, c1, hr⟩ := h.2 i key rs hi
    exact ⟨b, a', c', e, h2, (hb.cell (p := ⟨b, i * 2, none⟩) (Nat.lt_of_lt_of_le h2 hD)).trans c0, (hb.cell (p := ⟨b, i * 2 + 1, none⟩) (Nat.lt_of_lt_of_le h2 hD)).trans c1, hr.below hb hD⟩⟩
theorem GRd.more {w : World} {B D n : Nat} {a : Option Addr} {G : List (ByteArray × List RowV)} (h : GRd w B a n G) (hD : B ≤ D) : GRd w D a n G :=
  ⟨h.1, fun i key rs hi => by
    obtain ⟨b, a', c', e, h2, c0, c1, hr⟩ := h.2 i key rs hi
    exact ⟨b, a', c', e, Nat.lt_of_lt_of_le h2 hD, c0, c1, hr.more hD⟩⟩
theorem GOwn.since {lo hi base n c : Nat} {w w' : World} {a : Option Addr} {gs : List (ByteArray × Value)} {G : List (ByteArray × List RowV)} (h : GOwn w base a n c gs G) (hs : Since lo hi w w') (hb : hi ≤ base) : GOwn w' base a n c gs G :=
  ⟨Since.own h.outer hs hb, h.keys, ⟨h.fam.len, fun i v rs h1 h2 => Since.own (h.fam.own i v rs h1 h2) hs hb, h.fam.sep⟩, h.out⟩
/-- How many marks groups take. -/
def sizeG : List (ByteArray × List RowV) → Nat
  | [] => 0
  | g :: G => 1 + 3 * g.2.length + sizeG G
theorem sizeG_snoc (G : List (ByteArray × List RowV)) (g : ByteArray × List RowV) : sizeG (G ++ [g]) = sizeG G + (1 + 3 * g.2.length) := by
  induction G with
  | nil => simp [sizeG]
  | cons x G ih => rw [List.cons_append, sizeG, sizeG, ih]; omega
theorem sizeG_take {G : List (ByteArray × List RowV)} {j : Nat} {g : ByteArray × List RowV} (h : G[j]? = some g) : sizeG (G.take (j + 1)) = sizeG (G.take j) + (1 + 3 * g.2.length) := by
  rw [List.take_add_one, h, Option.toList_some, sizeG_snoc]
theorem sizeG_append (A B : List (ByteArray × List RowV)) : sizeG (A ++ B) = sizeG A + sizeG B := by
  induction A with
  | nil => simp [sizeG]
  | cons x A ih => rw [List.cons_append, sizeG, sizeG, ih]; omega
theorem sizeG_le (G : List (ByteArray × List RowV)) (j : Nat) : sizeG (G.take j) ≤ sizeG G := by
  have e : sizeG G = sizeG (G.take j) + sizeG (G.drop j) := by rw [← sizeG_append, List.take_append_drop]
  omega
def marksG (K : Nat) : List (ByteArray × List RowV) → List (ByteArray × List RowV)
  | [] => []
  | g :: G => (markB K, marksR (K + 1) g.2.length) :: marksG (K + (1 + 3 * g.2.length)) G
theorem marksG_length (K : Nat) (G : List (ByteArray × List RowV)) : (marksG K G).length = G.length := by
  induction G generalizing K with
  | nil => rfl
  | cons g G ih => simp [marksG, ih]
theorem marksRlen (K j : Nat) : (marksR K j).length = j := by simp [marksR]
theorem marksG_get {G : List (ByteArray × List RowV)} {i K : Nat} {g : ByteArray × List RowV} (h : G[i]? = some g) : (marksG K G)[i]? = some (markB (K + sizeG (G.take i)), marksR (K + sizeG (G.take i) + 1) g.2.length) := by
  induction G generalizing i K with
  | nil => simp at h
  | cons x G ih =>
    cases i with
    | zero => simp at h; subst h; simp [marksG, sizeG]
    | succ i =>
      have := ih (i := i) (K := K + (1 + 3 * x.2.length)) (by simpa using h)
      simp only [marksG, List.getElem?_cons_succ, List.take_succ_cons, sizeG]
      rw [this, show K + (1 + 3 * x.2.length) + sizeG (G.take i) = K + (1 + 3 * x.2.length + sizeG (G.take i)) by omega]
/-- The first j are marked. -/
def mixG (G : List (ByteArray × List RowV)) (j : Nat) : List (ByteArray × List RowV) := (marksG 1 G).take j ++ G.drop j
theorem mixG_zero (G : List (ByteArray × List RowV)) : mixG G 0 = G := by simp [mixG]
theorem mixG_all {G : List (ByteArray × List RowV)} {j : Nat} (h : G.length ≤ j) : mixG G j = marksG 1 G := by
  unfold mixG
  rw [List.take_of_length_le (by rw [marksG_length]; exact h), List.drop_of_length_le h, List.append_nil]
theorem mixG_len (G : List (ByteArray × List RowV)) (j : Nat) : (mixG G j).length = G.length := by
  unfold mixG
  rw [List.length_append, List.length_take, List.length_drop, marksG_length]
  omega
theorem mixG_at {G : List (ByteArray × List RowV)} {j : Nat} {g : ByteArray × List RowV} (h : G[j]? = some g) : (mixG G j)[j]? = some g := by
  have hj := (List.getElem?_eq_some_iff.1 h).1
  unfold mixG
  rw [List.getElem?_append_right (by rw [List.length_take]; omega), List.length_take, marksG_length, List.getElem?_drop, show j + (j - min j G.length) = j by omega]
  exact h
theorem mixG_set {G : List (ByteArray × List RowV)} {j : Nat} {g m : ByteArray × List RowV} (h : G[j]? = some g) (hm : (marksG 1 G)[j]? = some m) : (mixG G j).set j m = mixG G (j + 1) := by
  have hj := (List.getElem?_eq_some_iff.1 h).1
  apply List.ext_getElem?
  intro i
  by_cases e : j = i
  · subst e
    rw [List.getElem?_set_self (by rw [mixG_len]; exact hj)]
    unfold mixG
    rw [List.getElem?_append_left (by rw [List.length_take, marksG_length]; omega), List.getElem?_take_of_lt (by omega), hm]
  · rw [List.getElem?_set_ne e]
    unfold mixG
    rcases Nat.lt_or_ge i j with hi | hi
    · rw [List.getElem?_append_left (by rw [List.length_take, marksG_length]; omega), List.getElem?_append_left (by rw [List.length_take, marksG_length]; omega), List.getElem?_take_of_lt hi, List.getElem?_take_of_lt (by omega)]
    · rw [List.getElem?_append_right (by rw [List.length_take]; omega), List.getElem?_append_right (by rw [List.length_take, marksG_length]; omega), List.length_take, List.length_take, marksG_length, List.getElem?_drop, List.getElem?_drop]
      congr 1
      omega
theorem gcells_key : ∀ (gs : List (ByteArray × Value)) (i : Nat) (k k' : ByteArray) (v : Value), gs[i]? = some (k, v) → (gcells gs).set (i * 2) (.string k') = gcells (gs.set i (k', v))
  | [], _, _, _, _, h => by simp at h
  | x :: gs, 0, k, k', v, h => by
    rw [List.getElem?_cons_zero] at h
    injection h with h
    subst h
    rfl
  | x :: gs, i + 1, k, k', v, h => by
    rw [List.getElem?_cons_succ] at h
    have ih := gcells_key gs i k k' v h
    have e : gcells (x :: gs) = .string x.1 :: x.2 :: gcells gs := rfl
    rw [e, show (i + 1) * 2 = (i * 2) + 1 + 1 by omega, List.set_cons_succ, List.set_cons_succ, ih, List.set_cons_succ]
    rfl
theorem set_same {α : Type} {l : List α} {i : Nat} {x : α} (h : l[i]? = some x) : l.set i x = l := by
  apply List.ext_getElem?
  intro k
  by_cases e : i = k
  · subst e; rw [List.getElem?_set_self (List.getElem?_eq_some_iff.1 h).1, h]
  · rw [List.getElem?_set_ne e]
/-- The key of a group is stored. -/
theorem GOwn.setKey {w : World} {lo n c g p : Nat} {gs : List (ByteArray × Value)} {G : List (ByteArray × List RowV)} {k k' : ByteArray} {v : Value} {rs : List RowV} (h : GOwn w lo (some ⟨g, 0, none⟩) n c gs G) (hv : gs[p]? = some (k, v)) (hG : G[p]? = some (k, rs)) : GOwn (w.setCell ⟨g, p * 2, none⟩ (.string k')) lo (some ⟨g, 0, none⟩) n c (gs.set p (k', v)) (G.set p (k', rs)) := by
  have hgo : (Value.slice (some ⟨g, 0, none⟩) n c).ownBlock = some g := rfl
  have e1 : (gs.set p (k', v)).map (·.2) = gs.map (·.2) := by
    rw [List.map_set]
    exact set_same (by rw [List.getElem?_map, hv]; rfl)
  have e2 : (G.set p (k', rs)).map (·.2) = G.map (·.2) := by
    rw [List.map_set]
    exact set_same (by rw [List.getElem?_map, hG]; rfl)
  refine ⟨?_, by rw [List.map_set, List.map_set, h.keys], ?_, by rw [e1]; exact h.out⟩
  · rw [← gcells_key gs p k k' v hv]
    exact (h.outer.stored (p * 2) (.string k')).1
  · rw [e1, e2]
    refine ⟨h.fam.len, fun i u rs hu hr => own_other (h.fam.own i u rs hu hr) (gb_store (World.grownBy.refl w (some g)) (p * 2) (.string k')) (fun g' h1 h2 => ?_), h.fam.sep⟩
    injection h2 with h2
    exact h.out u (List.mem_of_getElem? hu) g' h1 (by rw [hgo, h2])
/-- The rows of a group are written. -/
theorem GOwn.rows {w w1 : World} {lo n c p : Nat} {a : Option Addr} {gs : List (ByteArray × Value)} {G : List (ByteArray × List RowV)} {k : ByteArray} {v : Value} {rs rs' : List RowV} (h : GOwn w lo a n c gs G) (hv : gs[p]? = some (k, v)) (hG : G[p]? = some (k, rs)) (hg : w.grownBy w1 v.ownBlock) (hM : w1.ownsRow lo 39 3 v rs'.length (flat rs')) : GOwn w1 lo a n c gs (G.set p (k, rs')) := by
  have hv1 : (gs.map (·.2))[p]? = some v := by rw [List.getElem?_map, hv]; rfl
  have hF := h.fam.set (rs' := rs') hv1 hg hM (.inl rfl)
  rw [set_same hv1] at hF
  refine ⟨own_other h.outer hg (fun g hg he => h.out _ (List.mem_of_getElem? hv1) g he hg), ?_, ?_, h.out⟩
  · rw [List.map_set, h.keys]
    exact (set_same (by rw [List.getElem?_map, hG]; rfl)).symm
  · rw [List.map_set]
    exact hF
/-- Every block of groups lies below hi. -/
def BndG (hi : Nat) (a : Option Addr) (gs : List (ByteArray × Value)) : Prop := (∀ v ∈ gs.map (·.2), ∀ g, v.ownBlock = some g → g < hi) ∧ ∀ b o, a = some ⟨b, o, none⟩ → b < hi
theorem sizeG_at {G : List (ByteArray × List RowV)} {j : Nat} {g : ByteArray × List RowV} (h : G[j]? = some g) : 1 + 3 * g.2.length ≤ sizeG G := by
  have h1 := sizeG_take h
  have h2 := sizeG_le G (j + 1)
  omega
end Go.Proofs.Ytjhicjhgpbighaa

namespace Go.Proofs.Ytjhicjhgpbighaa
open Go.RowKit
def noDefer (o : Oper) : Bool := match o.op with | .defer _ => false | _ => true
theorem noDefer_out {o : Oper} (h : noDefer o = true) : ∀ c, o.op ≠ .defer c := by
  intro c e
  unfold noDefer at h
  rw [e] at h
  cases h
theorem wpIn_round {P : Program} {l n : Nat} {o : Oper} {a : Act} {w : World} {K : Act → World → Prop} {Q : Exit → Act → World → Prop} (hd : noDefer o = true) (h : o.wp P a w K Q) : o.wpIn (Fence.wide.inRound l) n P a w K Q := by
  refine ⟨fun _ _ => trivial, ?_⟩
  rw [Oper.semAt_plain _ _ _ (noDefer_out hd)]
  unfold Oper.wp at h
  revert h
  generalize (execOp a.eval o).run P w = r
  intro h
  cases r with
  | ok x w' =>
    cases x with
    | value v => exact h
    | skip => exact h
    | defer d => exact h
    | enter f args => exact ⟨fun h => (by cases h), (callsIn_wide (n := n - 1)).2 h⟩
    | row r args => exact ⟨fun h => (by cases h), fun c cs _ => let ⟨v, w2, h1, h2⟩ := h c cs; ⟨v, w2, h1, stepsIn_wide.2 h2⟩⟩
    | _ => exact h.elim
  | halt x w' => cases x <;> first | exact h | exact h.elim
theorem wpOpsIn_round {P : Program} {l n : Nat} {ops : Array Oper} {Q : Exit → Act → World → Prop} (hd : ∀ o ∈ ops.toList, noDefer o = true) (hQ : ¬ LetsOut Q) : ∀ (is : List Nat) (a : Act) (w : World), wpOps P ops Q is a w → wpOpsIn (Fence.wide.inRound l) n P ops Q is a w := by
  intro is
  induction is with
  | nil => exact fun a w h => h
  | cons i is ih =>
    intro a w h
    unfold wpOps at h
    unfold wpOpsIn
    cases ho : ops[i]? with
    | none => rw [ho] at h; exact ih _ _ h
    | some o =>
      rw [ho] at h
      have hm : o ∈ ops.toList := by
        obtain ⟨hi, rfl⟩ := Array.getElem?_eq_some_iff.1 ho
        simp
      simp only at h ⊢
      split
      · rename_i hw
        rw [if_pos hw] at h
        rcases h with h | ⟨_, h⟩
        · exact wpIn_round (hd o hm) (Oper.wp_mono (fun a w h => ih a w h) h)
        · exact absurd h hQ
      · rename_i hw
        rw [if_neg hw] at h
        exact ⟨fun _ _ => trivial, ih _ _ h⟩
theorem wpIn_region_round {P : Program} {l n id : Nat} {ops : List Oper} {Q : Exit → Act → World → Prop} {a : Act} {w : World} (hm : P.follows .mixedOrders = true) (hd : ops.all noDefer = true) (hQ : ¬ LetsOut Q)
    (h : wpAny P .any ops.toArray Q ops.length (Array.replicate ops.length false) a w.drew) : (Code.region id ops.toArray true).wpIn (Fence.wide.inRound l) n P Q a w := by
  refine wpIn_region_draw fun t => ?_
  refine wpOpsIn_round (fun o ho => List.all_eq_true.1 hd o (by simpa using ho)) hQ _ _ _ ?_
  simp only [Region.schedule, hm, Bool.true_or, if_true]
  have := wpAny_sound ops.length t _ a _ h
  simpa [Region.linearise] using this
end Go.Proofs.Ytjhicjhgpbighaa

namespace Go.Proofs.Ytjhicjhgpbighaa
open Go.RowKit Go.Shelf
attribute [local go_sem] Oper.semAt_some
theorem GOwn.bnd {w : World} {lo n c : Nat} {a : Option Addr} {gs : List (ByteArray × Value)} {G : List (ByteArray × List RowV)} (h : GOwn w lo a n c gs G) : BndG w.heap.size a gs := by
  constructor
  · intro v hv g hg
    obtain ⟨i, hi, e⟩ := List.mem_iff_getElem.1 hv
    have h1 : (gs.map (·.2))[i]? = some v := by rw [List.getElem?_eq_getElem hi, e]
    have h2 : (G.map (·.2))[i]? = some ((G.map (·.2))[i]'(by rw [← h.fam.len]; exact hi)) := List.getElem?_eq_getElem _
    exact (own_ge (h.fam.own i v _ h1 h2) g hg).2
  · rintro b o rfl
    rcases h.outer.2 with ⟨hv, _⟩ | ⟨g, cap, cur, hv, _, hgb, _⟩
    · cases hv
    · injection hv with hv
      injection hv with hv
      injection hv with h1
      subst h1
      exact (Array.getElem?_eq_some_iff.1 hgb).1
def groupsOfB (rs : List RowV) : Bool := sortedOk rs
def groupsOfS (rs : List RowV) : List (ByteArray × List RowV) := if groupsOfB rs = true then groupsR rs else []
theorem sizeG_flat : ∀ G : List (ByteArray × List RowV), sizeG G = G.length + 3 * (G.flatMap (·.2)).length
  | [] => rfl
  | g :: G => by
    rw [sizeG, sizeG_flat G, List.flatMap_cons, List.length_append, List.length_cons]
    omega
theorem groups_flatG : ∀ (n : Nat) (l : List RowV), l.length ≤ n → (groupsR l).flatMap (·.2) = l
  | _, [], _ => rfl
  | 0, _ :: _, h => by simp at h
  | n + 1, r :: l, h => by
    have hp := leadN_pos r l
    rw [groupsR_next, List.flatMap_cons, groups_flatG n _ (by rw [List.length_drop]; rw [List.length_cons] at h ⊢; omega)]
    show leadL r.key (r :: l) ++ _ = _
    rw [← lead_take, List.take_append_drop]
theorem sorted_few {rs : List RowV} (h : sortedOk rs = true) : rs.length ≤ 120 := by
  unfold sortedOk at h
  rw [Bool.and_eq_true] at h
  have h1 := h.1
  unfold rowsOk at h1
  rw [Bool.and_eq_true] at h1
  exact of_decide_eq_true h1.1
theorem groupsOfS_le (rs : List RowV) : (groupsOfS rs).length ≤ 1048576 ∧ sizeG (groupsOfS rs) ≤ 1048576 := by
  unfold groupsOfS
  split
  · rename_i h
    have h1 := sorted_few h
    have h2 := groupsF_le rs.length rs
    have h3 := sizeG_flat (groupsR rs)
    rw [groups_flatG _ rs (Nat.le_refl _)] at h3
    have h4 : (groupsR rs).length ≤ rs.length := h2
    exact ⟨by omega, by omega⟩
  · exact ⟨Nat.zero_le _, Nat.zero_le _⟩
theorem GOwn.nilG (w : World) (lo : Nat) : GOwn w lo none 0 0 [] [] := ⟨World.ownsRow_nil _ _ _ _, rfl, Fam.nil _ _, fun v hv => by cases hv⟩
theorem kept_rowG {X Y : World} {row : Option Nat} {n₀ e size n : Nat} {v : Value} {xs : List Value} (hr : X.ownsRow n₀ e size v n xs) (hg : X.grownBy Y row) (hrow : ∀ r, row = some r → ∃ o : Obj, X.heap[r]? = some o ∧ o.isCells = false) : Y.ownsRow n₀ e size v n xs := by
  refine hr.kept hg ?_
  rcases hr.2 with ⟨rfl, _⟩ | ⟨g, cap, cur, rfl, _, hgb, _⟩
  · exact .inl rfl
  · refine .inr fun e' => ?_
    obtain ⟨o, ho, hc⟩ := hrow g (by simpa [Value.ownBlock] using e'.symm)
    rw [hgb] at ho; cases ho; cases hc
theorem GOwn.keptRow {X Y : World} {row : Option Nat} {lo n c : Nat} {a : Option Addr} {gs : List (ByteArray × Value)} {G : List (ByteArray × List RowV)} (h : GOwn X lo a n c gs G) (hg : X.grownBy Y row) (hrow : ∀ r, row = some r → ∃ o : Obj, X.heap[r]? = some o ∧ o.isCells = false) : GOwn Y lo a n c gs G :=
  ⟨kept_rowG h.outer hg hrow, h.keys, ⟨h.fam.len, fun i v rs hv hr => kept_rowG (h.fam.own i v rs hv hr) hg hrow, h.fam.sep⟩, h.out⟩
theorem GOwn.setBox {W : World} {B lo n c : Nat} {t : TypeId} {u x : Value} {a : Option Addr} {gs : List (ByteArray × Value)} {G : List (ByteArray × List RowV)} (h : GOwn W lo a n c gs G) (hv : Boxed W B t u) (h1 : t ≠ 34) (h2 : t ≠ 39) : GOwn (W.setCell ⟨B, 0, none⟩ x) lo a n c gs G :=
  ⟨h.outer.kept (grownBy_setCell' W B x) (.inr (hv.not_row h1 h.outer).symm), h.keys, ⟨h.fam.len, fun i v rs hw hr => (h.fam.own i v rs hw hr).kept (grownBy_setCell' W B x) (.inr (hv.not_row h2 (h.fam.own i v rs hw hr)).symm), h.fam.sep⟩, h.out⟩
/-- A box holds a slice of groups. -/
def BoxGroups (B n₀ : Nat) (W : World) (G : List (ByteArray × List RowV)) : Prop := ∃ a c gs, Boxed W B 30 (.slice a G.length c) ∧ GOwn W n₀ a G.length c gs G
theorem boxGroups_own {β : Type} (B n₀ : Nat) (f : β → List (ByteArray × List RowV)) : Own (fun s W => BoxGroups B n₀ W (f s)) := by
  rintro s X Y row ⟨a, c, gs, hv, hP⟩ hg hrow
  refine ⟨a, c, gs, hv.kept hg (fun e' => ?_), hP.keptRow hg hrow⟩
  obtain ⟨o, ho, hc⟩ := hrow B e'.symm
  rw [show X.heap[B]? = _ from hv] at ho; cases ho; cases hc
theorem keeps_of_belowG {W W' : World} (h : Below W.heap.size W W') : KeepsOthers W W' := ⟨h.size, fun i _ hi _ => (h.block i (Array.getElem?_eq_some_iff.1 hi).1).trans hi⟩
theorem keeps_rowG {X Y : World} {n₀ e size n : Nat} {v : Value} {xs : List Value} (hr : X.ownsRow n₀ e size v n xs) (hg : X.grownBy Y v.ownBlock) : KeepsOthers X Y := by
  refine KeepsOthers.of_grownBy hg fun j o ej hj => ?_
  rcases hr.2 with ⟨rfl, _⟩ | ⟨g, cap, cur, rfl, _, hgb, _⟩
  · simp [Value.ownBlock] at ej
  · obtain rfl : g = j := by simpa [Value.ownBlock] using ej
    rw [hgb] at hj; cases hj; rfl
/-- One more group at the end of the list in the box: a call that copies its rows, an append, a store. -/
theorem round_groups {W w2 w4 : World} {B n₀ c c' : Nat} {b a' : Option Addr} {k : ByteArray} {v : Value} {gs : List (ByteArray × Value)} {D : List (ByteArray × List RowV)} {rs : List RowV} {o : Obj} (hv : Boxed W B 30 (.slice b D.length c)) (hP : GOwn W n₀ b D.length c gs D) (hn : n₀ ≤ W.heap.size) (hB : n₀ ≤ B)
    (hb : Below W.heap.size W w2) (hO : w2.ownsRow W.heap.size 39 3 v rs.length (flat rs))
    (hg4 : (w2.alloc o).grownBy w4 (Value.slice b D.length c).ownBlock) (hO4 : w4.ownsRow n₀ 34 2 (.slice a' (D.length + 1) c') (D.length + 1) (gcells gs ++ [.string k, v])) (hat : (Value.slice a' (D.length + 1) c').ownBlock = (Value.slice b D.length c).ownBlock ∨ (Value.slice a' (D.length + 1) c').ownBlock = some (w2.alloc o).heap.size) :
    Boxed w4 B 30 (.slice b D.length c) ∧ BoxGroups B n₀ (w4.setCell ⟨B, 0, none⟩ (.slice a' (D.length + 1) c')) (D ++ [(k, rs)]) ∧ Below n₀ W (w4.setCell ⟨B, 0, none⟩ (.slice a' (D.length + 1) c')) ∧ KeepsOthers W (w4.setCell ⟨B, 0, none⟩ (.slice a' (D.length + 1) c')) := by
  have hv2 : Boxed w2 B 30 (.slice b D.length c) := (hb.block _ hv.lt).trans hv
  have hP2 := hP.below hb
  have hb3 : Below W.heap.size W (w2.alloc o) := hb.alloc hb.size o
  have hv4 : Boxed w4 B 30 (.slice b D.length c) := (hv2.alloc o).kept hg4 (hv2.not_row (by decide) hP2.outer)
  have hP4 := hP.snoc hn hb3 (hO.alloc o) hg4 hO4 hat
  have hl : (D ++ [(k, rs)]).length = D.length + 1 := by rw [List.length_append, List.length_singleton]
  have hb4 : Below n₀ W w4 := ((hb.mono hn).alloc (Nat.le_trans hn hb.size) o).grown hg4 (by have := hb.size; simp; omega) (fun q e => (own_ge hP2.outer q e).1)
  refine ⟨hv4, ⟨a', c', gs ++ [(k, v)], by rw [hl]; exact hv4.set _, by rw [hl]; exact hP4.setBox hv4 (by decide) (by decide)⟩, hb4.setCell (p := ⟨B, 0, none⟩) hB _, ?_⟩
  exact (((keeps_of_belowG hb).trans (KeepsOthers.alloc _ _)).trans (keeps_rowG (hP2.outer.alloc o) hg4)).trans (KeepsOthers.setCell _ _ _)
theorem grps_snocG {w : World} {B : Nat} (l : List (GrpIn w B)) (x : GrpIn w B) : grpsOf (l ++ [x]) = grpsOf l ++ [(x.1.key, x.1.rows)] := by
  unfold grpsOf
  rw [List.map_append]
  rfl
theorem cell_grp_new (w : World) (k : ByteArray) (v : Value) (t : TypeId) (_h1 : v.oneCell' = true) : ∀ j u, [Value.string k, v][j]? = some u → (w.alloc (.cells #[.string k, v] t)).cell? (Addr.add ⟨w.heap.size, 0, none⟩ j) = some u := by
  intro j u hu
  rw [Addr.add_mid, Nat.zero_add]
  rcases j with _ | _ | j <;> simp at hu <;> subst hu <;> simp [go_sem]
set_option maxRecDepth 100000 in
set_option maxHeartbeats 4000000 in
theorem implGroupsOf_yes (a : Option Addr) (n cap : Nat) (rs : List RowV) (w : World) (hm : n ≤ 1048576) (hnc : n ≤ cap) (hok : ∀ r ∈ rs, r.Ok) (hR : Rd w w.heap.size 3 a n (flat rs)) (hs : sortedOk rs = true) :
    Calls Try.prog 15 #[.slice a n cap] w fun e w' => ∃ b c gs, e = .returned (.tuple #[.slice b (groupsR rs).length c, .bool true]) ∧ Below w.heap.size w w' ∧ GOwn w' w.heap.size b (groupsR rs).length c gs (groupsR rs) := by
  obtain ⟨i1, hi, hz0, hz1, hz2⟩ := info_parts infoGroup
  have C0 := implSortedOk_any a n cap rs w hm hok hR
  rw [hs] at C0
  have hn120 := sorted_few hs
  have HRL := Lib.hid hR.rows_length
  have CB := fun w => byKey_any a n cap w
  clear hok hs
  refine (callsIn_wide (n := 5)).1 ?_
  refine callsIn_of_wp_marks Try.func15 rfl trivial ?_ rfl
  simp only [Try.ntmps15, List.size_toArray, List.length_cons, List.length_nil, Nat.reduceAdd, Nat.reduceSub, Array.replicate_succ, Array.replicate_zero, List.push_toArray, List.append_toArray, List.nil_append, List.cons_append]
  gi_wp2_with fail
  refine ⟨trivial, ?_⟩
  refine (callsIn_wide.2 C0).mono ?_
  rintro e w1 ⟨rfl, hb1⟩
  have bF := Boxed.new w1 30 (.slice none 0 0)
  have bF2 := bl1 w1 (.cells #[.slice none 0 0] 30)
  have hR1 := hR.below hb1 (Nat.le_refl _)
  clear C0
  gi_wp2_with fail
  refine ⟨trivial, ?_⟩
  refine (callsIn_wide.2 (CB _)).mono ?_
  rintro e w2 ⟨rfl, rfl⟩
  gi_wp2_with fail
  have hW1 := bF2.alloc (by have := bF2.size; omega) (.cells #[.slice a n cap] 24)
  have bF3 := bF.alloc (.cells #[.slice a n cap] 24)
  have bC := Boxed.new (w1.alloc (.cells #[.slice none 0 0] 30)) 24 (.slice a n cap)
  rw [World.size_alloc] at bC
  have hR0 := hR1.below (hW1.mono hb1.size) (Nat.le_refl _)
  have hW0 := hb1.trans (hW1.mono hb1.size)
  generalize hWe : ((w1.alloc (.cells #[.slice none 0 0] 30)).alloc (.cells #[.slice a n cap] 24)) = W0 at *
  have hsz : w.heap.size ≤ W0.heap.size := hW0.size
  have hl2 : w.heap.size ≤ w1.heap.size := hb1.size
  clear hWe
  refine wpIn_rangeFunc_ownF rfl (by omega) (gf := 76) (lb := #[.pointer (some ⟨w1.heap.size + 1, 0, none⟩)]) rfl trivial (enters_of Try.func76 (by kernel_rfl) rfl)
    (byKey_stops _ (w1.heap.size + 1) w.heap.size a n cap rs hm hnc W0 hsz bC.cell bC.lt hR0) belowK_t (belowK_b hsz) (Below.refl _ _) (fun _ => rfl)
    (fun (pre : List (GrpIn W0 w.heap.size)) W => BoxGroups w1.heap.size w.heap.size W (grpsOf pre) ∧ Below w.heap.size W0 W)
    (fun _ _ _ => False)
    (OwnFrom.and (Own.from (boxGroups_own _ _ _) _) (ownFrom_below hsz hsz))
    (fun _ _ _ _ _ hs _ _ => hs)
    ⟨⟨_, _, [], bF3, GOwn.nilG _ _⟩, Below.refl _ _⟩
    (fun x => { tmps := #[.slice a n cap, undef, .slice none 0 0, .bool false, .pointer (some ⟨w1.heap.size, 0, none⟩), .string x.1.key, .slice x.1.a x.1.n x.1.c, .slice a n cap, .bool true, .bool false, .slice a n cap, .func (.func 76) #[] #[.pointer (some ⟨w1.heap.size + 1, 0, none⟩)], .string x.1.key, .slice x.1.a x.1.n x.1.c, undef, undef, undef, undef, undef, undef, undef, undef], defers := [] })
    ?assign ?body ?done ?stop
  case assign =>
    intro l x W K hK
    simp only [grpV] at *
    gi_wp2_with fail
    exact hK
  case body =>
    rintro l pre x W ⟨⟨b, c, gs, hv, hP⟩, hB⟩ hlt
    have hEq0 := grps_snocG pre x
    have hxR := x.2.1
    have hxm := x.2.2.2.1
    obtain ⟨⟨key, xa, xn, xc, rows⟩, hxp⟩ := x
    dsimp only at hxR hxm hEq0 ⊢
    have hxl : rows.length = xn := hxR.rows_length
    have hc := hv.cell
    have hDl : (grpsOf pre).length ≤ 120 := by rw [show (grpsOf pre).length = pre.length from List.length_map _]; omega
    have hsW : w.heap.size ≤ W.heap.size := Nat.le_trans hsz hB.size
    generalize grpsOf pre = D at *
    have HEQ := Lib.hid hEq0
    clear hEq0
    have RX : Rd W.drew W.drew.heap.size 3 xa xn (flat rows) := (hxR.below hB.drew (Nat.le_refl _)).more hsW
    refine wpIn_block ?_
    refine wpIn_region_round (by kernel_rfl) (by rfl) (by rintro ⟨a, w, h⟩; exact h) ?_
    refine wpAny_take (i := 1) (v := .string key) rfl (by kernel_rfl) (by kernel_rfl) (by kernel_rfl) (fun _ _ _ h => h) (Or.inl ⟨by rfl, fun w => by go_simp⟩) ?_
    refine wpAny_take (i := 2) (v := .slice xa xn xc) rfl (by kernel_rfl) (by kernel_rfl) (by kernel_rfl) (fun _ _ _ h => h) (Or.inl ⟨by rfl, fun w => by go_simp⟩) ?_
    refine wpAny_ready (rs := [0, 3]) (by kernel_rfl) (by simp) ?_
    refine AllReady.cons rfl (fun K hK => ?_) ?_
    · go_simp
      refine hK _ _ ?_
      clear hK K
      refine wpAny_ready (rs := [3]) (by kernel_rfl) (by simp) ?_
      refine AllReady.cons rfl (fun K hK => ?_) AllReady.nil
      go_simp
      refine (clone_any xa xn xc rows W.drew hxm RX).mono ?_
      rintro e w2 ⟨b2, c2, rfl, hO2, hb2x⟩
      refine hK _ _ ?_
      clear hK K
      refine wpAny_take (i := 4) (v := .agg #[.string key, .slice b2 xn c2]) rfl (by kernel_rfl) (by kernel_rfl) (by kernel_rfl) (fun _ _ _ h => h) (Or.inl ⟨by rfl, fun w => by go_simp⟩) ?_
      have hb2 : Below W.heap.size W w2 := (Below.refl W.heap.size W).drew.trans hb2x
      have hO2' : w2.ownsRow W.heap.size 39 3 (.slice b2 xn c2) rows.length (flat rows) := by rw [hxl]; exact hO2
      have hv2 : Boxed w2 w1.heap.size 30 (.slice b D.length c) := (hb2.block _ hv.lt).trans hv
      have hc2 := hv2.cell
      have hc2a := (hv2.alloc (.cells #[.string key, .slice b2 xn c2] 34)).cell
      refine wpAny_ready (rs := [5]) (by kernel_rfl) (by simp) ?_
      refine AllReady.cons rfl (fun K hK => ?_) AllReady.nil
      go_simp
      refine hK _ _ ?_
      clear hK K
      refine wpAny_ready (rs := [6]) (by kernel_rfl) (by simp) ?_
      refine AllReady.cons rfl (fun K hK => ?_) AllReady.nil
      refine step_append_one rfl _ _ 30 rfl w.heap.size 34 i1 (.agg #[.string ⟨#[]⟩, .slice none 0 0]) 2 40 Try.underlying30 hi hz0 hz1 hz2 rfl (by decide) (.slice b D.length c) _ _ rfl ((hP.below hb2).outer.alloc _) ⟨w2.heap.size, 0, none⟩ 1 1 [.string key, .slice b2 xn c2] rfl rfl (cell_grp_new _ _ _ _ rfl) (by intro u hu; simp at hu; rcases hu with rfl | rfl <;> rfl) (by unfold maxLen; omega) (by omega) (by have := hb2.size; simp; omega) ?_
      intro v' w4 hO4 hg4 hat
      obtain ⟨a4, c4, rfl⟩ := own_slice' hO4
      obtain ⟨hv4, hf1, hf2, hf3⟩ := round_groups hv hP hsW hl2 hb2 hO2' hg4 hO4 hat
      have hc4 := hv4.cell
      have hz4 := hv4.frozen
      refine hK _ _ ?_
      clear hK K
      refine wpAny_ready (rs := [7]) (by kernel_rfl) (by simp) ?_
      refine AllReady.cons rfl (fun K hK => ?_) AllReady.nil
      go_simp
      refine hK _ _ ?_
      clear hK K
      refine wpAny_done (by kernel_rfl) ?_ _
      exact ⟨hf3, hf2, by rw [HEQ.out]; exact hf1, hB.trans hf2⟩
    · refine AllReady.cons rfl (fun K hK => ?_) AllReady.nil
      go_simp
      refine (clone_any xa xn xc rows W.drew hxm RX).mono ?_
      rintro e w2 ⟨b2, c2, rfl, hO2, hb2x⟩
      refine hK _ _ ?_
      clear hK K
      refine wpAny_take (i := 4) (v := .agg #[.string key, .slice b2 xn c2]) rfl (by kernel_rfl) (by kernel_rfl) (by kernel_rfl) (fun _ _ _ h => h) (Or.inl ⟨by rfl, fun w => by go_simp⟩) ?_
      have hb2 : Below W.heap.size W w2 := (Below.refl W.heap.size W).drew.trans hb2x
      have hO2' : w2.ownsRow W.heap.size 39 3 (.slice b2 xn c2) rows.length (flat rows) := by rw [hxl]; exact hO2
      have hv2 : Boxed w2 w1.heap.size 30 (.slice b D.length c) := (hb2.block _ hv.lt).trans hv
      have hc2 := hv2.cell
      have hc2a := (hv2.alloc (.cells #[.string key, .slice b2 xn c2] 34)).cell
      refine wpAny_ready (rs := [0, 5]) (by kernel_rfl) (by simp) ?_
      refine AllReady.cons rfl (fun K hK => ?_) ?_
      · go_simp
        refine hK _ _ ?_
        clear hK K
        refine wpAny_ready (rs := [5]) (by kernel_rfl) (by simp) ?_
        refine AllReady.cons rfl (fun K hK => ?_) AllReady.nil
        go_simp
        refine hK _ _ ?_
        clear hK K
        refine wpAny_ready (rs := [6]) (by kernel_rfl) (by simp) ?_
        refine AllReady.cons rfl (fun K hK => ?_) AllReady.nil
        refine step_append_one rfl _ _ 30 rfl w.heap.size 34 i1 (.agg #[.string ⟨#[]⟩, .slice none 0 0]) 2 40 Try.underlying30 hi hz0 hz1 hz2 rfl (by decide) (.slice b D.length c) _ _ rfl ((hP.below hb2).outer.alloc _) ⟨w2.heap.size, 0, none⟩ 1 1 [.string key, .slice b2 xn c2] rfl rfl (cell_grp_new _ _ _ _ rfl) (by intro u hu; simp at hu; rcases hu with rfl | rfl <;> rfl) (by unfold maxLen; omega) (by omega) (by have := hb2.size; simp; omega) ?_
        intro v' w4 hO4 hg4 hat
        obtain ⟨a4, c4, rfl⟩ := own_slice' hO4
        obtain ⟨hv4, hf1, hf2, hf3⟩ := round_groups hv hP hsW hl2 hb2 hO2' hg4 hO4 hat
        have hc4 := hv4.cell
        have hz4 := hv4.frozen
        refine hK _ _ ?_
        clear hK K
        refine wpAny_ready (rs := [7]) (by kernel_rfl) (by simp) ?_
        refine AllReady.cons rfl (fun K hK => ?_) AllReady.nil
        go_simp
        refine hK _ _ ?_
        clear hK K
        refine wpAny_done (by kernel_rfl) ?_ _
        exact ⟨hf3, hf2, by rw [HEQ.out]; exact hf1, hB.trans hf2⟩
      · refine AllReady.cons rfl (fun K hK => ?_) AllReady.nil
        go_simp
        refine hK _ _ ?_
        clear hK K
        refine wpAny_ready (rs := [0]) (by kernel_rfl) (by simp) ?_
        refine AllReady.cons rfl (fun K hK => ?_) AllReady.nil
        go_simp
        refine hK _ _ ?_
        clear hK K
        refine wpAny_ready (rs := [6]) (by kernel_rfl) (by simp) ?_
        refine AllReady.cons rfl (fun K hK => ?_) AllReady.nil
        refine step_append_one rfl _ _ 30 rfl w.heap.size 34 i1 (.agg #[.string ⟨#[]⟩, .slice none 0 0]) 2 40 Try.underlying30 hi hz0 hz1 hz2 rfl (by decide) (.slice b D.length c) _ _ rfl ((hP.below hb2).outer.alloc _) ⟨w2.heap.size, 0, none⟩ 1 1 [.string key, .slice b2 xn c2] rfl rfl (cell_grp_new _ _ _ _ rfl) (by intro u hu; simp at hu; rcases hu with rfl | rfl <;> rfl) (by unfold maxLen; omega) (by omega) (by have := hb2.size; simp; omega) ?_
        intro v' w4 hO4 hg4 hat
        obtain ⟨a4, c4, rfl⟩ := own_slice' hO4
        obtain ⟨hv4, hf1, hf2, hf3⟩ := round_groups hv hP hsW hl2 hb2 hO2' hg4 hO4 hat
        have hc4 := hv4.cell
        have hz4 := hv4.frozen
        refine hK _ _ ?_
        clear hK K
        refine wpAny_ready (rs := [7]) (by kernel_rfl) (by simp) ?_
        refine AllReady.cons rfl (fun K hK => ?_) AllReady.nil
        go_simp
        refine hK _ _ ?_
        clear hK K
        refine wpAny_done (by kernel_rfl) ?_ _
        exact ⟨hf3, hf2, by rw [HEQ.out]; exact hf1, hB.trans hf2⟩
  case done =>
    rintro D ys W hD hys ⟨⟨b, c, gs, hv, hP⟩, hB⟩ hK
    rw [hys] at hv hP
    have hc := hv.cell
    gi_wp2_with fail
    refine ⟨by simp, .inl ⟨_, _, rfl, run_takeDeferred hK, ?_⟩⟩
    exact ⟨_, results_tmp2 rfl _ _ _, b, c, gs, by simp, (hW0.trans hB).trans (belowK_b (w := w) (Nat.le_refl _) W D _ _ (by omega) hK rfl rfl), hP.keptRow (grownBy_putObj' W D _) (fun r e => by cases e; exact ⟨_, hK, rfl⟩)⟩
  case stop =>
    rintro D c pre W _ _ h _
    exact h.elim
set_option maxRecDepth 100000 in
set_option maxHeartbeats 1000000 in
theorem implGroupsOf_any (a : Option Addr) (n cap : Nat) (rs : List RowV) (w : World) (hm : n ≤ 1048576) (hnc : n ≤ cap) (hok : ∀ r ∈ rs, r.Ok) (hR : Rd w w.heap.size 3 a n (flat rs)) :
    Calls Try.prog 15 #[.slice a n cap] w fun e w' => ∃ b c gs, e = .returned (.tuple #[.slice b (groupsOfS rs).length c, .bool (groupsOfB rs)]) ∧ Below w.heap.size w w' ∧ GOwn w' w.heap.size b (groupsOfS rs).length c gs (groupsOfS rs) := by
  unfold groupsOfS groupsOfB
  cases hs : sortedOk rs
  · rw [if_neg (by decide)]
    have C0 := implSortedOk_any a n cap rs w hm hok hR
    rw [hs] at C0
    clear hs
    go_enter Try.func15, Try.ntmps15
    go_wp2_with fail
    refine C0.mono ?_
    rintro e w1 ⟨rfl, hb⟩
    go_wp2_with fail
    go_ret2
    exact ⟨none, 0, [], rfl, hb, GOwn.nilG _ _⟩
  · rw [if_pos rfl]
    exact implGroupsOf_yes a n cap rs w hm hnc hok hR hs
set_option maxRecDepth 100000 in
set_option maxHeartbeats 1000000 in
theorem specGroupsOf_any (a : Option Addr) (n cap : Nat) (rs : List RowV) (w : World) (hm : n ≤ 1048576) (hok : ∀ r ∈ rs, r.Ok) (hR : Rd w w.heap.size 3 a n (flat rs)) :
    Calls Try.prog 18 #[.slice a n cap] w fun e w' => ∃ b c gs, e = .returned (.tuple #[.slice b (groupsOfS rs).length c, .bool (groupsOfB rs)]) ∧ Below w.heap.size w w' ∧ GOwn w' w.heap.size b (groupsOfS rs).length c gs (groupsOfS rs) := by
  have C0 := specSortedOk_any a n cap rs w hm hok hR
  unfold groupsOfS groupsOfB
  cases hs : sortedOk rs
  · rw [if_neg (by decide)]
    rw [hs] at C0
    clear hs
    go_enter Try.func18, Try.ntmps18
    go_wp2_with fail
    refine C0.mono ?_
    rintro e w1 ⟨rfl, hb⟩
    go_wp2_with fail
    go_ret2
    exact ⟨none, 0, [], rfl, hb, GOwn.nilG _ _⟩
  · rw [if_pos rfl]
    rw [hs] at C0
    clear hs
    have CG := fun w h => l4Groups_any a n cap rs w hm h
    unfold GroupsOut at CG
    generalize groupsR rs = T at *
    go_enter Try.func18, Try.ntmps18
    go_wp2_with fail
    refine C0.mono ?_
    rintro e w1 ⟨rfl, hb⟩
    have C1 := CG w1 ((hR.below hb (Nat.le_refl _)).more hb.size)
    clear C0 CG
    go_wp2_with fail
    refine C1.mono ?_
    rintro e w2 ⟨b, c, gs, rfl, hb2, hG⟩
    have B2 := hb.trans (hb2.mono hb.size)
    have hG2 : GOwn w2 w.heap.size b T.length c gs T := ⟨own_base' hG.outer hb.size, hG.keys, ⟨hG.fam.len, fun i v r h1 h2 => own_base' (hG.fam.own i v r h1 h2) hb.size, hG.fam.sep⟩, hG.out⟩
    go_wp2_with fail
    go_ret2
    exact ⟨b, c, gs, rfl, B2, hG2⟩
end Go.Proofs.Ytjhicjhgpbighaa

namespace Go.Proofs.Ytjhicjhgpbighaa
open Go.RowKit
theorem Rd.grownG {w : World} {s n : Nat} {a : Option Addr} {xs : List Value} (h : Rd w w.heap.size s a n xs) {w' : World} (hb : Below w.heap.size w w') : Rd w' w'.heap.size s a n xs := (h.below hb (Nat.le_refl _)).more hb.size
theorem sizeG_at' {G : List (ByteArray × List RowV)} {i : Nat} {key : ByteArray} {rs : List RowV} (h : G[i]? = some (key, rs)) : rs.length ≤ sizeG G := by
  have := sizeG_at h
  simp only at this
  omega
set_option maxRecDepth 100000 in
set_option maxHeartbeats 1000000 in
theorem sameGroups_same (a b : Option Addr) (n ca cb : Nat) (G : List (ByteArray × List RowV)) (w : World) (hm : n ≤ 1048576) (hr : sizeG G ≤ 1048576) (hA : GRd w w.heap.size a n G) (hB : GRd w w.heap.size b n G) :
    Calls Try.prog 19 #[.slice a n ca, .slice b n cb] w fun e w' => e = .returned (.bool true) ∧ Below w.heap.size w w' := by
  have hl := Lib.hid hA.1
  go_enter Try.func19, Try.ntmps19
  go_wp2
  go_loopw [5] (fun i wr => ∃ k : Nat, k ≤ n ∧ i = .int .i64 k ∧ Below w.heap.size w wr) (fun i _ => n - (intOf i).toNat)
  case atStart => exact ⟨0, Nat.zero_le _, rfl, Below.refl _ _⟩
  case round =>
    obtain ⟨k, hk, rfl, hb⟩ := hrel
    by_cases hlt : k < n
    · obtain ⟨⟨key, xs⟩, hx⟩ : ∃ x, G[k]? = some x := ⟨_, List.getElem?_eq_getElem (by rw [hl.out]; exact hlt)⟩
      obtain ⟨b1, a1, c1, rfl, hB1, c0, c1c, R1⟩ := ((hA.below hb (Nat.le_refl _)).more hb.size).2 k key xs hx
      obtain ⟨b2, a2, c2, rfl, hB2, d0, d1, R2⟩ := ((hB.below hb (Nat.le_refl _)).more hb.size).2 k key xs hx
      have hz := sizeG_at' hx
      have g0 := fun d os => cell_regrown c0 d os
      have g1 := fun d os => cell_regrown c1c d os
      have f0 := fun d os => cell_regrown d0 d os
      have f1 := fun d os => cell_regrown d1 d os
      have CR := Lib.hid (fun d os => Calls.regrown_of (w := wr) (d := d) (os := os) (sameRows_same a1 a2 xs.length c1 c2 xs _ (by omega) (R1.grownG (below_regrown wr d os)) (R2.grownG (below_regrown wr d os))))
      clear hx R1 R2 c0 c1c d0 d1
      go_wp2_with fail
      refine wp_region_wq (by kernel_rfl) (by kernel_rfl) ?_
      repeat (refine WQ.step (fun K hK => ?_); go_simp; first | (refine hK _ ?_; clear hK K) | (apply Exists.intro; refine ⟨fun _ => ?_, hK _ ?_⟩; (first | with_reducible exact CR.out _ _); clear hK K))
      refine WQ.nil ?_
      intro _ hw'
      obtain ⟨⟨dq, osq⟩, hw''⟩ := hw'
      subst hw''
      have hb2 := hb.trans ((below_regrown wr dq osq).mono hb.size)
      generalize Go.Sort.grow (redrawn wr dq) osq = w9 at *
      clear g0 g1 f0 f1 CR hb
      go_wp2_with fail
      go_roundw
      case rel => exact ⟨k + 1, by omega, by go_num, hb2⟩
      case measure => simp [intOf]; omega
    · go_wp2_with fail
      go_ret
      exact ⟨rfl, hb⟩
end Go.Proofs.Ytjhicjhgpbighaa

namespace Go.Proofs.Ytjhicjhgpbighaa
open Go.RowKit

/-- A slice of bytes that can be read below block B. -/
def IsBy (w : World) (B : Nat) (a : Option Addr) (n : Nat) : Prop := ∃ xs : List Value, Rd w B 1 a n xs ∧ ∀ v ∈ xs, ∃ x : Nat, x < 256 ∧ v = .int .u8 x
theorem IsBy.keep {w w' : World} {B n : Nat} {a : Option Addr} (h : IsBy w B a n) (hk : ∀ b o, b < B → w'.cell? ⟨b, o, none⟩ = w.cell? ⟨b, o, none⟩) : IsBy w' B a n := by
  obtain ⟨xs, h1, h2⟩ := h
  exact ⟨xs, h1.keep hk, h2⟩
theorem IsBy.at_ {w : World} {B n p : Nat} {a : Option Addr} (h : IsBy w B a n) (hp : p < n) : ∃ b off x, a = some ⟨b, off, none⟩ ∧ b < B ∧ x < 256 ∧ w.cell? ⟨b, off + p, none⟩ = some (.int .u8 (x : Nat)) := by
  obtain ⟨xs, h1, h2⟩ := h
  obtain ⟨b, off, e, hb, hc⟩ := h1.2 (by omega)
  have hl := h1.1
  have hv : xs[p]? = some (xs[p]'(by omega)) := List.getElem?_eq_getElem _
  obtain ⟨x, hx, ev⟩ := h2 _ (List.mem_of_getElem? hv)
  rw [ev] at hv
  exact ⟨b, off, x, e, hb, hx, hc p _ hv⟩
/-- A reader in block g, of a code of n bytes that lies below it. -/
def Rdr (w : World) (g n : Nat) : Prop := n ≤ 1048576 ∧ ∃ (a : Option Addr) (c p : Nat), IsBy w g a n ∧ p ≤ n ∧ w.ownsRow g 97 2 (.slice (some ⟨g, 0, none⟩) 1 1) 1 [.slice a n c, .int .i64 p]
theorem Rdr.lt {w : World} {g n : Nat} (h : Rdr w g n) : g < w.heap.size := by
  obtain ⟨_, _, _, _, _, _, h⟩ := h
  exact (own_ge h g rfl).2
theorem Rdr.below {w w' : World} {g n : Nat} (h : Rdr w g n) (hb : Below w.heap.size w w') : Rdr w' g n := by
  have hl := h.lt
  obtain ⟨h1, a, c, p, h2, h3, h4⟩ := h
  exact ⟨h1, a, c, p, h2.keep (fun b o hb' => hb.cell (p := ⟨b, o, none⟩) (show b < w.heap.size by omega)), h3, own_below h4 hb⟩
/-- The reader has gone on; nothing else has changed. -/
def Drew (w w' : World) (g n : Nat) : Prop := Rdr w' g n ∧ w.grownBy w' (some g)
theorem Drew.refl {w : World} {g n : Nat} (h : Rdr w g n) : Drew w w g n := ⟨h, World.grownBy.refl _ _⟩
theorem Drew.trans {a b c : World} {g n : Nat} (h : Drew a b g n) (k : Drew b c g n) : Drew a c g n := ⟨k.1, gb_trans h.2 k.2⟩
theorem Drew.and {a b c : World} {g n : Nat} (h : Drew a b g n) (k : Below b.heap.size b c) : Drew a c g n := ⟨h.1.below k, gb_trans h.2 (gb_of_below k _)⟩
theorem Drew.alloc {a b : World} {g n : Nat} (h : Drew a b g n) (o : Obj) : Drew a (b.alloc o) g n := h.and (bl1 b o)
/-- What was owned elsewhere is as it was. -/
theorem Drew.own {w w' : World} {g n base e s k : Nat} {v : Value} {xs : List Value} (h : Drew w w' g n) (hO : w.ownsRow base e s v k xs) (hb : g < base) : w'.ownsRow base e s v k xs :=
  hO.kept h.2 (by
    cases hv : v.ownBlock with
    | none => exact .inl rfl
    | some q => exact .inr (fun he => by injection he with he; have := (own_ge hO q hv).1; omega))
theorem Drew.rdr {w w' : World} {g n : Nat} (h : Drew w w' g n) : Rdr w' g n := h.1
theorem Drew.size {w w' : World} {g n : Nat} (h : Drew w w' g n) : w.heap.size ≤ w'.heap.size := h.2.size
/-- What is written into a block that is newer than the first world. -/
theorem Drew.grown {w w' w2 : World} {g n : Nat} {row : Option Nat} (h : Drew w w' g n) (hg0 : g < w.heap.size) (hg : w'.grownBy w2 row) (hr : ∀ q, row = some q → w.heap.size ≤ q) : Drew w w2 g n := by
  have hlt := h.1.lt
  refine ⟨?_, ⟨hg.os.trans h.2.os, hg.tape.trans h.2.tape, hg.output.trans h.2.output, Nat.le_trans h.2.size hg.size, fun k hk hne => (hg.block k (Nat.lt_of_lt_of_le hk h.2.size) (fun e => by have := hr k e.symm; omega)).trans (h.2.block k hk hne)⟩⟩
  obtain ⟨h1, a2, c2, p2, h2, h3, h4⟩ := h.1
  refine ⟨h1, a2, c2, p2, h2.keep (fun b o hb => World.cell?_of_block (a := ⟨b, o, none⟩) (hg.block b (by omega) (fun e => by have := hr b e.symm; omega))), h3, ?_⟩
  exact h4.kept hg (.inr (fun e => by have := hr g e.symm; omega))
theorem Drew.set {w w' : World} {g n b o : Nat} (h : Drew w w' g n) (hg0 : g < w.heap.size) (hb : w.heap.size ≤ b) (v : Value) : Drew w (w'.setCell ⟨b, o, none⟩ v) g n :=
  h.grown hg0 (gb_store (World.grownBy.refl w' (some b)) o v) (fun q e => by injection e with e; omega)
theorem l1Open_any (a : Option Addr) (n c : Nat) (w : World) (hn : n ≤ 1048576) (h : IsBy w w.heap.size a n) :
    Calls Try.prog 40 #[.slice a n c] w fun e w' => e = .returned (.pointer (some ⟨w.heap.size, 0, none⟩)) ∧ Rdr w' w.heap.size n ∧ Below w.heap.size w w' := by
  have hO : (w.alloc (.cells #[.slice a n c, .int .i64 0] 97)).ownsRow w.heap.size 97 2 (.slice (some ⟨w.heap.size, 0, none⟩) 1 1) 1 [.slice a n c, .int .i64 0] := World.ownsRow_lit (base := w.heap.size) (size := 2) w #[.slice a n c, .int .i64 0] 1 (Nat.le_refl _) (by decide) rfl
  have hb := bl1 w (.cells #[.slice a n c, .int .i64 0] 97)
  go_enter Try.func40, Try.ntmps40
  go_wp2_with fail
  go_ret
  exact ⟨rfl, ⟨hn, a, c, 0, h.keep (fun b o hb' => hb.cell (p := ⟨b, o, none⟩) hb'), Nat.zero_le _, hO⟩, hb⟩
set_option maxRecDepth 100000 in
set_option maxHeartbeats 1000000 in
theorem next_any (g n : Nat) (w : World) (h : Rdr w g n) :
    Calls Try.prog 89 #[.pointer (some ⟨g, 0, none⟩)] w fun e w' => ∃ x : Nat, x < 256 ∧ e = .returned (.int .i64 x) ∧ Drew w w' g n := by
  have hD0 := Drew.refl h
  obtain ⟨hn, a, c, p, hI, hp, hO⟩ := h
  have c0 : w.cell? ⟨g, 0, none⟩ = some (.slice a n c) := hO.cellAt 0 (by omega)
  have c1 : w.cell? ⟨g, 1, none⟩ = some (.int .i64 p) := hO.cellAt 1 (by omega)
  by_cases hlt : p < n
  · have hgeq : decide (n ≤ p) = false := by simp; omega
    go_enter Try.func89, Try.ntmps89
    go_wp2_with fail
    go_quiet (fail)
    have hb1 := below_drewN (Below.refl w.heap.size w) nq
    have hO1 := own_below hO hb1
    have hI1 := hI.keep (w' := w.drewN nq) (fun b o hb => hb1.cell (p := ⟨b, o, none⟩) (show b < w.heap.size by have := (own_ge hO g rfl).2; omega))
    have hD1 := hD0.and hb1
    generalize w.drewN nq = w1 at *
    clear hO hI c0 c1 hb1 hD0
    obtain ⟨b, off, x, rfl, hb, hx, d0⟩ := hI1.at_ hlt
    have c1 : w1.cell? ⟨g, 1, none⟩ = some (.int .i64 p) := hO1.cellAt 1 (by omega)
    have f1 := hO1.frozenAt 1
    have hO2 := (hO1.stored 1 (.int .i64 ((p : Int) + 1))).1
    have hg2 := gb_store (World.grownBy.refl w1 (some g)) 1 (.int .i64 ((p : Int) + 1))
    have hne : b ≠ g := by omega
    have hgs := (own_ge hO1 g rfl).2
    have e0 : (w1.setCell ⟨g, 1, none⟩ (.int .i64 ((p : Int) + 1))).cell? ⟨g, 0, none⟩ = some (.slice (some ⟨b, off, none⟩) n c) := hO2.cellAt 0 (by omega)
    have e1 : (w1.setCell ⟨g, 1, none⟩ (.int .i64 ((p : Int) + 1))).cell? ⟨g, 1, none⟩ = some (.int .i64 ((p : Int) + 1)) := hO2.cellAt 1 (by omega)
    have e2 : (w1.setCell ⟨g, 1, none⟩ (.int .i64 ((p : Int) + 1))).cell? ⟨b, off + p, none⟩ = some (.int .u8 (x : Nat)) := (World.cell?_of_block (a := ⟨b, off + p, none⟩) (hg2.block b (by omega) (by simpa using hne))).trans d0
    have hI2 : IsBy (w1.setCell ⟨g, 1, none⟩ (.int .i64 ((p : Int) + 1))) g (some ⟨b, off, none⟩) n := hI1.keep (fun b' o hb' => World.cell?_of_block (a := ⟨b', o, none⟩) (hg2.block b' (by omega) (by simp; omega)))
    have hD : Drew w (w1.setCell ⟨g, 1, none⟩ (.int .i64 ((p : Int) + 1))) g n := hD1.trans ⟨⟨hn, _, c, p + 1, hI2, hlt, hO2⟩, hg2⟩
    have HD := Lib.hid hD
    clear hO1 hO2 hI1 hI2 hg2 hD hD1
    go_wp2_with fail
    generalize hw2 : w1.setCell ⟨g, 1, none⟩ (.int .i64 ((p : Int) + 1)) = w2 at *
    clear hw2
    go_quiet (fail)
    have hD2 := HD.out.and (below_drewN (Below.refl w2.heap.size w2) nq)
    generalize w2.drewN nq = w3 at *
    go_wp2_with fail
    go_ret
    exact ⟨x, hx, rfl, hD2⟩
  · have hgeq : decide (n ≤ p) = true := by simp; omega
    go_enter Try.func89, Try.ntmps89
    go_wp2_with fail
    go_quiet (fail)
    have hD1 := hD0.and (below_drewN (Below.refl w.heap.size w) nq)
    generalize w.drewN nq = w1 at *
    go_wp2_with fail
    go_ret
    exact ⟨0, by omega, rfl, hD1⟩
theorem below_any (g n k : Nat) (w : World) (h : Rdr w g n) (hk1 : 2 ≤ k) (hk : k ≤ 256) :
    Calls Try.prog 72 #[.pointer (some ⟨g, 0, none⟩), .int .i64 k] w fun e w' => ∃ x : Nat, x < k ∧ e = .returned (.int .i64 x) ∧ Drew w w' g n := by
  go_enter Try.func72, Try.ntmps72
  go_wp2_with fail
  refine (next_any g n _ h).mono ?_
  rintro e w1 ⟨x, hx, rfl, hD⟩
  have hm : x % k < k := Nat.mod_lt _ (by omega)
  go_wp2_with fail
  go_ret
  exact ⟨x % k, hm, by simp, hD⟩
/-- The same at a number that is written out. -/
theorem below_lit (g n k : Nat) (K : Int) (w : World) (h : Rdr w g n) (hK : (k : Int) = K) (hk1 : 2 ≤ k) (hk : k ≤ 256) :
    Calls Try.prog 72 #[.pointer (some ⟨g, 0, none⟩), .int .i64 K] w fun e w' => ∃ x : Nat, x < k ∧ e = .returned (.int .i64 x) ∧ Drew w w' g n := by
  subst hK; exact below_any g n k w h hk1 hk
theorem once_lit (g n k : Nat) (K : Int) (w : World) (h : Rdr w g n) (hK : (k : Int) = K) (hk1 : 2 ≤ k) (hk : k ≤ 256) :
    Calls Try.prog 74 #[.pointer (some ⟨g, 0, none⟩), .int .i64 K] w fun e w' => ∃ b : Bool, e = .returned (.bool b) ∧ Drew w w' g n := by
  subst hK
  go_enter Try.func74, Try.ntmps74
  go_wp2_with fail
  refine (below_any g n k _ h hk1 hk).mono ?_
  rintro e w1 ⟨x, hx, rfl, hD⟩
  go_wp2_with fail
  go_ret
  exact ⟨_, rfl, hD⟩
end Go.Proofs.Ytjhicjhgpbighaa

namespace Go.Proofs.Ytjhicjhgpbighaa
open Go.RowKit

/-- Bytes as cells. -/
def byC (l : List UInt8) : List Value := l.map fun c => Value.int .u8 c.toNat
theorem infoByte : (Try.prog.info? 5).map (fun i => (i.zero, i.size, i.bytes)) = some (some (.int .u8 0), 1, 1) := by kernel_rfl
theorem byte_cell {x : Nat} (h : x < 256) : Value.int .u8 (x : Int) = .int .u8 ((UInt8.ofNat x).toNat : Int) := by
  rw [UInt8.toNat_ofNat', Nat.mod_eq_of_lt h]
theorem run_convert_bytes_empty (w : World) (a : Option Addr) (c : Nat) : (convert 22 9 (.slice a 0 c)).run Try.prog w = .ok (.string ⟨[].toArray⟩) w := by
  cases a with
  | none =>
    have := run_convert_bytes_string (P := Try.prog) w 22 9 5 none 0 c Try.underlying22 Try.underlying5 Try.underlying9
    rw [this]; rfl
  | some x => exact run_convert_bytes_back (P := Try.prog) w 22 9 5 x c [] Try.underlying22 Try.underlying5 Try.underlying9 (fun j hj => by simp at hj)
/-- One of the cells of a block that holds a literal. -/
theorem lit_pick {w : World} {base e g n q : Nat} {xs : List Value} {P : Value → Prop} (h : w.ownsRow base e 1 (.slice (some ⟨g, 0, none⟩) n n) n xs) (hq : q < n) (hP : ∀ v ∈ xs, P v) : ∃ v, w.cell? ⟨g, q, none⟩ = some v ∧ P v := by
  have hl := h.1
  have hv : xs[q]? = some (xs[q]'(by omega)) := List.getElem?_eq_getElem _
  exact ⟨_, (h.cellAt q (by omega)).trans hv, hP _ (List.mem_of_getElem? hv)⟩
set_option maxRecDepth 100000 in
set_option maxHeartbeats 2000000 in
theorem bytes_lit (g n m : Nat) (K : Int) (w : World) (h : Rdr w g n) (hK : (m : Int) = K) (hm1 : 1 ≤ m) (hm : m ≤ 100) :
    Calls Try.prog 91 #[.pointer (some ⟨g, 0, none⟩), .int .i64 K] w fun e w' => ∃ s : ByteArray, s.size ≤ m ∧ e = .returned (.string s) ∧ Drew w w' g n := by
  subst hK
  obtain ⟨i0, hi, hz0, hz1, hz2⟩ := info_parts infoByte
  have hO0 : (w.alloc (.cells #[] 5)).ownsRow w.heap.size 5 1 (.slice (some ⟨w.heap.size, 0, none⟩) 0 0) 0 (byC []) := World.ownsRow_lit (base := w.heap.size) (size := 1) w #[] 0 (Nat.le_refl _) (Nat.zero_le _) rfl
  have hD0 := (Drew.refl h).alloc (.cells #[] 5)
  have hg0 := h.lt
  go_enter Try.func91, Try.ntmps91
  go_wp2_with fail
  refine (below_lit g n (m + 1) _ _ hD0.rdr (by omega) (by omega) (by omega)).mono ?_
  rintro e w1 ⟨t, ht, rfl, hD1⟩
  have hO1 := hD1.own hO0 hg0
  have hD := hD0.trans hD1
  clear hO0 hD0 hD1
  go_wp2_with fail
  go_loopw [5, 6] (fun v i wr => ∃ (l : List UInt8) (a : Option Addr) (cc q : Nat), l.length + q ≤ m ∧ i = .int .i64 q ∧ v = .slice a l.length cc ∧ wr.ownsRow w.heap.size 5 1 (.slice a l.length cc) l.length (byC l) ∧ Drew w wr g n) (fun _ i _ => (intOf i).toNat)
  case atStart => exact ⟨[], _, 0, t, by simp; omega, rfl, rfl, hO1, hD⟩
  case round =>
    obtain ⟨l, a, cc, q, hl, rfl, rfl, hO, hDr⟩ := hrel
    clear hO1 hD
    by_cases hpos : 0 < q
    · go_wp2_with fail
      refine (below_lit g n 256 _ _ hDr.rdr (by omega) (by omega) (by omega)).mono ?_
      rintro e w2 ⟨x, hx, rfl, hD2⟩
      have hO2 := hD2.own hO hg0
      have hDa := hDr.trans hD2
      clear hO hDr hD2
      have hX : (w2.alloc (.cells #[.int .u8 0, .int .u8 1, .int .u8 97, .int .u8 98, .int .u8 255, .int .u8 (x : Int)] 5)).ownsRow w2.heap.size 5 1 (.slice (some ⟨w2.heap.size, 0, none⟩) 6 6) 6 [.int .u8 0, .int .u8 1, .int .u8 97, .int .u8 98, .int .u8 255, .int .u8 (x : Int)] := World.ownsRow_lit (base := w2.heap.size) (size := 1) w2 #[.int .u8 0, .int .u8 1, .int .u8 97, .int .u8 98, .int .u8 255, .int .u8 (x : Int)] 6 (Nat.le_refl _) (by decide) rfl
      have hDb := hDa.alloc (.cells #[.int .u8 0, .int .u8 1, .int .u8 97, .int .u8 98, .int .u8 255, .int .u8 (x : Int)] 5)
      have hOb := own_below hO2 (bl1 w2 (.cells #[.int .u8 0, .int .u8 1, .int .u8 97, .int .u8 98, .int .u8 255, .int .u8 (x : Int)] 5))
      have hs2 : w.heap.size ≤ w2.heap.size := hDa.size
      go_wp2_with fail
      refine (below_lit g n 6 _ _ hDb.rdr (by omega) (by omega) (by omega)).mono ?_
      rintro e w3 ⟨y, hy, rfl, hD3⟩
      have hX3 := hD3.own hX (by omega)
      have hO3 := hD3.own hOb hg0
      have hDc := hDb.trans hD3
      have hs3 : w.heap.size ≤ w3.heap.size := hDc.size
      obtain ⟨u, d0, z, hz, rfl⟩ := lit_pick (P := fun v => ∃ z : Nat, z < 256 ∧ v = .int .u8 (z : Int)) hX3 hy (by
        intro v hv
        simp only [List.mem_cons, List.not_mem_nil, or_false] at hv
        rcases hv with rfl | rfl | rfl | rfl | rfl | rfl
        · exact ⟨0, by omega, rfl⟩
        · exact ⟨1, by omega, rfl⟩
        · exact ⟨97, by omega, rfl⟩
        · exact ⟨98, by omega, rfl⟩
        · exact ⟨255, by omega, rfl⟩
        · exact ⟨x, hx, rfl⟩)
      clear hX hX3 hDb hOb hO2 hDa hD3
      have hDd := hDc.alloc (.cells #[.int .u8 (z : Int)] 5)
      go_wp2_with (at_builtin; refine wpList_append_own _ rfl _ _ 22 rfl w.heap.size 5 i0 (.int .u8 0) 1 1 Try.underlying22 hi hz0 hz1 hz2 rfl (by decide) _ _ _ rfl (hO3.alloc _) ⟨w3.heap.size, 0, none⟩ 1 1 [.int .u8 (z : Int)] rfl rfl ?c1 ?c2 ?c3 ?c4 ?c5 ?_)
      case c1 =>
        intro j u hj
        match j, hj with
        | 0, hj => simp at hj; subst hj; simp [Addr.add, go_sem]
      case c2 =>
        intro u hu
        simp at hu
        subst hu; rfl
      case c3 => unfold maxLen; omega
      case c4 => omega
      case c5 => simp; omega
      intro v' w4 hO4 hg4 _
      obtain ⟨a', cap', rfl⟩ := own_slice' hO4
      have hO5 : w4.ownsRow w.heap.size 5 1 (.slice a' (l ++ [UInt8.ofNat z]).length cap') (l ++ [UInt8.ofNat z]).length (byC (l ++ [UInt8.ofNat z])) := by
        rw [byte_cell hz] at hO4
        simpa [byC] using hO4
      have hD5 : Drew w w4 g n := hDd.grown hg0 hg4 (fun q e => (own_ge hO3 q e).1)
      have hll : (l ++ [UInt8.ofNat z]).length + (q - 1) ≤ m := by simp; omega
      have he : l.length + 1 = (l ++ [UInt8.ofNat z]).length := by simp
      have He := Lib.hid he
      clear hO4 hg4 hDd hDc hO3 d0 he
      rw [He.out]
      generalize l ++ [UInt8.ofNat z] = l2 at *
      go_wp2_with fail
      go_roundw
      case rel => exact ⟨l2, a', cap', q - 1, hll, by go_num, rfl, hO5, hD5⟩
      case measure => simp [intOf]; omega
    · have hcv : (convert 22 9 (.slice a l.length cc)).run Try.prog wr = .ok (.string ⟨l.toArray⟩) wr := by
        cases l with
        | nil =>
          exact run_convert_bytes_empty wr a cc
        | cons x l =>
          obtain ⟨b, rfl, _, _⟩ := own_form hO (by simp)
          exact run_convert_bytes_back (P := Try.prog) wr 22 9 5 ⟨b, 0, none⟩ cc (x :: l) Try.underlying22 Try.underlying5 Try.underlying9 (fun j hj => by
            rw [addr_add3, Nat.zero_add, hO.cellAt j (by simpa using hj)]
            rw [byC, List.getElem?_map, List.getElem?_eq_getElem hj]; rfl)
      have hsz : (⟨l.toArray⟩ : ByteArray).size ≤ m := by simp [ByteArray.size]; omega
      generalize (⟨l.toArray⟩ : ByteArray) = s at *
      have hq0 : decide (0 < q) = false := by simp; omega
      clear hO
      go_wp2_with fail
      go_ret
      exact ⟨s, hsz, rfl, hDr⟩
set_option maxRecDepth 100000 in
set_option maxHeartbeats 2000000 in
theorem key_any (g n : Nat) (w : World) (h : Rdr w g n) :
    Calls Try.prog 90 #[.pointer (some ⟨g, 0, none⟩)] w fun e w' => ∃ s : ByteArray, s.size ≤ 5 ∧ e = .returned (.string s) ∧ Drew w w' g n := by
  have hg0 := h.lt
  go_enter Try.func90, Try.ntmps90
  go_wp2_with fail
  refine (once_lit g n 12 _ _ h (by omega) (by omega) (by omega)).mono ?_
  rintro e w1 ⟨b, rfl, hD1⟩
  cases b
  · have hX : (w1.alloc (.cells #[.string ⟨#[]⟩, .string ⟨#[97]⟩, .string ⟨#[98]⟩, .string ⟨#[97, 98]⟩, .string ⟨#[99]⟩, .string ⟨#[107, 101, 121]⟩] 9)).ownsRow w1.heap.size 9 1 (.slice (some ⟨w1.heap.size, 0, none⟩) 6 6) 6 [.string ⟨#[]⟩, .string ⟨#[97]⟩, .string ⟨#[98]⟩, .string ⟨#[97, 98]⟩, .string ⟨#[99]⟩, .string ⟨#[107, 101, 121]⟩] := World.ownsRow_lit (base := w1.heap.size) (size := 1) w1 #[.string ⟨#[]⟩, .string ⟨#[97]⟩, .string ⟨#[98]⟩, .string ⟨#[97, 98]⟩, .string ⟨#[99]⟩, .string ⟨#[107, 101, 121]⟩] 6 (Nat.le_refl _) (by decide) rfl
    have hD2 := hD1.alloc (.cells #[.string ⟨#[]⟩, .string ⟨#[97]⟩, .string ⟨#[98]⟩, .string ⟨#[97, 98]⟩, .string ⟨#[99]⟩, .string ⟨#[107, 101, 121]⟩] 9)
    have hs1 := hD1.size
    go_wp2_with fail
    refine (below_lit g n 6 _ _ hD2.rdr (by omega) (by omega) (by omega)).mono ?_
    rintro e w3 ⟨y, hy, rfl, hD3⟩
    have hX3 := hD3.own hX (by omega)
    have hDc := hD2.trans hD3
    obtain ⟨u, d0, s, hs, rfl⟩ := lit_pick (P := fun v => ∃ s : ByteArray, s.size ≤ 5 ∧ v = .string s) hX3 hy (by
      intro v hv
      simp only [List.mem_cons, List.not_mem_nil, or_false] at hv
      rcases hv with rfl | rfl | rfl | rfl | rfl | rfl
      all_goals exact ⟨_, by decide, rfl⟩)
    clear hX hX3 hD2 hD3
    go_wp2_with fail
    go_ret
    exact ⟨s, hs, rfl, hDc⟩
  · go_wp2_with fail
    refine (bytes_lit g n 5 _ _ hD1.rdr (by omega) (by omega) (by omega)).mono ?_
    rintro e w2 ⟨s, hs, rfl, hD2⟩
    have hD := hD1.trans hD2
    go_wp2_with fail
    go_ret
    exact ⟨s, hs, rfl, hD⟩
end Go.Proofs.Ytjhicjhgpbighaa

namespace Go.Proofs.Ytjhicjhgpbighaa
open Go.RowKit

theorem or_u64_bd (a : Int) (x : Nat) (hx : x < 256) : 0 ≤ bits .or .u64 (IntKind.u64.wrap a) (x : Int) ∧ bits .or .u64 (IntKind.u64.wrap a) (x : Int) < 18446744073709551616 := by
  have hw : IntKind.u64.wrap a = a % 18446744073709551616 := rfl
  have h1 : 0 ≤ IntKind.u64.wrap a ∧ IntKind.u64.wrap a < 18446744073709551616 := by rw [hw]; omega
  rw [u64_or _ _ h1.1 h1.2 (by omega) (by omega)]
  have h2 : (IntKind.u64.wrap a).toNat ||| ((x : Int)).toNat < 2 ^ 64 := Nat.or_lt_two_pow (by omega) (by omega)
  omega
set_option maxRecDepth 100000 in
set_option maxHeartbeats 2000000 in
theorem word_any (g n : Nat) (w : World) (h : Rdr w g n) :
    Calls Try.prog 92 #[.pointer (some ⟨g, 0, none⟩)] w fun e w' => ∃ z : Int, 0 ≤ z ∧ z < 18446744073709551616 ∧ e = .returned (.int .u64 z) ∧ Drew w w' g n := by
  go_enter Try.func92, Try.ntmps92
  go_wp2
  go_loopw [3, 4] (fun x i wr => ∃ (z : Int) (k : Nat), 0 ≤ z ∧ z < 18446744073709551616 ∧ x = .int .u64 z ∧ k ≤ 8 ∧ i = .int .i64 k ∧ Drew w wr g n) (fun _ i _ => 8 - (intOf i).toNat)
  case atStart => exact ⟨0, 0, by omega, by omega, rfl, by omega, rfl, Drew.refl h⟩
  case round =>
    obtain ⟨z, k, hz0, hz1, rfl, hk, rfl, hD⟩ := hrel
    by_cases hlt : k < 8
    · go_wp2_with fail
      refine (next_any g n _ hD.rdr).mono ?_
      rintro e w1 ⟨x, hx, rfl, hD1⟩
      have hD2 := hD.trans hD1
      clear hD hD1
      go_wp2_with fail
      go_roundw
      case rel => exact ⟨_, k + 1, (or_u64_bd (z * 256) x hx).1, (or_u64_bd (z * 256) x hx).2, rfl, by omega, by go_num, hD2⟩
      case measure => simp [intOf]; omega
    · go_wp2_with fail
      go_ret
      exact ⟨z, hz0, hz1, rfl, hD⟩
theorem int_wf {z : Int} (h0 : -9223372036854775808 ≤ z) (h1 : z ≤ 9223372036854775807) : (Lit.int .i64 z).wf = true := by
  have := wrap64_wf z
  rwa [IntWalk.wrap64_in z ⟨h0, h1⟩] at this
theorem wrap64_bd (n : Int) : -9223372036854775808 ≤ wrap64 n ∧ wrap64 n ≤ 9223372036854775807 := by unfold wrap64; omega
set_option maxRecDepth 100000 in
set_option maxHeartbeats 2000000 in
theorem near_any (g n : Nat) (lo hi : Int) (w : World) (h : Rdr w g n) (h1 : -1000 ≤ lo) (h2 : lo ≤ hi) (h3 : hi ≤ 1000) :
    Calls Try.prog 75 #[.pointer (some ⟨g, 0, none⟩), .int .i64 lo, .int .i64 hi] w fun e w' => ∃ z : Int, -9223372036854775808 ≤ z ∧ z ≤ 9223372036854775807 ∧ e = .returned (.int .i64 z) ∧ Drew w w' g n := by
  go_enter Try.func75, Try.ntmps75
  go_wp2_with fail
  refine (below_lit g n 8 _ _ h (by omega) (by omega) (by omega)).mono ?_
  rintro e w1 ⟨x, hx, rfl, hD1⟩
  by_cases h0 : x = 0
  · subst h0
    go_wp2_with fail
    go_ret
    exact ⟨lo, by omega, by omega, rfl, hD1⟩
  by_cases h0' : x = 1
  · subst h0'
    go_wp2_with fail
    go_ret
    exact ⟨hi, by omega, by omega, rfl, hD1⟩
  have b0 : ((x : Int) == 0) = false := by rw [beq_eq_false_iff_ne]; omega
  have b1 : ((x : Int) == 1) = false := by rw [beq_eq_false_iff_ne]; omega
  go_wp2_with fail
  refine (word_any g n _ hD1.rdr).mono ?_
  rintro e w2 ⟨z, hz0, hz1, rfl, hD2⟩
  have hD := hD1.trans hD2
  go_wp2_with fail
  go_ret
  exact ⟨_, (wrap64_bd _).1, (wrap64_bd _).2, rfl, hD⟩
set_option maxRecDepth 100000 in
set_option maxHeartbeats 2000000 in
theorem off_any (g n : Nat) (lo hi : Int) (w : World) (h : Rdr w g n) (h1 : -1000 ≤ lo) (h2 : lo ≤ hi) (h3 : hi ≤ 1000) :
    Calls Try.prog 43 #[.pointer (some ⟨g, 0, none⟩), .int .i64 lo, .int .i64 hi] w fun e w' => ∃ z : Int, -9223372036854775808 ≤ z ∧ z ≤ 9223372036854775807 ∧ e = .returned (.int .i64 z) ∧ Drew w w' g n := by
  have hg0 := h.lt
  go_enter Try.func43, Try.ntmps43
  go_wp2_with fail
  refine (once_lit g n 24 _ _ h (by omega) (by omega) (by omega)).mono ?_
  rintro e w1 ⟨b, rfl, hD1⟩
  cases b
  · go_wp2_with fail
    refine (near_any g n lo hi _ hD1.rdr h1 h2 h3).mono ?_
    rintro e w2 ⟨z, hz0, hz1, rfl, hD2⟩
    have hD := hD1.trans hD2
    go_wp2_with fail
    go_ret
    exact ⟨z, hz0, hz1, rfl, hD⟩
  · have hX : (w1.alloc (.cells #[.int .i64 (lo - 1), .int .i64 (hi + 1), .int .i64 (-9223372036854775808), .int .i64 9223372036854775807] 2)).ownsRow w1.heap.size 2 1 (.slice (some ⟨w1.heap.size, 0, none⟩) 4 4) 4 [.int .i64 (lo - 1), .int .i64 (hi + 1), .int .i64 (-9223372036854775808), .int .i64 9223372036854775807] := World.ownsRow_lit (base := w1.heap.size) (size := 1) w1 #[.int .i64 (lo - 1), .int .i64 (hi + 1), .int .i64 (-9223372036854775808), .int .i64 9223372036854775807] 4 (Nat.le_refl _) (by decide) rfl
    have hD2 := hD1.alloc (.cells #[.int .i64 (lo - 1), .int .i64 (hi + 1), .int .i64 (-9223372036854775808), .int .i64 9223372036854775807] 2)
    have hs1 := hD1.size
    go_wp2_with fail
    refine (below_lit g n 4 _ _ hD2.rdr (by omega) (by omega) (by omega)).mono ?_
    rintro e w3 ⟨y, hy, rfl, hD3⟩
    have hX3 := hD3.own hX (by omega)
    have hDc := hD2.trans hD3
    obtain ⟨u, d0, z, hz0, hz1, rfl⟩ := lit_pick (P := fun v => ∃ z : Int, -9223372036854775808 ≤ z ∧ z ≤ 9223372036854775807 ∧ v = .int .i64 z) hX3 hy (by
      intro v hv
      simp only [List.mem_cons, List.not_mem_nil, or_false] at hv
      rcases hv with rfl | rfl | rfl | rfl
      all_goals exact ⟨_, by omega, by omega, rfl⟩)
    clear hX hX3 hD2 hD3
    go_wp2_with fail
    go_ret
    exact ⟨z, hz0, hz1, rfl, hDc⟩
set_option maxRecDepth 100000 in
set_option maxHeartbeats 4000000 in
theorem row_small (g n : Nat) (w : World) (h : Rdr w g n) :
    Calls Try.prog 73 #[.pointer (some ⟨g, 0, none⟩)] w fun e w' => ∃ r : RowV, (r.Ok ∧ r.key.size ≤ 5 ∧ r.val.size ≤ 14) ∧ e = .returned (.agg #[.string r.key, .int .i64 r.tag, .string r.val]) ∧ Drew w w' g n := by
  have hg0 := h.lt
  have hY0 : (w.alloc (.cells #[.string ⟨#[]⟩, .int .i64 0, .string ⟨#[]⟩] 39)).ownsRow w.heap.size 39 3 (.slice (some ⟨w.heap.size, 0, none⟩) 1 1) 1 [.string ⟨#[]⟩, .int .i64 0, .string ⟨#[]⟩] := World.ownsRow_lit (base := w.heap.size) (size := 3) w #[.string ⟨#[]⟩, .int .i64 0, .string ⟨#[]⟩] 1 (Nat.le_refl _) (by decide) rfl
  have hD0 := (Drew.refl h).alloc (.cells #[.string ⟨#[]⟩, .int .i64 0, .string ⟨#[]⟩] 39)
  have hs0 : w.heap.size < (w.alloc (.cells #[.string ⟨#[]⟩, .int .i64 0, .string ⟨#[]⟩] 39)).heap.size := by simp
  go_enter Try.func73, Try.ntmps73
  go_wp2_with fail
  refine (key_any g n _ hD0.rdr).mono ?_
  rintro e w1 ⟨k, hk, rfl, hD1⟩
  have hY1 := hD1.own hY0 hg0
  have hDa := hD0.trans hD1
  have hs1 := Nat.lt_of_lt_of_le hs0 hD1.size
  clear hY0 hD0 hD1 hs0
  go_wp2_with fail
  refine (below_lit g n 3 _ _ hDa.rdr (by omega) (by omega) (by omega)).mono ?_
  rintro e w2 ⟨t, ht, rfl, hD2⟩
  have hY2 := hD2.own hY1 hg0
  have hDb := hDa.trans hD2
  have hs2 := Nat.lt_of_lt_of_le hs1 hD2.size
  clear hY1 hDa hD2 hs1
  have hX : (w2.alloc (.cells #[.string ⟨#[]⟩, .string ⟨#[49]⟩, .string ⟨#[50]⟩, .string ⟨#[49, 48]⟩, .string ⟨#[55]⟩, .string ⟨#[120]⟩] 9)).ownsRow w2.heap.size 9 1 (.slice (some ⟨w2.heap.size, 0, none⟩) 6 6) 6 [.string ⟨#[]⟩, .string ⟨#[49]⟩, .string ⟨#[50]⟩, .string ⟨#[49, 48]⟩, .string ⟨#[55]⟩, .string ⟨#[120]⟩] := World.ownsRow_lit (base := w2.heap.size) (size := 1) w2 #[.string ⟨#[]⟩, .string ⟨#[49]⟩, .string ⟨#[50]⟩, .string ⟨#[49, 48]⟩, .string ⟨#[55]⟩, .string ⟨#[120]⟩] 6 (Nat.le_refl _) (by decide) rfl
  have hDc := hDb.alloc (.cells #[.string ⟨#[]⟩, .string ⟨#[49]⟩, .string ⟨#[50]⟩, .string ⟨#[49, 48]⟩, .string ⟨#[55]⟩, .string ⟨#[120]⟩] 9)
  have hYc := own_below hY2 (bl1 w2 (.cells #[.string ⟨#[]⟩, .string ⟨#[49]⟩, .string ⟨#[50]⟩, .string ⟨#[49, 48]⟩, .string ⟨#[55]⟩, .string ⟨#[120]⟩] 9))
  go_wp2_with fail
  refine (below_lit g n 6 _ _ hDc.rdr (by omega) (by omega) (by omega)).mono ?_
  rintro e w3 ⟨y, hy, rfl, hD3⟩
  have hX3 := hD3.own hX (by omega)
  have hY3 := hD3.own hYc hg0
  have hDd := hDc.trans hD3
  obtain ⟨u, d0, s, hs, rfl⟩ := lit_pick (P := fun v => ∃ s : ByteArray, s.size ≤ 5 ∧ v = .string s) hX3 hy (by
    intro v hv
    simp only [List.mem_cons, List.not_mem_nil, or_false] at hv
    rcases hv with rfl | rfl | rfl | rfl | rfl | rfl
    all_goals exact ⟨_, by decide, rfl⟩)
  have hs3 : w.heap.size < w3.heap.size := (own_ge hY3 w.heap.size rfl).2
  clear hX hX3 hDc hD3 hYc hY2 hDb hs2
  have hZ : (w3.alloc (.cells #[.string k, .int .i64 (t : Int), .string s] 39)).ownsRow w3.heap.size 39 3 (.slice (some ⟨w3.heap.size, 0, none⟩) 1 1) 1 [.string k, .int .i64 (t : Int), .string s] := World.ownsRow_lit (base := w3.heap.size) (size := 3) w3 #[.string k, .int .i64 (t : Int), .string s] 1 (Nat.le_refl _) (by decide) rfl
  have hDe := hDd.alloc (.cells #[.string k, .int .i64 (t : Int), .string s] 39)
  have hYe := own_below hY3 (bl1 w3 (.cells #[.string k, .int .i64 (t : Int), .string s] 39))
  go_wp2_with fail
  refine (below_lit g n 80 _ _ hDe.rdr (by omega) (by omega) (by omega)).mono ?_
  rintro e w4 ⟨x, hx, rfl, hD4⟩
  have hZ4 := hD4.own hZ (by omega)
  have hY4 := hD4.own hYe hg0
  have hDf := hDe.trans hD4
  have hw3 : w.heap.size ≤ w3.heap.size := Nat.le_of_lt hs3
  generalize w3.heap.size = B3 at *
  clear hZ hDe hD4 hYe hY3 hDd d0
  by_cases hc1 : x = 78
  · subst hc1
    go_wp2_with fail
    refine (off_any g n 0 3 _ hDf.rdr (by omega) (by omega) (by omega)).mono ?_
    rintro e w5 ⟨z, hz0, hz1, rfl, hD5⟩
    have hZ5 := hD5.own hZ4 (by omega)
    have hY5 := hD5.own hY4 hg0
    have hDf' := hDf.trans hD5
    clear hZ4 hY4 hDf hD5
    have t1 : w5.cell? ⟨B3, 1, none⟩ = some (.int .i64 (t : Int)) := hZ5.cellAt 1 (by omega)
    have tf := hZ5.frozenAt 1
    have hZf : (w5.setCell ⟨B3, 1, none⟩ (.int .i64 z)).ownsRow B3 39 3 (.slice (some ⟨B3, 0, none⟩) 1 1) 1 [.string k, .int .i64 z, .string s] := (hZ5.stored 1 (.int .i64 z)).1
    have hYf : (w5.setCell ⟨B3, 1, none⟩ (.int .i64 z)).ownsRow w.heap.size 39 3 (.slice (some ⟨w.heap.size, 0, none⟩) 1 1) 1 [.string ⟨#[]⟩, .int .i64 0, .string ⟨#[]⟩] := hY5.kept (gb_store (World.grownBy.refl w5 (some B3)) 1 (.int .i64 z)) (.inr (fun e => by injection e with e; simp at e; omega))
    have hDf := hDf'.set hg0 hw3 (o := 1) (.int .i64 z)
    clear hDf' hZ5 hY5
    have e0 : (w5.setCell ⟨B3, 1, none⟩ (.int .i64 z)).cell? ⟨B3, 0, none⟩ = some (.string k) := hZf.cellAt 0 (by omega)
    have e1 : (w5.setCell ⟨B3, 1, none⟩ (.int .i64 z)).cell? ⟨B3, 1, none⟩ = some (.int .i64 z) := hZf.cellAt 1 (by omega)
    have e2 : (w5.setCell ⟨B3, 1, none⟩ (.int .i64 z)).cell? ⟨B3, 2, none⟩ = some (.string s) := hZf.cellAt 2 (by omega)
    have y0 : (w5.setCell ⟨B3, 1, none⟩ (.int .i64 z)).cell? ⟨w.heap.size, 0, none⟩ = some (.string ⟨#[]⟩) := hYf.cellAt 0 (by omega)
    have y1 : (w5.setCell ⟨B3, 1, none⟩ (.int .i64 z)).cell? ⟨w.heap.size, 1, none⟩ = some (.int .i64 0) := hYf.cellAt 1 (by omega)
    have y2 : (w5.setCell ⟨B3, 1, none⟩ (.int .i64 z)).cell? ⟨w.heap.size, 2, none⟩ = some (.string ⟨#[]⟩) := hYf.cellAt 2 (by omega)
    have q0 := hYf.frozenAt 0
    have q1 := hYf.frozenAt 1
    have q2 := hYf.frozenAt 2
    have hDg := ((hDf.set hg0 (Nat.le_refl _) (o := 0) (.string k)).set hg0 (Nat.le_refl _) (o := 1) (.int .i64 z)).set hg0 (Nat.le_refl _) (o := 2) (.string s)
    clear hZf hYf hDf
    go_wp2_with fail
    exact bodyPost_ret (v := .agg #[.string k, .int .i64 z, .string s]) (by simp [results, Try.results73, go_sem, y0, y1, y2]) rfl ⟨⟨k, z, s⟩, ⟨⟨by unfold maxLen; simp only; omega, int_wf hz0 hz1, by unfold maxLen; simp only; omega⟩, by simp only; omega, by simp only; omega⟩, rfl, hDg⟩
  have b78 : ((x : Int) == 78) = false := by rw [beq_eq_false_iff_ne]; omega
  by_cases hc2 : x = 79
  · subst hc2
    go_wp2_with fail
    refine (bytes_lit g n 14 _ _ hDf.rdr (by omega) (by omega) (by omega)).mono ?_
    rintro e w5 ⟨z, hz, rfl, hD5⟩
    have hZ5 := hD5.own hZ4 (by omega)
    have hY5 := hD5.own hY4 hg0
    have hDf' := hDf.trans hD5
    clear hZ4 hY4 hDf hD5
    have t1 : w5.cell? ⟨B3, 2, none⟩ = some (.string s) := hZ5.cellAt 2 (by omega)
    have tf := hZ5.frozenAt 2
    have hZf : (w5.setCell ⟨B3, 2, none⟩ (.string z)).ownsRow B3 39 3 (.slice (some ⟨B3, 0, none⟩) 1 1) 1 [.string k, .int .i64 (t : Int), .string z] := (hZ5.stored 2 (.string z)).1
    have hYf : (w5.setCell ⟨B3, 2, none⟩ (.string z)).ownsRow w.heap.size 39 3 (.slice (some ⟨w.heap.size, 0, none⟩) 1 1) 1 [.string ⟨#[]⟩, .int .i64 0, .string ⟨#[]⟩] := hY5.kept (gb_store (World.grownBy.refl w5 (some B3)) 2 (.string z)) (.inr (fun e => by injection e with e; simp at e; omega))
    have hDf := hDf'.set hg0 hw3 (o := 2) (.string z)
    clear hDf' hZ5 hY5
    have e0 : (w5.setCell ⟨B3, 2, none⟩ (.string z)).cell? ⟨B3, 0, none⟩ = some (.string k) := hZf.cellAt 0 (by omega)
    have e1 : (w5.setCell ⟨B3, 2, none⟩ (.string z)).cell? ⟨B3, 1, none⟩ = some (.int .i64 (t : Int)) := hZf.cellAt 1 (by omega)
    have e2 : (w5.setCell ⟨B3, 2, none⟩ (.string z)).cell? ⟨B3, 2, none⟩ = some (.string z) := hZf.cellAt 2 (by omega)
    have y0 : (w5.setCell ⟨B3, 2, none⟩ (.string z)).cell? ⟨w.heap.size, 0, none⟩ = some (.string ⟨#[]⟩) := hYf.cellAt 0 (by omega)
    have y1 : (w5.setCell ⟨B3, 2, none⟩ (.string z)).cell? ⟨w.heap.size, 1, none⟩ = some (.int .i64 0) := hYf.cellAt 1 (by omega)
    have y2 : (w5.setCell ⟨B3, 2, none⟩ (.string z)).cell? ⟨w.heap.size, 2, none⟩ = some (.string ⟨#[]⟩) := hYf.cellAt 2 (by omega)
    have q0 := hYf.frozenAt 0
    have q1 := hYf.frozenAt 1
    have q2 := hYf.frozenAt 2
    have hDg := ((hDf.set hg0 (Nat.le_refl _) (o := 0) (.string k)).set hg0 (Nat.le_refl _) (o := 1) (.int .i64 (t : Int))).set hg0 (Nat.le_refl _) (o := 2) (.string z)
    clear hZf hYf hDf
    go_wp2_with fail
    exact bodyPost_ret (v := .agg #[.string k, .int .i64 (t : Int), .string z]) (by simp [results, Try.results73, go_sem, y0, y1, y2]) rfl ⟨⟨k, (t : Int), z⟩, ⟨⟨by unfold maxLen; simp only; omega, int_wf (by simp only; omega) (by simp only; omega), by unfold maxLen; simp only; omega⟩, by simp only; omega, by simp only; omega⟩, rfl, hDg⟩
  have b79 : ((x : Int) == 79) = false := by rw [beq_eq_false_iff_ne]; omega
  have hZf := hZ4
  have hYf := hY4
  clear hZ4 hY4
  have e0 : w4.cell? ⟨B3, 0, none⟩ = some (.string k) := hZf.cellAt 0 (by omega)
  have e1 : w4.cell? ⟨B3, 1, none⟩ = some (.int .i64 (t : Int)) := hZf.cellAt 1 (by omega)
  have e2 : w4.cell? ⟨B3, 2, none⟩ = some (.string s) := hZf.cellAt 2 (by omega)
  have y0 : w4.cell? ⟨w.heap.size, 0, none⟩ = some (.string ⟨#[]⟩) := hYf.cellAt 0 (by omega)
  have y1 : w4.cell? ⟨w.heap.size, 1, none⟩ = some (.int .i64 0) := hYf.cellAt 1 (by omega)
  have y2 : w4.cell? ⟨w.heap.size, 2, none⟩ = some (.string ⟨#[]⟩) := hYf.cellAt 2 (by omega)
  have q0 := hYf.frozenAt 0
  have q1 := hYf.frozenAt 1
  have q2 := hYf.frozenAt 2
  have hDg := ((hDf.set hg0 (Nat.le_refl _) (o := 0) (.string k)).set hg0 (Nat.le_refl _) (o := 1) (.int .i64 (t : Int))).set hg0 (Nat.le_refl _) (o := 2) (.string s)
  clear hZf hYf hDf
  go_wp2_with fail
  exact bodyPost_ret (v := .agg #[.string k, .int .i64 (t : Int), .string s]) (by simp [results, Try.results73, go_sem, y0, y1, y2]) rfl ⟨⟨k, (t : Int), s⟩, ⟨⟨by unfold maxLen; simp only; omega, int_wf (by simp only; omega) (by simp only; omega), by unfold maxLen; simp only; omega⟩, by simp only; omega, by simp only; omega⟩, rfl, hDg⟩
theorem row_any (g n : Nat) (w : World) (h : Rdr w g n) :
    Calls Try.prog 73 #[.pointer (some ⟨g, 0, none⟩)] w fun e w' => ∃ r : RowV, r.Ok ∧ e = .returned (.agg #[.string r.key, .int .i64 r.tag, .string r.val]) ∧ Drew w w' g n :=
  (row_small g n w h).mono fun _ _ ⟨r, hr, he, hD⟩ => ⟨r, hr.1, he, hD⟩
set_option maxRecDepth 100000 in
set_option maxHeartbeats 2000000 in
theorem rows_lit (g n m : Nat) (K : Int) (w : World) (h : Rdr w g n) (hK : (m : Int) = K) (hm1 : 1 ≤ m) (hm : m ≤ 100) :
    Calls Try.prog 42 #[.pointer (some ⟨g, 0, none⟩), .int .i64 K] w fun e w' => ∃ (l : List RowV) (b c : Nat), l.length ≤ m ∧ (∀ r ∈ l, r.Ok) ∧ e = .returned (.slice (some ⟨b, 0, none⟩) l.length c) ∧ w'.ownsRow w.heap.size 39 3 (.slice (some ⟨b, 0, none⟩) l.length c) l.length (flat l) ∧ Drew w w' g n := by
  subst hK
  obtain ⟨i0, hi, hz0, hz1, hz2⟩ := info_parts infoRow
  have hO0 : (w.alloc (.cells #[] 39)).ownsRow w.heap.size 39 3 (.slice (some ⟨w.heap.size, 0, none⟩) 0 0) 0 (flat []) := World.ownsRow_lit (base := w.heap.size) (size := 3) w #[] 0 (Nat.le_refl _) (Nat.zero_le _) rfl
  have hD0 := (Drew.refl h).alloc (.cells #[] 39)
  have hg0 := h.lt
  go_enter Try.func42, Try.ntmps42
  go_wp2_with fail
  refine (below_lit g n (m + 1) _ _ hD0.rdr (by omega) (by omega) (by omega)).mono ?_
  rintro e w1 ⟨t, ht, rfl, hD1⟩
  have hO1 := hD1.own hO0 hg0
  have hD := hD0.trans hD1
  clear hO0 hD0 hD1
  go_wp2_with fail
  go_loopw [5, 6] (fun v i wr => ∃ (l : List RowV) (b cc q : Nat), l.length + q ≤ m ∧ i = .int .i64 q ∧ v = .slice (some ⟨b, 0, none⟩) l.length cc ∧ Hid (∀ r ∈ l, r.Ok) ∧ wr.ownsRow w.heap.size 39 3 (.slice (some ⟨b, 0, none⟩) l.length cc) l.length (flat l) ∧ Drew w wr g n) (fun _ i _ => (intOf i).toNat)
  case atStart => exact ⟨[], _, 0, t, by simp; omega, rfl, rfl, Lib.hid (by simp), hO1, hD⟩
  case round =>
    obtain ⟨l, b, cc, q, hl, rfl, rfl, Hok, hO, hDr⟩ := hrel
    clear hO1 hD
    by_cases hpos : 0 < q
    · go_wp2_with fail
      refine (row_any g n _ hDr.rdr).mono ?_
      rintro e w2 ⟨r, hr, rfl, hD2⟩
      have hO2 := hD2.own hO hg0
      have hDa := hDr.trans hD2
      have hs2 : w.heap.size ≤ w2.heap.size := hDa.size
      have hDd := hDa.alloc (.cells #[.string r.key, .int .i64 r.tag, .string r.val] 39)
      clear hO hDr hD2
      go_wp2_with (at_builtin; refine wpList_append_own _ rfl _ _ 24 rfl w.heap.size 39 i0 (.agg #[.string ⟨#[]⟩, .int .i64 0, .string ⟨#[]⟩]) 3 40 Try.underlying24 hi hz0 hz1 hz2 rfl (by decide) _ _ _ rfl (hO2.alloc _) ⟨w2.heap.size, 0, none⟩ 1 1 [.string r.key, .int .i64 r.tag, .string r.val] rfl rfl ?c1 ?c2 ?c3 ?c4 ?c5 ?_)
      case c1 =>
        intro j u hj
        match j, hj with
        | 0, hj => simp at hj; subst hj; simp [Addr.add, go_sem]
        | 1, hj => simp at hj; subst hj; simp [Addr.add, go_sem]
        | 2, hj => simp at hj; subst hj; simp [Addr.add, go_sem]
      case c2 =>
        intro u hu
        simp at hu
        rcases hu with rfl | rfl | rfl <;> rfl
      case c3 => unfold maxLen; omega
      case c4 => omega
      case c5 => simp; omega
      intro v' w4 hO4 hg4 _
      obtain ⟨a', cap', rfl⟩ := own_slice' hO4
      obtain ⟨b', rfl, _, _⟩ := own_form hO4 (by omega)
      have hO5 : w4.ownsRow w.heap.size 39 3 (.slice (some ⟨b', 0, none⟩) (l ++ [r]).length cap') (l ++ [r]).length (flat (l ++ [r])) := by
        rw [flat_append]; simpa [flat, RowV.cells] using hO4
      have hD5 : Drew w w4 g n := hDd.grown hg0 hg4 (fun q e => (own_ge hO2 q e).1)
      have hll : (l ++ [r]).length + (q - 1) ≤ m := by simp; omega
      have He := Lib.hid (show l.length + 1 = (l ++ [r]).length by simp)
      have Hok2 := Lib.hid (show ∀ x ∈ l ++ [r], x.Ok from fun x hx => by
        rcases List.mem_append.1 hx with hx | hx
        · exact Hok.out x hx
        · rw [List.mem_singleton.1 hx]; exact hr)
      clear hO4 hg4 hDd hDa hO2
      rw [He.out]
      generalize l ++ [r] = l2 at *
      go_wp2_with fail
      go_roundw
      case rel => exact ⟨l2, b', cap', q - 1, hll, by go_num, rfl, Hok2, hO5, hD5⟩
      case measure => simp [intOf]; omega
    · have hq0 : decide (0 < q) = false := by simp; omega
      go_wp2_with fail
      go_ret
      exact ⟨l, b, cc, by omega, Hok.out, rfl, hO, hDr⟩
theorem below_drew {w w1 w2 : World} {n : Nat} (hb : Below w.heap.size w w1) (hD : Drew w1 w2 w.heap.size n) : Below w.heap.size w w2 := hb.trans (gb_below hD.2 hb.size (fun _ e => Nat.le_of_eq (Option.some.inj e)))
/-- What a law is handed: a code; it is read alone. -/
def IsCode (w : World) (a : Option Addr) (len cap : Nat) (xs : List Value) : Prop := len ≤ cap ∧ cap ≤ maxLen ∧ Rd w w.heap.size 1 a len xs ∧ ∀ v ∈ xs, ∃ x : Nat, x < 256 ∧ v = .int .u8 x
theorem IsCode.by_ {w : World} {a : Option Addr} {len cap : Nat} {xs : List Value} (h : IsCode w a len cap xs) : IsBy w w.heap.size a len := ⟨xs, h.2.2⟩
end Go.Proofs.Ytjhicjhgpbighaa

namespace Go.Proofs.Ytjhicjhgpbighaa
open Go.ChangeShapes Go.WideShapes Go.ChangeAt Go.RowKit Go.Joins Go.Deep
section
variable {H : Type} {enc : TypeId × Value → H} {W : World} {base : Nat}
theorem cellsByte : Try.prog.cellsOf 5 = 1 := by kernel_rfl
theorem u8_wf {z : Int} (h : (Lit.int .u8 z).wf = true) : ∃ x : Nat, x < 256 ∧ z = x := by
  have h1 : IntKind.u8.min ≤ z ∧ z ≤ IntKind.u8.max := by simpa [Lit.wf] using h
  have e0 : IntKind.u8.min = 0 := rfl
  have e1 : IntKind.u8.max = 255 := rfl
  rw [e0, e1] at h1
  exact ⟨z.toNat, by omega, by omega⟩
set_option maxRecDepth 100000 in
theorem open_Bytes {v : Value} {d : DataW H} {p : List MemPlace} (hv : Value.okWide Try.prog W .any base 22 v) (h : DataW.Trod enc Try.prog W 0 (fun _ => true) true 22 v d p) :
    ∃ a len cap xs, v = .slice a len cap ∧ IsCode W a len cap xs := by
  obtain ⟨a, len, cap, rfl⟩ := okWide_slice Try.underlying22 hv
  obtain ⟨fuel, hf⟩ := h
  rcases open_ints Try.underlying22 Try.underlying5 cellsByte hf with ⟨hcs, _⟩ | ⟨x, l, c, zs, hcs, _, hl, hm, hz, _, hcell, hws⟩
  · simp [Value.cells] at hcs
    obtain ⟨rfl, rfl, rfl⟩ := hcs
    exact ⟨none, 0, 0, [], rfl, Nat.le_refl _, Nat.zero_le _, ⟨by simp, fun h => absurd h (by omega)⟩, by simp⟩
  · simp [Value.cells] at hcs
    obtain ⟨rfl, rfl, rfl⟩ := hcs
    simp only [if_true] at hz
    refine ⟨_, _, _, (zs.take len).map fun z => .int .u8 z, rfl, hl, hm, ⟨by simp; omega, fun hn => ?_⟩, fun v hv => ?_⟩
    · have h0 := hcell 0 (by omega)
      have hsp : x.spot = none := by
        have := World.cell?_spot h0
        obtain ⟨b, o, s⟩ := x
        simpa [Addr.add] using this
      rw [addr_add x hsp] at h0
      refine ⟨x.block, x.off, ?_, lt_of_cell h0, fun j u hu => ?_⟩
      · obtain ⟨b, o, s⟩ := x
        simp only at hsp
        subst hsp
        rfl
      · have hj : j < len := by
          have := (List.getElem?_eq_some_iff.1 hu).1
          simp at this; omega
        have hc := hcell j (by omega)
        rw [addr_add x hsp] at hc
        rw [hc, ← hu]
        simp [hj, List.getD, List.getElem?_eq_getElem (show j < zs.length by omega)]
    · obtain ⟨z, hz', rfl⟩ := List.mem_map.1 hv
      obtain ⟨x, hx, rfl⟩ := u8_wf (hws z (List.mem_of_mem_take hz'))
      exact ⟨x, hx, rfl⟩
end
end Go.Proofs.Ytjhicjhgpbighaa

namespace Go.Proofs.Ytjhicjhgpbighaa
open Go.RowKit

end Go.Proofs.Ytjhicjhgpbighaa

namespace Go.Proofs.Ytjhicjhgpbighaa
open Go.RowKit

theorem IsBy.keep' {w w' : World} {a : Option Addr} {n : Nat} (h : IsBy w w.heap.size a n) (hb : Below w.heap.size w w') : IsBy w' w'.heap.size a n := by
  obtain ⟨xs, h1, h2⟩ := h
  exact ⟨xs, (h1.below hb (Nat.le_refl _)).more hb.size, h2⟩
theorem sortL_ok {rs : List RowV} (h : ∀ r ∈ rs, r.Ok) : ∀ r ∈ sortL rs, r.Ok := fun r hr => h r ((sortL_perm' rs).mem_iff.1 hr)
theorem rowsOk_perm {a b : List RowV} (p : a.Perm b) : rowsOk a = rowsOk b := by
  unfold rowsOk
  rw [p.length_eq, p.all_eq]
set_option maxRecDepth 100000 in
theorem drawSortedOk_any (a : Option Addr) (len cap : Nat) (w : World) (hl : len ≤ 1048576) (h : IsBy w w.heap.size a len) :
    Calls Try.prog 51 #[.slice a len cap] w fun e w' => ∃ (l : List RowV) (b : Option Addr) (c : Nat), l.length ≤ 6 ∧ (∀ r ∈ l, r.Ok) ∧ e = .returned (.slice b l.length c) ∧ w'.ownsRow w.heap.size 39 3 (.slice b l.length c) l.length (flat l) ∧ Below w.heap.size w w' := by
  go_enter Try.func51, Try.ntmps51
  go_wp2_with fail
  refine (l1Open_any a len cap w hl h).mono ?_
  rintro e w1 ⟨rfl, hR1, hb1⟩
  go_wp2_with fail
  refine (rows_lit w.heap.size len 6 _ _ hR1 (by omega) (by omega) (by omega)).mono ?_
  rintro e w2 ⟨l, b, c, hll, hok, rfl, hO, hD⟩
  have hlt := hR1.lt
  go_wp2_with fail
  refine (once_lit w.heap.size len 2 _ _ hD.rdr (by omega) (by omega) (by omega)).mono ?_
  rintro e w3 ⟨q, rfl, hD3⟩
  have hO3 := hD3.own hO hlt
  have hb3 := below_drew hb1 (hD.trans hD3)
  cases q
  · have hO4 := own_base' hO3 hb1.size
    clear hO hO3
    go_wp2_with fail
    go_ret
    exact ⟨l, _, c, hll, hok, rfl, hO4, hb3⟩
  · go_wp2_with fail
    refine (l3Sort_any _ l.length c l _ (by omega) (Rd.of_own hO3)).mono ?_
    rintro e w4 ⟨b4, c4, rfl, hO4, hb4⟩
    have hO5 : w4.ownsRow w.heap.size 39 3 (.slice b4 (sortL l).length c4) (sortL l).length (flat (sortL l)) := by
      rw [sortL_length]; exact own_base' hO4 hb3.size
    have hb5 := hb3.trans (hb4.mono hb3.size)
    have E := Lib.hid (sortL_length l)
    clear hO hO3 hO4
    go_wp2_with fail
    go_ret
    rw [← E.out]
    exact ⟨sortL l, b4, c4, by rw [E.out]; exact hll, sortL_ok hok, rfl, hO5, hb5⟩
end Go.Proofs.Ytjhicjhgpbighaa

namespace Go.Proofs.Ytjhicjhgpbighaa
open Go.RowKit
/-- How many rows have another key than the one before. -/
def chgL : Option ByteArray → List RowV → Nat
  | _, [] => 0
  | p, r :: l => (if p = some r.key then 0 else 1) + chgL (some r.key) l
def prevK (l : List RowV) : Nat → Option ByteArray
  | 0 => none
  | k + 1 => (l[k]?).map (·.key)
theorem chg_lead (k : ByteArray) : ∀ l : List RowV, chgL (some k) l = chgL none (l.drop (leadN k l))
  | [] => by simp [chgL]
  | r :: l => by
    by_cases e : r.key = k
    · have e2 : leadN k (r :: l) = leadN k l + 1 := by unfold leadN; rw [leadL_eq r l e]; rfl
      rw [e2, List.drop_succ_cons, ← chg_lead k l]
      subst e
      simp [chgL]
    · have e2 : leadN k (r :: l) = 0 := by unfold leadN; rw [leadL_ne r l e]; rfl
      have e3 : ¬ (some k = some r.key) := fun h => e (Option.some.inj h).symm
      rw [e2, List.drop_zero]
      simp only [chgL, if_neg e3]
      simp
theorem chg_groups : ∀ (n : Nat) (l : List RowV), l.length ≤ n → chgL none l = (groupsR l).length
  | _, [], _ => by rw [groupsR_nil]; rfl
  | 0, _ :: _, h => by simp at h
  | n + 1, r :: l, h => by
    have hp := leadN_pos r l
    rw [groupsR_next, List.length_cons, ← chg_groups n _ (by rw [List.length_drop]; rw [List.length_cons] at h ⊢; omega)]
    have e : leadN r.key (r :: l) = leadN r.key l + 1 := by unfold leadN; rw [leadL_eq r l rfl]; rfl
    rw [e, List.drop_succ_cons, ← chg_lead]
    simp only [chgL]
    simp
    omega
theorem chg_at {l : List RowV} {k : Nat} {r : RowV} (h : l[k]? = some r) : chgL (prevK l k) (l.drop k) = (if prevK l k = some r.key then 0 else 1) + chgL (prevK l (k + 1)) (l.drop (k + 1)) := by
  obtain ⟨hk, e⟩ := List.getElem?_eq_some_iff.1 h
  rw [List.drop_eq_getElem_cons hk, e]
  simp only [chgL, prevK, h, Option.map_some]
theorem chg_le (p : Option ByteArray) : ∀ l : List RowV, chgL p l ≤ l.length
  | [] => Nat.le_refl _
  | r :: l => by
    have := chg_le (some r.key) l
    simp only [chgL, List.length_cons]
    split <;> omega
set_option maxRecDepth 100000 in
theorem drawGroupsOf_any (a : Option Addr) (len cap : Nat) (w : World) (hl : len ≤ 1048576) (h : IsBy w w.heap.size a len) :
    Calls Try.prog 17 #[.slice a len cap] w fun e w' => ∃ (l : List RowV) (b : Option Addr) (c : Nat), l.length ≤ 6 ∧ (∀ r ∈ l, r.Ok) ∧ e = .returned (.slice b l.length c) ∧ w'.ownsRow w.heap.size 39 3 (.slice b l.length c) l.length (flat l) ∧ Below w.heap.size w w' := by
  go_enter Try.func17, Try.ntmps17
  go_wp2_with fail
  refine (drawSortedOk_any a len cap w hl h).mono ?_
  rintro e w1 ⟨l, b, c, h1, h2, rfl, h3, h4⟩
  go_wp2_with fail
  go_ret
  exact ⟨l, b, c, h1, h2, rfl, h3, h4⟩
set_option maxRecDepth 100000 in
set_option maxHeartbeats 4000000 in
theorem walk_GroupsMany (a : Option Addr) (len cap : Nat) (xs : List Value) (w : World) (hI : IsCode w a len cap xs) :
    Calls Try.prog 4 #[.slice a len cap] w fun e w' => e = .returned (.bool true) ∧ Below w.heap.size w w' := by
  have hI0 := hI.by_
  obtain ⟨hlc, hcm, _, _⟩ := hI
  go_enter Try.func4, Try.ntmps4
  go_wp2_with fail
  refine (big_any a len cap w (by omega)).mono ?_
  rintro e w0 ⟨rfl, rfl⟩
  by_cases hbig : 1048576 < len
  · have hd : decide (1048576 < len) = true := by simpa using hbig
    rw [hd]
    go_wp2_with fail
    go_ret
    exact ⟨rfl, Below.refl _ _⟩
  have hd : decide (1048576 < len) = false := by simpa using hbig
  rw [hd]
  go_wp2_with fail
  refine (drawGroupsOf_any a len cap w (by omega) hI0).mono ?_
  rintro e w1 ⟨l, la, lc, hll, hok, rfl, hO, hb⟩
  have B := hb
  clear hb
  have L := Rd.of_own hO
  have hlc2 : l.length ≤ lc := by
    obtain ⟨g, c', e, h⟩ := own_slice2 hO
    injection e with _ _ e
    rw [e]; exact h
  clear hO
  obtain ⟨hn1, hn2⟩ := groupsOfS_le l
  obtain ⟨n1, e1⟩ : ∃ j, (groupsOfS l).length = j := ⟨_, rfl⟩
  have CI : ∀ (w : World), Rd w w.heap.size 3 la l.length (flat l) → Calls Try.prog 15 #[.slice la l.length lc] w (fun e w' => ∃ b c gs, e = .returned (.tuple #[.slice b n1 c, .bool (groupsOfB l)]) ∧ Below w.heap.size w w' ∧ GOwn w' w.heap.size b n1 c gs (groupsOfS l)) := fun w h => by
    have := implGroupsOf_any la l.length lc l w (by omega) hlc2 hok h
    rw [e1] at this
    exact this
  have CS : ∀ (w : World), Rd w w.heap.size 3 la l.length (flat l) → Calls Try.prog 18 #[.slice la l.length lc] w (fun e w' => ∃ b c gs, e = .returned (.tuple #[.slice b n1 c, .bool (groupsOfB l)]) ∧ Below w.heap.size w w' ∧ GOwn w' w.heap.size b n1 c gs (groupsOfS l)) := fun w h => by
    have := specGroupsOf_any la l.length lc l w (by omega) hok h
    rw [e1] at this
    exact this
  rw [e1] at hn1
  have hT : groupsOfB l = true → chgL none l = n1 := fun h => by
    rw [chg_groups l.length l (Nat.le_refl _), ← e1]
    unfold groupsOfS
    rw [if_pos h]
  clear e1
  generalize groupsOfS l = G at *
  go_wp2_with fail
  refine (CI w1 L).mono ?_
  rintro e w2 ⟨aa, ac, ags, rfl, hb, hO⟩
  replace B := B.trans (hb.mono B.size)
  replace L := (L.below hb (Nat.le_refl _)).more hb.size
  clear hb
  have GA := hO.rd
  clear hO CI
  go_wp2_with fail
  refine (CS w2 L).mono ?_
  rintro e w3 ⟨ba, bc, bgs, rfl, hb, hO⟩
  replace B := B.trans (hb.mono B.size)
  replace L := (L.below hb (Nat.le_refl _)).more hb.size
  replace GA := (GA.below hb (Nat.le_refl _)).more hb.size
  clear hb
  have GB := hO.rd
  clear hO CS
  cases hB : groupsOfB l
  · go_wp2_with fail
    refine (sameGroups_same aa ba n1 ac bc G w3 (by omega) (by omega) GA GB).mono ?_
    rintro e w4 ⟨rfl, hb⟩
    replace B := B.trans (hb.mono B.size)
    replace L := (L.below hb (Nat.le_refl _)).more hb.size
    replace GA := (GA.below hb (Nat.le_refl _)).more hb.size
    replace GB := (GB.below hb (Nat.le_refl _)).more hb.size
    clear hb
    go_wp2_with fail
    refine (sameGroups_same aa ba n1 ac bc G w4 (by omega) (by omega) GA GB).mono ?_
    rintro e w5 ⟨rfl, hb⟩
    replace B := B.trans (hb.mono B.size)
    replace L := (L.below hb (Nat.le_refl _)).more hb.size
    replace GA := (GA.below hb (Nat.le_refl _)).more hb.size
    replace GB := (GB.below hb (Nat.le_refl _)).more hb.size
    clear hb
    go_wp2_with fail
    go_ret
    exact ⟨rfl, B⟩
  have hT1 := hT hB
  clear hT hB
  go_wp2_with fail
  refine (sameGroups_same aa ba n1 ac bc G w3 (by omega) (by omega) GA GB).mono ?_
  rintro e w4 ⟨rfl, hb⟩
  replace B := B.trans (hb.mono B.size)
  replace L := (L.below hb (Nat.le_refl _)).more hb.size
  replace GA := (GA.below hb (Nat.le_refl _)).more hb.size
  replace GB := (GB.below hb (Nat.le_refl _)).more hb.size
  clear hb
  clear GB
  go_wp2_with fail
  go_loopw [8, 9] (fun v i wr => ∃ k m : Nat, k ≤ l.length ∧ m ≤ k ∧ m + chgL (prevK l k) (l.drop k) = n1 ∧ v = .int .i64 m ∧ i = .int .i64 k ∧ Below w4.heap.size w4 wr) (fun _ i _ => l.length - (intOf i).toNat)
  case atStart => exact ⟨0, 0, Nat.zero_le _, Nat.le_refl _, by rw [List.drop_zero, Nat.zero_add]; exact hT1, rfl, rfl, Below.refl _ _⟩
  case round =>
    obtain ⟨k, m, hk, hmk, hsum, rfl, rfl, hb⟩ := hrel
    by_cases hlt : k < l.length
    · obtain ⟨b1, o1, r, rfl, hB1, hr, c0, c1, c2⟩ := (L.below hb (Nat.le_refl _)).row hlt
      rw [chg_at hr] at hsum
      rcases k with _ | j
      · rw [if_neg (show ¬ prevK l 0 = some r.key by simp [prevK])] at hsum
        rw [show (0 + 1 : Nat) = 1 from rfl] at hsum
        have Hs := Lib.hid hsum
        clear hr hsum c1 c2
        simp only [Nat.zero_mul, Nat.add_zero] at c0
        go_wp2_with fail
        go_quiet (fail)
        have hb2 := below_drewN hb nq
        generalize wr.drewN nq = w13 at *
        clear c0
        go_wp2_with fail
        go_roundw
        case rel => exact ⟨1, m + 1, by omega, by omega, by have := Hs.out; omega, by go_num, by go_num, hb2⟩
        case measure => simp [intOf]; omega
      · obtain ⟨b2, o2, r2, e2, hB2, hr2, d0, d1, d2⟩ := (L.below hb (Nat.le_refl _)).row (show j < l.length by omega)
        injection e2 with e2
        injection e2 with e2 e2b
        subst e2
        subst e2b
        have hp : prevK l (j + 1) = some r2.key := by simp [prevK, hr2]
        rw [hp] at hsum
        obtain ⟨x, y, z⟩ := r
        obtain ⟨x2, y2, z2⟩ := r2
        simp only at c0 d0 hsum
        clear hr hr2 hp c1 c2 d1 d2
        have z1 : (((j + 1 : Nat) : Int) == 0) = false := by rw [beq_eq_false_iff_ne]; omega
        have z2 : ((j : Int) + 1 == 0) = false := by rw [beq_eq_false_iff_ne]; omega
        have z3 : IntKind.i64.wrap ((j : Int) + 1 - 1) = (j : Int) := by rw [show (j : Int) + 1 - 1 = (j : Int) by omega]; exact IntWalk.i64_in _ (by omega)
        cases hq : (x2.toList == x.toList)
        · have hd2 : (x2 == x) = false := by rw [beq_toListBytes]; exact hq
          have hne : ¬ (some x2 = some x) := fun h => by
            have := Option.some.inj h
            subst this
            simp at hq
          rw [if_neg hne] at hsum
          have Hs := Lib.hid hsum
          clear hsum hne
          go_wp2_with fail
          go_quiet (fail)
          have hb2 := below_drewN hb nq
          generalize wr.drewN nq = w13 at *
          clear c0 d0
          go_wp2_with fail
          go_roundw
          case rel => exact ⟨j + 1 + 1, m + 1, by omega, by omega, by have := Hs.out; omega, by go_num, by go_num, hb2⟩
          case measure => simp [intOf]; omega
        · have hd2 : (x2 == x) = true := by rw [beq_toListBytes]; exact hq
          have he : some x2 = some x := by
            have h := eq_of_beq hq
            rw [ByteArray.toList_eq, ByteArray.toList_eq] at h
            rw [show x2 = x from ByteArray.ext (Array.toList_inj.1 h)]
          rw [if_pos he] at hsum
          have Hs := Lib.hid hsum
          clear hsum he
          go_wp2_with fail
          go_quiet (fail)
          have hb2 := below_drewN hb nq
          generalize wr.drewN nq = w13 at *
          clear c0 d0
          go_wp2_with fail
          go_roundw
          case rel => exact ⟨j + 1 + 1, m, by omega, by omega, by have := Hs.out; omega, by go_num, by go_num, hb2⟩
          case measure => simp [intOf]; omega
    · obtain rfl : k = l.length := by omega
      have hmn : m = n1 := by
        rw [List.drop_length] at hsum
        simpa [chgL] using hsum
      subst hmn
      have B9 := B.trans (hb.mono B.size)
      clear hsum
      go_wp2_with fail
      go_ret
      exact ⟨rfl, B9⟩
end Go.Proofs.Ytjhicjhgpbighaa

namespace Go.Proofs.Ytjhicjhgpbighaa
open Go.ChangeShapes Go.WideShapes Go.ChangeAt Go.RowKit Go.Joins
open Go.ChangeMaps (open_string shut_string)
namespace GroupsMany

set_option maxRecDepth 100000 in
theorem lifted (os : Os) (started : os.Started) (H : Type) (enc : TypeId × Value → H) :
    ReturnsInHanded {} Try.checked os 4 .any (Rows.fnGroupsManySpec.pre6 enc Try.prog Try.f4 Rows.fnGroupsManyRow.domain false) (Rows.fnGroupsManySpec.post enc Try.prog Try.f4 false true false false) := by
  refine returnsInHanded_of_change (C := Try.checked) own started (by kernel_rfl) Try.func4
    (ChangeSpec.witness6 (enc := enc) (C := Try.checked) false ⟨#[], #[.slice none 0 0], []⟩ 8 (by kernel_rfl) (by kernel_rfl) (by kernel_rfl) (by kernel_rfl)) ?_
  intro W base args ds gs before hval0 hW _ _
  have hval : ∀ (j : Nat) t v, Try.f4.params[j]? = some t → args[j]? = some v → Value.okWide Try.prog W .any base t v := hval0
  have hW' := hW
  obtain ⟨p, q, hA0, hV, rfl, _, _⟩ := hW
  have hA : DataW.TrodAll enc Try.prog W 0 (fun _ => true) true Try.f4.params.toList args.toList ds p := hA0
  rw [Try.params4] at hA hval
  obtain ⟨v0, vs0, d0, ds0, p0, q0, hargs, rfl, rfl, h0, r0⟩ := trodAll_cons hA
  obtain ⟨rfl, rfl, rfl⟩ := trodAll_nil r0
  obtain rfl : args = #[v0] := by cases args; simp_all
  obtain ⟨rfl, rfl⟩ := trodVars_none hV
  have k0 := h0
  have lt0 : ∀ x ∈ p0, x.block < W.heap.size := by obtain ⟨m, hm⟩ := k0; exact DataW.trod_lt m _ _ _ hm
  obtain ⟨a0, len0, cap0, z0, rfl, w0⟩ := open_Bytes (hval 0 22 v0 rfl rfl) h0
  clear hA0 hval0
  refine (walk_GroupsMany a0 len0 cap0 z0 W w0).mono fun e W' ⟨he, bel⟩ => ?_
  subst he
  exact ⟨_, rfl, _, _, _, [], _, [], hW', trodAll_mk1 (shut_bool Try.underlying4 _), (trodAll_cons_mk (Below.trod laidOut (by kernel_rfl) (of_decide_eq_true (by kernel_rfl)) k0 bel lt0) trodAll_mk0), rfl, bel.frame _, fun h => by cases h⟩

theorem over : Rows.fnGroupsManyRow.holds Try.pinned (OpenSpec.ofChange Rows.fnGroupsManySpec) :=
  OpenClaim.holds_of_wide 4 Try.f4 rfl rfl rfl rfl rfl rfl rfl ⟨rfl, rfl, rfl, rfl, rfl⟩ rfl rfl rfl rfl rfl (by kernel_rfl) Try.func4 (by kernel_rfl)
    (of_decide_eq_true (by kernel_rfl)) (by unfold Func.isWrapper; first | (rw [if_pos (by decide +kernel)]; kernel_rfl) | (rw [if_neg (by decide +kernel)]; exact ⟨rfl, rfl⟩))
    (fun os started H enc _ => lifted os started H enc)
end GroupsMany
theorem fnGroupsMany_holds : Rows.FnGroupsManySaid := GroupsMany.over
end Go.Proofs.Ytjhicjhgpbighaa
