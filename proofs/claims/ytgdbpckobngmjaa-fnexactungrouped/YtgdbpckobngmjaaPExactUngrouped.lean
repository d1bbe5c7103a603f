/-
  Rows.FnExactUngroupedSaid: laws.FnExactUngrouped returns true for every input, and each argument reads afterwards as it read before. No conditions.
-/
import Derived.Test.YtgdbpckobngmjaaLowB
import Derived.Test.YtgdbpckobngmjaaMarkRows
import Derived.Test.YtgdbpckobngmjaaSortedOkFns
import Derived.Test.YtgdbpckobngmjaaJoinKeys
import Derived.Test.YtgdbpckobngmjaaAppendAny
import Derived.Test.YtgdbpckobngmjaaRowsOut
import Derived.Lib.QuietBelow
import Derived.Test.YtgdbpckobngmjaaRowsMem
import Derived.Test.YtgdbpckobngmjaaSince
import Derived.Test.YtgdbpckobngmjaaPartMem
import Derived.Test.YtgdbpckobngmjaaRoundRegion
import Derived.Test.YtgdbpckobngmjaaStepOne
import Derived.Test.YtgdbpckobngmjaaSort
import Derived.Test.YtgdbpckobngmjaaOpen
namespace Go.Proofs.Ytgdbpckobngmjaa
open Go.RowKit
/-- Groups that can be read below block B. -/
def GRd (w : World) (B : Nat) (a : Option Addr) (n : Nat) (G : List (ByteArray × List RowV)) : Prop :=
  G.length = n ∧ ∀ (i : Nat) (key : ByteArray) (rs : List RowV), G[i]? = some (key, rs) → ∃ b a' c', a = some ⟨b, 0, none⟩ ∧ b < B ∧ w.cell? ⟨b, i * 2, none⟩ = some (.string key) ∧ w.cell? ⟨b, i * 2 + 1, none⟩ = some (.slice a' rs.length c') ∧ Rd w B 3 a' rs.length (flat rs)
theorem GOwn.rd {w : World} {lo n c : Nat} {a : Option Addr} {gs : List (ByteArray × Value)} {G : List (ByteArray × List RowV)} (h : GOwn w lo a n c gs G) : GRd w w.heap.size a n G :=
  ⟨h.len.2, fun i key rs hi => by
    obtain ⟨b, a', c', e, h1, h2, c0, c1, _, hr⟩ := GIn.of_own h i key rs hi
    exact ⟨b, a', c', e, h2, c0, c1, hr.rd⟩⟩
theorem GRd.below {w w' : World} {B D n : Nat} {a : Option Addr} {G : List (ByteArray × List RowV)} (h : GRd w B a n G) (hb : Below D w w') (hD : B ≤ D) : GRd w' B a n G :=
  ⟨h.1, fun i key rs hi => by
    obtain ⟨b, a', c', e, h2, c0, c1, hr⟩ := h.2 i key rs hi
    exact ⟨b, a', c', e, h2, (hb.cell (p := ⟨b, i * 2, none⟩) (Nat.lt_of_lt_of_le h2 hD)).trans c0, (hb.cell (p := ⟨b, i * 2 + 1, none⟩) (Nat.lt_of_lt_of_le h2 hD)).trans c1, hr.below hb hD⟩⟩
theorem GRd.more {w : World} {B D n : Nat} {a : Option Addr} {G : List (ByteArray × List RowV)} (h : GRd w B a n G) (hD : B ≤ D) : GRd w D a n G :=
  ⟨h.1, fun i key rs hi => by
    obtain ⟨b, a', c', e, h2, c0, c1, hr⟩ := h.2 i key rs hi
    exact ⟨b, a', c', e, Nat.lt_of_lt_of_le h2 hD, c0, c1, hr.more hD⟩⟩
theorem GOwn.since {lo hi base n c : Nat} {w w' : World} {a : Option Addr} {gs : List (ByteArray × Value)} {G : List (ByteArray × List RowV)} (h : GOwn w base a n c gs G) (hs : Since lo hi w w') (hb : hi ≤ base) : GOwn w' base a n c gs G :=
  ⟨Since.own h.outer hs hb, h.keys, ⟨h.fam.len, fun i v rs h1 h2 => Since.own (h.fam.own i v rs h1 h2) hs hb, h.fam.sep⟩, h.out⟩
/-- How many marks groups take. -/
def sizeG : List (ByteArray × List RowV) → Nat
  | [] => 0
  | g :: G => 1 + 3 * g.2.length + sizeG G
theorem sizeG_snoc (G : List (ByteArray × List RowV)) (g : ByteArray × List RowV) : sizeG (G ++ [g]) = sizeG G + (1 + 3 * g.2.length) := by
  induction G with
  | nil => simp [sizeG]
  | cons x G ih => rw [List.cons_append, sizeG, sizeG, ih]; omega
theorem sizeG_take {G : List (ByteArray × List RowV)} {j : Nat} {g : ByteArray × List RowV} (h : G[j]? = some g) : sizeG (G.take (j + 1)) = sizeG (G.take j) + (1 + 3 * g.2.length) := by
  rw [List.take_add_one, h, Option.toList_some, sizeG_snoc]
theorem sizeG_append (A B : List (ByteArray × List RowV)) : sizeG (A ++ B) = sizeG A + sizeG B := by
  induction A with
  | nil => simp [sizeG]
  | cons x A ih => rw [List.cons_append, sizeG, sizeG, ih]; omega
theorem sizeG_le (G : List (ByteArray × List RowV)) (j : Nat) : sizeG (G.take j) ≤ sizeG G := by
  have e : sizeG G = sizeG (G.take j) + sizeG (G.drop j) := by rw [← sizeG_append, List.take_append_drop]
  omega
def marksG (K : Nat) : List (ByteArray × List RowV) → List (ByteArray × List RowV)
  | [] => []
  | g :: G => (markB K, marksR (K + 1) g.2.length) :: marksG (K + (1 + 3 * g.2.length)) G
theorem marksG_length (K : Nat) (G : List (ByteArray × List RowV)) : (marksG K G).length = G.length := by
  induction G generalizing K with
  | nil => rfl
  | cons g G ih => simp [marksG, ih]
theorem marksRlen (K j : Nat) : (marksR K j).length = j := by simp [marksR]
theorem marksG_get {G : List (ByteArray × List RowV)} {i K : Nat} {g : ByteArray × List RowV} (h : G[i]? = some g) : (marksG K G)[i]? = some (markB (K + sizeG (G.take i)), marksR (K + sizeG (G.take i) + 1) g.2.length) := by
  induction G generalizing i K with
  | nil => simp at h
  | cons x G ih =>
    cases i with
    | zero => simp at h; subst h; simp [marksG, sizeG]
    | succ i =>
      have := ih (i := i) (K := K + (1 + 3 * x.2.length)) (by simpa using h)
      simp only [marksG, List.getElem?_cons_succ, List.take_succ_cons, sizeG]
      rw [this, show K + (1 + 3 * x.2.length) + sizeG (G.take i) = K + (1 + 3 * x.2.length + sizeG (G.take i)) by omega]
/-- The first j are marked. -/
def mixG (G : List (ByteArray × List RowV)) (j : Nat) : List (ByteArray × List RowV) := (marksG 1 G).take j ++ G.drop j
theorem mixG_zero (G : List (ByteArray × List RowV)) : mixG G 0 = G := by simp [mixG]
theorem mixG_all {G : List (ByteArray × List RowV)} {j : Nat} (h : G.length ≤ j) : mixG G j = marksG 1 G := by
  unfold mixG
  rw [List.take_of_length_le (by rw [marksG_length]; exact h), List.drop_of_length_le h, List.append_nil]
theorem mixG_len (G : List (ByteArray × List RowV)) (j : Nat) : (mixG G j).length = G.length := by
  unfold mixG
  rw [List.length_append, List.length_take, List.length_drop, marksG_length]
  omega
theorem mixG_at {G : List (ByteArray × List RowV)} {j : Nat} {g : ByteArray × List RowV} (h : G[j]? = some g) : (mixG G j)[j]? = some g := by
  have hj := (List.getElem?_eq_some_iff.1 h).1
  unfold mixG
  rw [List.getElem?_append_right (by rw [List.length_take]; omega), List.length_take, marksG_length, List.getElem?_drop, show j + (j - min j G.length) = j by omega]
  exact h
theorem mixG_set {G : List (ByteArray × List RowV)} {j : Nat} {g m : ByteArray × List RowV} (h : G[j]? = some g) (hm : (marksG 1 G)[j]? = some m) : (mixG G j).set j m = mixG G (j + 1) := by
  have hj := (List.getElem?_eq_some_iff.1 h).1
  apply List.ext_getElem?
  intro i
  by_cases e : j = i
  · subst e
    rw [List.getElem?_set_self (by rw [mixG_len]; exact hj)]
    unfold mixG
    rw [List.getElem?_append_left (by rw [List.length_take, marksG_length]; omega), List.getElem?_take_of_lt (by omega), hm]
  · rw [List.getElem?_set_ne e]
    unfold mixG
    rcases Nat.lt_or_ge i j with hi | hi
    · rw [List.getElem?_append_left (by rw [List.length_take, marksG_length]; omega), List.getElem?_append_left (by rw [List.length_take, marksG_length]; omega), List.getElem?_take_of_lt hi, List.getElem?_take_of_lt (by omega)]
    · rw [List.getElem?_append_right (by rw [List.length_take]; omega), List.getElem?_append_right (by rw [List.length_take, marksG_length]; omega), List.length_take, List.length_take, marksG_length, List.getElem?_drop, List.getElem?_drop]
      congr 1
      omega
theorem gcells_key : ∀ (gs : List (ByteArray × Value)) (i : Nat) (k k' : ByteArray) (v : Value), gs[i]? = some (k, v) → (gcells gs).set (i * 2) (.string k') = gcells (gs.set i (k', v))
  | [], _, _, _, _, h => by simp at h
  | x :: gs, 0, k, k', v, h => by
    rw [List.getElem?_cons_zero] at h
    injection h with h
    subst h
    rfl
  | x :: gs, i + 1, k, k', v, h => by
    rw [List.getElem?_cons_succ] at h
    have ih := gcells_key gs i k k' v h
    have e : gcells (x :: gs) = .string x.1 :: x.2 :: gcells gs := rfl
    rw [e, show (i + 1) * 2 = (i * 2) + 1 + 1 by omega, List.set_cons_succ, List.set_cons_succ, ih, List.set_cons_succ]
    rfl
theorem set_same {α : Type} {l : List α} {i : Nat} {x : α} (h : l[i]? = some x) : l.set i x = l := by
  apply List.ext_getElem?
  intro k
  by_cases e : i = k
  · subst e; rw [List.getElem?_set_self (List.getElem?_eq_some_iff.1 h).1, h]
  · rw [List.getElem?_set_ne e]
/-- The key of a group is stored. -/
theorem GOwn.setKey {w : World} {lo n c g p : Nat} {gs : List (ByteArray × Value)} {G : List (ByteArray × List RowV)} {k k' : ByteArray} {v : Value} {rs : List RowV} (h : GOwn w lo (some ⟨g, 0, none⟩) n c gs G) (hv : gs[p]? = some (k, v)) (hG : G[p]? = some (k, rs)) : GOwn (w.setCell ⟨g, p * 2, none⟩ (.string k')) lo (some ⟨g, 0, none⟩) n c (gs.set p (k', v)) (G.set p (k', rs)) := by
  have hgo : (Value.slice (some ⟨g, 0, none⟩) n c).ownBlock = some g := rfl
  have e1 : (gs.set p (k', v)).map (·.2) = gs.map (·.2) := by
    rw [List.map_set]
    exact set_same (by rw [List.getElem?_map, hv]; rfl)
  have e2 : (G.set p (k', rs)).map (·.2) = G.map (·.2) := by
    rw [List.map_set]
    exact set_same (by rw [List.getElem?_map, hG]; rfl)
  refine ⟨?_, by rw [List.map_set, List.map_set, h.keys], ?_, by rw [e1]; exact h.out⟩
  · rw [← gcells_key gs p k k' v hv]
    exact (h.outer.stored (p * 2) (.string k')).1
  · rw [e1, e2]
    refine ⟨h.fam.len, fun i u rs hu hr => own_other (h.fam.own i u rs hu hr) (gb_store (World.grownBy.refl w (some g)) (p * 2) (.string k')) (fun g' h1 h2 => ?_), h.fam.sep⟩
    injection h2 with h2
    exact h.out u (List.mem_of_getElem? hu) g' h1 (by rw [hgo, h2])
/-- The rows of a group are written. -/
theorem GOwn.rows {w w1 : World} {lo n c p : Nat} {a : Option Addr} {gs : List (ByteArray × Value)} {G : List (ByteArray × List RowV)} {k : ByteArray} {v : Value} {rs rs' : List RowV} (h : GOwn w lo a n c gs G) (hv : gs[p]? = some (k, v)) (hG : G[p]? = some (k, rs)) (hg : w.grownBy w1 v.ownBlock) (hM : w1.ownsRow lo 68 3 v rs'.length (flat rs')) : GOwn w1 lo a n c gs (G.set p (k, rs')) := by
  have hv1 : (gs.map (·.2))[p]? = some v := by rw [List.getElem?_map, hv]; rfl
  have hF := h.fam.set (rs' := rs') hv1 hg hM (.inl rfl)
  rw [set_same hv1] at hF
  refine ⟨own_other h.outer hg (fun g hg he => h.out _ (List.mem_of_getElem? hv1) g he hg), ?_, ?_, h.out⟩
  · rw [List.map_set, h.keys]
    exact (set_same (by rw [List.getElem?_map, hG]; rfl)).symm
  · rw [List.map_set]
    exact hF
/-- Every block of groups lies below hi. -/
def BndG (hi : Nat) (a : Option Addr) (gs : List (ByteArray × Value)) : Prop := (∀ v ∈ gs.map (·.2), ∀ g, v.ownBlock = some g → g < hi) ∧ ∀ b o, a = some ⟨b, o, none⟩ → b < hi
theorem eqGroup_same (k : ByteArray) (a b : Option Addr) (ca cb : Nat) (rs : List RowV) (w : World) (hm : rs.length ≤ 1048576) (hA : Rd w w.heap.size 3 a rs.length (flat rs)) (hB : Rd w w.heap.size 3 b rs.length (flat rs)) :
    Calls Try.prog 93 #[.agg #[.string k, .slice a rs.length ca], .agg #[.string k, .slice b rs.length cb]] w fun e w' => e = .returned (.bool true) ∧ Below w.heap.size w w' := by
  have hb2 := bl2 w (.cells #[.string k, .slice a rs.length ca] 66) (.cells #[.string k, .slice b rs.length cb] 66)
  go_enter Try.func93, Try.ntmps93
  go_wp2_with fail
  refine (eqRowS_same a b rs.length ca cb rs _ hm ((hA.below hb2 (Nat.le_refl _)).more hb2.size) ((hB.below hb2 (Nat.le_refl _)).more hb2.size)).mono ?_
  rintro e w1 ⟨rfl, hb1⟩
  go_wp2_with fail
  go_ret
  exact ⟨rfl, hb2.trans (hb1.mono hb2.size)⟩
theorem sizeG_at {G : List (ByteArray × List RowV)} {j : Nat} {g : ByteArray × List RowV} (h : G[j]? = some g) : 1 + 3 * g.2.length ≤ sizeG G := by
  have h1 := sizeG_take h
  have h2 := sizeG_le G (j + 1)
  omega
set_option maxRecDepth 100000 in
set_option maxHeartbeats 1000000 in
theorem eqGroupS_same (a b : Option Addr) (n ca cb : Nat) (G : List (ByteArray × List RowV)) (w : World) (hm : n ≤ 1048576) (hr : sizeG G ≤ 1048576) (hA : GRd w w.heap.size a n G) (hB : GRd w w.heap.size b n G) :
    Calls Try.prog 43 #[.slice a n ca, .slice b n cb] w fun e w' => e = .returned (.bool true) ∧ Below w.heap.size w w' := by
  have hl := Lib.hid hA.1
  go_enter Try.func43, Try.ntmps43
  go_wp2
  go_loopw [5] (fun i wr => ∃ k : Nat, k ≤ n ∧ i = .int .i64 k ∧ Below w.heap.size w wr) (fun i _ => n - (intOf i).toNat)
  case atStart => exact ⟨0, Nat.zero_le _, rfl, Below.refl _ _⟩
  case round =>
    obtain ⟨k, hk, rfl, hb⟩ := hrel
    by_cases hlt : k < n
    · obtain ⟨⟨key, rs⟩, hx⟩ : ∃ x, G[k]? = some x := ⟨_, List.getElem?_eq_getElem (by rw [hl.out]; exact hlt)⟩
      obtain ⟨b1, a1, c1, rfl, hB1, d0, d1, R1⟩ := (hA.below hb (Nat.le_refl _)).2 k key rs hx
      obtain ⟨b2, a2, c2, rfl, hB2, e0, e1, R2⟩ := (hB.below hb (Nat.le_refl _)).2 k key rs hx
      have hz := sizeG_at hx
      simp only at hz
      have R1' := (R1.more hb.size)
      have R2' := (R2.more hb.size)
      clear hx R1 R2
      go_wp2_with fail
      refine wp_region_still_tail 8 (by kernel_rfl) (by kernel_rfl) ?_
      simp only [List.take_succ_cons, List.take_zero, List.drop_succ_cons, List.drop_zero]
      change wpStill _ _ wr.drew _ _ _
      repeat still_step
      refine wpStill_nil ?_
      change wpList _ _ _ _ _ wr.drew
      go_wp2_with fail
      refine (eqGroup_same key a1 a2 c1 c2 rs _ (by omega) R1'.drew' R2'.drew').mono ?_
      rintro e w1 ⟨rfl, hb1⟩
      clear d0 d1 e0 e1
      go_wp2_with fail
      go_roundw
      case rel => exact ⟨k + 1, by omega, by go_num, hb.drew.trans (hb1.mono hb.size)⟩
      case measure => simp [intOf]; omega
    · go_wp2_with fail
      go_ret
      exact ⟨rfl, hb⟩
end Go.Proofs.Ytgdbpckobngmjaa

namespace Go.Proofs.Ytgdbpckobngmjaa
open Go.RowKit
def gOkAt (G : List (ByteArray × List RowV)) (j : Nat) : Bool := match G[j]? with
  | none => true
  | some g => !(decide (g.2.length = 0)) && ((decide (j = 0) || (match G[j - 1]? with
    | none => false
    | some f => Op.bytesLess f.1.toList g.1.toList)) && g.2.all (isKey g.1))
def groupsFine (G : List (ByteArray × List RowV)) : Bool := (List.range G.length).all (gOkAt G)
def OkG (G : List (ByteArray × List RowV)) (k : Nat) : Prop := ∀ j, j < k → gOkAt G j = true
theorem OkG.succ {G : List (ByteArray × List RowV)} {k : Nat} (h : OkG G k) (hk : gOkAt G k = true) : OkG G (k + 1) := fun j hj => by
  rcases Nat.lt_or_ge j k with h1 | h1
  · exact h j h1
  · obtain rfl : j = k := by omega
    exact hk
theorem gFine_no {G : List (ByteArray × List RowV)} {k : Nat} (hk : k < G.length) (h : gOkAt G k = false) : groupsFine G = false := by
  cases e : groupsFine G
  · rfl
  · have := List.all_eq_true.1 e k (List.mem_range.2 hk)
    rw [h] at this; cases this
theorem gFine_all {G : List (ByteArray × List RowV)} {k : Nat} (h : OkG G k) (hk : G.length ≤ k) : groupsFine G = true := List.all_eq_true.2 fun j hj => h j (by have := List.mem_range.1 hj; omega)
theorem gOk_empty {G : List (ByteArray × List RowV)} {k : Nat} {key : ByteArray} {rs : List RowV} (hr : G[k]? = some (key, rs)) (h : rs.length = 0) : gOkAt G k = false := by
  unfold gOkAt; rw [hr]; simp [List.length_eq_zero_iff.1 h]
theorem gOk_first {G : List (ByteArray × List RowV)} {k : Nat} {key : ByteArray} {rs : List RowV} (hk : k = 0) (hr : G[k]? = some (key, rs)) (h : rs.length ≠ 0) : gOkAt G k = rs.all (isKey key) := by
  unfold gOkAt; rw [hr]; simp only [decide_eq_false h, decide_eq_true hk, Bool.not_false, Bool.true_and, Bool.true_or]
theorem gOk_next {G : List (ByteArray × List RowV)} {k : Nat} {key key1 : ByteArray} {rs rs1 : List RowV} (hk : 0 < k) (hs : G[k - 1]? = some (key1, rs1)) (hr : G[k]? = some (key, rs)) (h : rs.length ≠ 0) : gOkAt G k = (Op.bytesLess key1.toList key.toList && rs.all (isKey key)) := by
  unfold gOkAt; rw [hr, hs]; simp only [decide_eq_false h, decide_eq_false (show ¬ k = 0 by omega), Bool.not_false, Bool.true_and, Bool.false_or]
theorem all_no {key : ByteArray} {rs : List RowV} {p : Nat} {r : RowV} (hr : rs[p]? = some r) (h : isKey key r = false) : rs.all (isKey key) = false := by
  cases e : rs.all (isKey key)
  · rfl
  · have := List.all_eq_true.1 e r (List.mem_of_getElem? hr)
    rw [h] at this; cases this
theorem all_yes {key : ByteArray} {rs : List RowV} {p : Nat} (h : ∀ j r, j < p → rs[j]? = some r → isKey key r = true) (hp : rs.length ≤ p) : rs.all (isKey key) = true := List.all_eq_true.2 fun r hr => by
  obtain ⟨j, hj⟩ := List.getElem?_of_mem hr
  exact h j r (by have := (List.getElem?_eq_some_iff.1 hj).1; omega) hj
def ungroupedB (G : List (ByteArray × List RowV)) : Bool := groupsFine G && sortedOk (G.flatMap (·.2))
def ungroupedS (G : List (ByteArray × List RowV)) : List RowV := if ungroupedB G = true then G.flatMap (·.2) else []
theorem ungrouped_no {G : List (ByteArray × List RowV)} (h : groupsFine G = false) : ungroupedB G = false ∧ ungroupedS G = [] := by
  have e : ungroupedB G = false := by unfold ungroupedB; rw [h]; rfl
  exact ⟨e, by unfold ungroupedS; rw [e]; exact if_neg (by decide)⟩
theorem ungrouped_not {G : List (ByteArray × List RowV)} (h : sortedOk (G.flatMap (·.2)) = false) : ungroupedB G = false ∧ ungroupedS G = [] := by
  have e : ungroupedB G = false := by unfold ungroupedB; rw [h, Bool.and_false]
  exact ⟨e, by unfold ungroupedS; rw [e]; exact if_neg (by decide)⟩
theorem ungrouped_yes {G : List (ByteArray × List RowV)} (h1 : groupsFine G = true) (h : sortedOk (G.flatMap (·.2)) = true) : ungroupedB G = true ∧ ungroupedS G = G.flatMap (·.2) := by
  have e : ungroupedB G = true := by unfold ungroupedB; rw [h1, h]; rfl
  exact ⟨e, by unfold ungroupedS; exact if_pos e⟩
theorem sorted_lenU {rs : List RowV} (h : sortedOk rs = true) : rs.length ≤ 120 := by
  unfold sortedOk rowsOk at h
  rw [Bool.and_eq_true, Bool.and_eq_true, decide_eq_true_eq] at h
  exact h.1.1
theorem ungroupedS_le (G : List (ByteArray × List RowV)) : (ungroupedS G).length ≤ 1048576 := by
  unfold ungroupedS
  split
  · rename_i h
    unfold ungroupedB at h
    rw [Bool.and_eq_true] at h
    have := sorted_lenU h.2
    omega
  · exact Nat.zero_le _
theorem GRd.at_ {w : World} {B n i : Nat} {a : Option Addr} {G : List (ByteArray × List RowV)} (h : GRd w B a n G) (hi : i < n) : ∃ key rs b a' c', G[i]? = some (key, rs) ∧ a = some ⟨b, 0, none⟩ ∧ b < B ∧ w.cell? ⟨b, i * 2, none⟩ = some (.string key) ∧ w.cell? ⟨b, i * 2 + 1, none⟩ = some (.slice a' rs.length c') ∧ Rd w B 3 a' rs.length (flat rs) := by
  obtain ⟨h1, h2⟩ := h
  obtain ⟨⟨key, rs⟩, hx⟩ : ∃ x, G[i]? = some x := ⟨_, List.getElem?_eq_getElem (by omega)⟩
  obtain ⟨b, a', c', h3⟩ := h2 i key rs hx
  exact ⟨key, rs, b, a', c', hx, h3⟩
theorem flat_takeG {G : List (ByteArray × List RowV)} {k : Nat} {key : ByteArray} {rs : List RowV} (h : G[k]? = some (key, rs)) : (G.take (k + 1)).flatMap (·.2) = (G.take k).flatMap (·.2) ++ rs := by
  rw [List.take_add_one, h, Option.toList_some, List.flatMap_append]
  simp
theorem flat_leG (G : List (ByteArray × List RowV)) (k : Nat) : ((G.take k).flatMap (·.2)).length ≤ (G.flatMap (·.2)).length := by
  have e : G.flatMap (·.2) = (G.take k).flatMap (·.2) ++ (G.drop k).flatMap (·.2) := by rw [← List.flatMap_append, List.take_append_drop]
  rw [e, List.length_append]; omega
def UngOut (G : List (ByteArray × List RowV)) (w : World) (e : Ending) (w' : World) : Prop := ∃ b c, e = .returned (.tuple #[.slice b (ungroupedS G).length c, .bool (ungroupedB G)]) ∧ Below w.heap.size w w' ∧ w'.ownsRow w.heap.size 68 3 (.slice b (ungroupedS G).length c) (ungroupedS G).length (flat (ungroupedS G))
theorem UngOut.no {G : List (ByteArray × List RowV)} {w w' : World} (h : ungroupedB G = false ∧ ungroupedS G = []) (hb : Below w.heap.size w w') : UngOut G w (.returned (.tuple #[.slice none 0 0, .bool false])) w' := by
  unfold UngOut
  rw [h.1, h.2]
  exact ⟨none, 0, rfl, hb, World.ownsRow_nil _ _ _ _⟩
end Go.Proofs.Ytgdbpckobngmjaa

namespace Go.Proofs.Ytgdbpckobngmjaa
open Go.RowKit
theorem drewN_belowU (w : World) : ∀ n {B : Nat}, Below B w (w.drewN n) := fun n {_} => below_drewN (Below.refl _ _) n
theorem flat_one1U (l : List RowV) : ∀ u ∈ flat l, u.oneCell' = true := by
  intro u hu
  unfold flat at hu
  obtain ⟨r, _, hr⟩ := List.mem_flatMap.1 hu
  simp only [RowV.cells, List.mem_cons, List.not_mem_nil, or_false] at hr
  rcases hr with rfl | rfl | rfl <;> rfl
def HaltU_ (p : Prop) : Prop := p
theorem haltU_ {p : Prop} (h : HaltU_ p) : p := h
theorem unhaltU_ {p : Prop} (h : p) : HaltU_ p := h
set_option maxRecDepth 100000 in
set_option maxHeartbeats 4000000 in
theorem specUngrouped_any (a : Option Addr) (n cap : Nat) (G : List (ByteArray × List RowV)) (w : World) (hn : n ≤ 1048576) (hr : (G.flatMap (·.2)).length ≤ 1048576) (hok : ∀ g ∈ G, g.1.size ≤ maxLen ∧ g.2.length ≤ maxLen ∧ ∀ r ∈ g.2, r.Ok) (hG : GRd w w.heap.size a n G) :
    Calls Try.prog 40 #[.slice a n cap] w (UngOut G w) := by
  obtain ⟨i0, hi, hz0, hz1, hz2⟩ := info_parts infoRow
  have hGl := Lib.hid hG.1
  have HRL := Lib.hid hr
  have HOK := Lib.hid hok
  have hb0 := bl1 w (.cells #[] 68)
  have O0 : (w.alloc (.cells #[] 68)).ownsRow w.heap.size 68 3 (.slice (some ⟨w.heap.size, 0, none⟩) 0 0) 0 (flat []) := World.ownsRow_lit (base := w.heap.size) (size := 3) w #[] 0 (Nat.le_refl _) (Nat.zero_le _) rfl
  clear hr hok
  go_enter Try.func40, Try.ntmps40
  go_wp2_with fail
  generalize w.alloc (.cells #[] 68) = w0 at *
  go_loopw [4, 5] (fun v i wr => ∃ (k q c : Nat) (d : Option Addr), k ≤ n ∧ i = .int .i64 k ∧ v = .slice d q c ∧ Hid (((G.take k).flatMap (·.2)).length = q) ∧ wr.ownsRow w.heap.size 68 3 (.slice d q c) q (flat ((G.take k).flatMap (·.2))) ∧ Hid (OkG G k) ∧ Below w.heap.size w wr) (fun _ i _ => n - (intOf i).toNat)
  case atStart => exact ⟨0, 0, 0, _, Nat.zero_le _, rfl, rfl, Lib.hid (by simp), by simpa using O0, Lib.hid (fun j h => absurd h (by omega)), hb0⟩
  case round =>
    obtain ⟨k, q, c, d, hk, rfl, rfl, HQ, O, HO, hb⟩ := hrel
    clear O0 hb0
    by_cases hlt : k < n
    · obtain ⟨key, rs, b, xa, xc, hx, rfl, hB, c0, c1, R⟩ := (hG.below hb (Nat.le_refl _)).at_ hlt
      have HX := Lib.hid hx
      obtain ⟨hks, hrs, hro⟩ := HOK.out _ (List.mem_of_getElem? hx)
      simp only at hks hrs hro
      have hB2 : b < wr.heap.size := Nat.lt_of_lt_of_le hB hb.size
      by_cases h0 : rs.length = 0
      · have E := ungrouped_no (gFine_no (k := k) (by rw [hGl.out]; exact hlt) (gOk_empty hx h0))
        clear hx
        rw [h0] at c1
        go_wp2_with fail
        go_quiet (fail)
        have b9 := hb.trans (drewN_belowU wr nq)
        generalize wr.drewN nq = w1 at *
        go_wp2_with fail
        go_ret2
        exact UngOut.no E b9
      have hn0 : (rs.length == 0) = false := by rw [beq_eq_false_iff_ne]; exact h0
      have hn1 : ((rs.length : Int) == 0) = false := by rw [beq_eq_false_iff_ne]; omega
      obtain ⟨bp, hbp, key1, hp⟩ : ∃ bp : Bool, bp = decide (0 < k) ∧ ∃ key1 : ByteArray, 0 < k → ∃ rs1, G[k - 1]? = some (key1, rs1) ∧ wr.cell? ⟨b, (k - 1) * 2, none⟩ = some (.string key1) := by
        refine ⟨_, rfl, ?_⟩
        rcases Nat.eq_zero_or_pos k with hk0 | hk0
        · exact ⟨key, fun h => absurd h (by omega)⟩
        · obtain ⟨key1, rs1, b', xa', xc', hx1, e', _, p0, _, _⟩ := (hG.below hb (Nat.le_refl _)).at_ (show k - 1 < n by omega)
          injection e' with e1
          injection e1 with e2
          subst e2
          exact ⟨key1, fun _ => ⟨rs1, hx1, p0⟩⟩
      by_cases hbad : 0 < k ∧ Op.bytesLess key1.toList key.toList = false
      · obtain ⟨hk0, hd⟩ := hbad
        obtain ⟨rs1, hx1, p0⟩ := hp hk0
        have E := ungrouped_no (gFine_no (k := k) (by rw [hGl.out]; exact hlt) (by rw [gOk_next hk0 hx1 hx h0, hd, Bool.false_and]))
        obtain ⟨q1, hq2, hq1⟩ : ∃ q1 : Nat, q1 = k - 1 ∧ IntKind.i64.wrap ((k : Int) - 1) = (q1 : Int) := ⟨k - 1, rfl, by rw [IntWalk.i64_in _ (by omega)]; omega⟩
        rw [← hq2] at p0
        have hq3 : q1 < n := by omega
        clear hx hx1 hp hbp hq2
        go_wp2_with fail
        go_quiet (fail)
        have b9 := hb.trans (drewN_belowU wr nq)
        generalize wr.drewN nq = w1 at *
        go_wp2_with fail
        go_ret2
        exact UngOut.no E b9
      obtain ⟨hgo, hless⟩ : gOkAt G k = rs.all (isKey key) ∧ (0 < k → Op.bytesLess key1.toList key.toList = true) := by
        rcases Nat.eq_zero_or_pos k with hk0 | hk0
        · exact ⟨gOk_first hk0 hx h0, fun h => absurd h (by omega)⟩
        · have hd : Op.bytesLess key1.toList key.toList = true := by
            cases hd : Op.bytesLess key1.toList key.toList
            · exact absurd ⟨hk0, hd⟩ hbad
            · rfl
          obtain ⟨rs1, hx1, _⟩ := hp hk0
          exact ⟨by rw [gOk_next hk0 hx1 hx h0, hd, Bool.true_and], fun _ => hd⟩
      have HGO := Lib.hid hgo
      have HFT := Lib.hid (flat_takeG hx)
      have hfl := flat_leG G (k + 1)
      rw [HFT.out, List.length_append, HQ.out] at hfl
      have hfl2 := HRL.out
      clear hx hgo hbad
      rcases Nat.eq_zero_or_pos k with hk0 | hk0
      · subst hk0
        simp only [Nat.zero_mul, Nat.zero_add] at c0 c1
        clear hp hless
        go_wp2_with fail
        go_quiet (fail)
        have b9 := hb.trans (drewN_belowU wr nq)
        have c0' := ((drewN_belowU wr nq (B := w.heap.size)).cell (p := ⟨b, 0, none⟩) hB).trans c0
        have c1' := ((drewN_belowU wr nq (B := w.heap.size)).cell (p := ⟨b, 1, none⟩) hB).trans c1
        have R' := R.below (drewN_belowU wr nq (B := w.heap.size)) (Nat.le_refl _)
        have O' := own_below O (drewN_belowU wr nq)
        clear c0 c1 R O hb 
        generalize wr.drewN nq = w1 at *
        go_wp2_with fail
        go_loopw [6] (fun i wx => ∃ p : Nat, p ≤ rs.length ∧ i = .int .i64 p ∧ Hid (∀ j r, j < p → rs[j]? = some r → isKey key r = true) ∧ Below w1.heap.size w1 wx) (fun i _ => rs.length - (intOf i).toNat)
        case atStart => exact ⟨0, Nat.zero_le _, rfl, Lib.hid (fun j r h => absurd h (by omega)), Below.refl _ _⟩
        case round =>
          obtain ⟨p, hp, rfl, HK, hx1⟩ := hrel
          have hB3 : b < w1.heap.size := Nat.lt_of_lt_of_le hB b9.size
          have e0 := (hx1.cell (p := ⟨b, 0, none⟩) hB3).trans c0'
          have e1 := (hx1.cell (p := ⟨b, 1, none⟩) hB3).trans c1'
          by_cases hlp : p < rs.length
          · obtain ⟨rb, ro, r, rfl, hrB, hrr, f0, _, _⟩ := (R'.below (hx1.mono b9.size) (Nat.le_refl _)).row hlp
            obtain ⟨rk, rt, rv⟩ := r
            simp only at f0
            cases hik : isKey key ⟨rk, rt, rv⟩
            · have E := ungrouped_no (gFine_no (k := 0) (by rw [hGl.out]; exact hlt) (by rw [HGO.out]; exact all_no hrr hik))
              have hne : (rk.toList == key.toList) = false := hik
              clear hrr hik
              go_wp2_with fail
              go_quiet (fail)
              have b8 := (b9.trans (hx1.mono b9.size)).trans (drewN_belowU wr nq)
              generalize wr.drewN nq = w2 at *
              go_wp2_with fail
              go_ret2
              exact UngOut.no E b8
            · have hke : rk = key := isKey_iff.1 hik
              have HK2 := Lib.hid (show ∀ j r, j < p + 1 → rs[j]? = some r → isKey key r = true from fun j r hj hr => by
                rcases Nat.lt_or_ge j p with h1 | h1
                · exact HK.out j r h1 hr
                · obtain rfl : j = p := by omega
                  rw [hrr] at hr; injection hr with hr; subst hr; exact hik)
              clear hrr hik
              subst hke
              go_wp2_with fail
              go_quiet (fail)
              have b8 := hx1.trans (drewN_belowU wr nq)
              generalize wr.drewN nq = w2 at *
              clear f0 e0 e1
              go_wp2_with fail
              go_roundw
              case rel => exact ⟨p + 1, by omega, by go_num, HK2, b8⟩
              case measure => simp [intOf]; omega
          · have hgt := HGO.out.trans (all_yes (p := p) HK.out (by omega))
            have HO2 := Lib.hid (HO.out.succ hgt)
            have b8 := b9.trans (hx1.mono b9.size)
            have O2 := own_below O' hx1
            have R2 := (R'.below (hx1.mono b9.size) (Nat.le_refl _)).more b8.size
            have HQ2 := Lib.hid (show ((G.take (0 + 1)).flatMap (·.2)).length = q + rs.length by rw [HFT.out, List.length_append, HQ.out])
            have hq1' : q + rs.length ≤ maxLen := by unfold maxLen; omega
            have hq2' : (q + rs.length) * 40 ≤ 140737488355328 := by omega
            have hsz := b8.size
            go_wp2_with (at_builtin; refine wpList_append_rd rfl _ _ 27 rfl w.heap.size 68 i0 (.agg #[.string ⟨#[]⟩, .int .i64 0, .string ⟨#[]⟩]) 3 40 Try.underlying27 hi hz0 hz1 hz2 rfl (by decide) (.slice d q c) q (flat ((G.take 0).flatMap (·.2))) rfl O2 xa _ rs.length xc (flat rs) rfl R2 (flat_one1U _) hq1' hq2' hsz ?_; intro v' w3 hO3 hg3 hat; refine haltU_ ?_)
            refine unhaltU_ ?_
            have hb3 : Below w.heap.size w w3 := b8.grown hg3 b8.size (fun g e => (own_ge O2 g e).1)
            obtain ⟨d3, c3, rfl⟩ := own_slice' hO3
            have O3 : w3.ownsRow w.heap.size 68 3 (.slice d3 (q + rs.length) c3) (q + rs.length) (flat ((G.take (0 + 1)).flatMap (·.2))) := by rw [HFT.out, flat_append]; exact hO3
            clear hO3 hg3 hat O2 R2 O' R' HK HO hx1 e0 e1
            go_wp2_with fail
            go_roundw
            case rel => exact ⟨0 + 1, q + rs.length, c3, d3, by omega, by go_num, rfl, HQ2, O3, HO2, hb3⟩
            case measure => simp [intOf]; omega
      · obtain ⟨rs1, hx1, p0⟩ := hp hk0
        have hd := hless hk0
        obtain ⟨q1, hq2, hq1⟩ : ∃ q1 : Nat, q1 = k - 1 ∧ IntKind.i64.wrap ((k : Int) - 1) = (q1 : Int) := ⟨k - 1, rfl, by rw [IntWalk.i64_in _ (by omega)]; omega⟩
        rw [← hq2] at p0
        have hq3 : q1 < n := by omega
        clear hx1 hp hless hbp hq2
        go_wp2_with fail
        go_quiet (fail)
        have b9 := hb.trans (drewN_belowU wr nq)
        have c0' := ((drewN_belowU wr nq (B := w.heap.size)).cell (p := ⟨b, k * 2, none⟩) hB).trans c0
        have c1' := ((drewN_belowU wr nq (B := w.heap.size)).cell (p := ⟨b, k * 2 + 1, none⟩) hB).trans c1
        have R' := R.below (drewN_belowU wr nq (B := w.heap.size)) (Nat.le_refl _)
        have O' := own_below O (drewN_belowU wr nq)
        clear c0 c1 R O hb p0 hd
        generalize wr.drewN nq = w1 at *
        go_wp2_with fail
        go_loopw [6] (fun i wx => ∃ p : Nat, p ≤ rs.length ∧ i = .int .i64 p ∧ Hid (∀ j r, j < p → rs[j]? = some r → isKey key r = true) ∧ Below w1.heap.size w1 wx) (fun i _ => rs.length - (intOf i).toNat)
        case atStart => exact ⟨0, Nat.zero_le _, rfl, Lib.hid (fun j r h => absurd h (by omega)), Below.refl _ _⟩
        case round =>
          obtain ⟨p, hp, rfl, HK, hx1⟩ := hrel
          have hB3 : b < w1.heap.size := Nat.lt_of_lt_of_le hB b9.size
          have e0 := (hx1.cell (p := ⟨b, k * 2, none⟩) hB3).trans c0'
          have e1 := (hx1.cell (p := ⟨b, k * 2 + 1, none⟩) hB3).trans c1'
          by_cases hlp : p < rs.length
          · obtain ⟨rb, ro, r, rfl, hrB, hrr, f0, _, _⟩ := (R'.below (hx1.mono b9.size) (Nat.le_refl _)).row hlp
            obtain ⟨rk, rt, rv⟩ := r
            simp only at f0
            cases hik : isKey key ⟨rk, rt, rv⟩
            · have E := ungrouped_no (gFine_no (k := k) (by rw [hGl.out]; exact hlt) (by rw [HGO.out]; exact all_no hrr hik))
              have hne : (rk.toList == key.toList) = false := hik
              clear hrr hik
              go_wp2_with fail
              go_quiet (fail)
              have b8 := (b9.trans (hx1.mono b9.size)).trans (drewN_belowU wr nq)
              generalize wr.drewN nq = w2 at *
              go_wp2_with fail
              go_ret2
              exact UngOut.no E b8
            · have hke : rk = key := isKey_iff.1 hik
              have HK2 := Lib.hid (show ∀ j r, j < p + 1 → rs[j]? = some r → isKey key r = true from fun j r hj hr => by
                rcases Nat.lt_or_ge j p with h1 | h1
                · exact HK.out j r h1 hr
                · obtain rfl : j = p := by omega
                  rw [hrr] at hr; injection hr with hr; subst hr; exact hik)
              clear hrr hik
              subst hke
              go_wp2_with fail
              go_quiet (fail)
              have b8 := hx1.trans (drewN_belowU wr nq)
              generalize wr.drewN nq = w2 at *
              clear f0 e0 e1
              go_wp2_with fail
              go_roundw
              case rel => exact ⟨p + 1, by omega, by go_num, HK2, b8⟩
              case measure => simp [intOf]; omega
          · have hgt := HGO.out.trans (all_yes (p := p) HK.out (by omega))
            have HO2 := Lib.hid (HO.out.succ hgt)
            have b8 := b9.trans (hx1.mono b9.size)
            have O2 := own_below O' hx1
            have R2 := (R'.below (hx1.mono b9.size) (Nat.le_refl _)).more b8.size
            have HQ2 := Lib.hid (show ((G.take (k + 1)).flatMap (·.2)).length = q + rs.length by rw [HFT.out, List.length_append, HQ.out])
            have hq1' : q + rs.length ≤ maxLen := by unfold maxLen; omega
            have hq2' : (q + rs.length) * 40 ≤ 140737488355328 := by omega
            have hsz := b8.size
            go_wp2_with (at_builtin; refine wpList_append_rd rfl _ _ 27 rfl w.heap.size 68 i0 (.agg #[.string ⟨#[]⟩, .int .i64 0, .string ⟨#[]⟩]) 3 40 Try.underlying27 hi hz0 hz1 hz2 rfl (by decide) (.slice d q c) q (flat ((G.take k).flatMap (·.2))) rfl O2 xa _ rs.length xc (flat rs) rfl R2 (flat_one1U _) hq1' hq2' hsz ?_; intro v' w3 hO3 hg3 hat; refine haltU_ ?_)
            refine unhaltU_ ?_
            have hb3 : Below w.heap.size w w3 := b8.grown hg3 b8.size (fun g e => (own_ge O2 g e).1)
            obtain ⟨d3, c3, rfl⟩ := own_slice' hO3
            have O3 : w3.ownsRow w.heap.size 68 3 (.slice d3 (q + rs.length) c3) (q + rs.length) (flat ((G.take (k + 1)).flatMap (·.2))) := by rw [HFT.out, flat_append]; exact hO3
            clear hO3 hg3 hat O2 R2 O' R' HK HO hx1 e0 e1
            go_wp2_with fail
            go_roundw
            case rel => exact ⟨k + 1, q + rs.length, c3, d3, by omega, by go_num, rfl, HQ2, O3, HO2, hb3⟩
            case measure => simp [intOf]; omega
    · obtain rfl : k = n := by omega
      have hall : (G.take k).flatMap (·.2) = G.flatMap (·.2) := by rw [List.take_of_length_le (by rw [hGl.out]; omega)]
      rw [hall] at HQ O
      have hfine := gFine_all HO.out (by rw [hGl.out]; omega)
      have hokF : ∀ r ∈ G.flatMap (·.2), r.Ok := fun r hr => by
        obtain ⟨g, hg, hgr⟩ := List.mem_flatMap.1 hr
        exact (HOK.out g hg).2.2 r hgr
      have hql : q ≤ 1048576 := by have := HRL.out; rw [HQ.out] at this; exact this
      have CS := specSortedOk_any d q c (G.flatMap (·.2)) wr hql hokF (Rd.of_own O)
      have HQ2 := Lib.hid HQ.out
      cases hso : sortedOk (G.flatMap (·.2))
      · rw [hso] at CS
        have E := ungrouped_not hso
        clear hall HQ HO
        go_wp2_with fail
        refine CS.mono ?_
        rintro e w5 ⟨rfl, hb5⟩
        have b9 := hb.trans (hb5.mono hb.size)
        go_wp2_with fail
        go_ret2
        exact UngOut.no E b9
      · rw [hso] at CS
        obtain ⟨E1, E2⟩ := ungrouped_yes hfine hso
        clear hall HQ HO
        go_wp2_with fail
        refine CS.mono ?_
        rintro e w5 ⟨rfl, hb5⟩
        have b9 := hb.trans (hb5.mono hb.size)
        have O5 := own_below O hb5
        go_wp2_with fail
        go_ret2
        unfold UngOut
        rw [E1, E2, HQ2.out]
        exact ⟨d, c, rfl, b9, O5⟩
end Go.Proofs.Ytgdbpckobngmjaa

namespace Go.Proofs.Ytgdbpckobngmjaa
open Go.RowKit
def FnOn (F B : Nat) (p : RowV → Bool) (rs : List RowV) (w : World) : Prop := ∀ (r : RowV) (W : World), r ∈ rs → Below w.heap.size w W → Calls Try.prog F #[.agg #[.string r.key, .int .i64 r.tag, .string r.val], .pointer (some ⟨B, 0, none⟩)] W fun e W' => e = .returned (.bool (p r)) ∧ Below W.heap.size W W'
set_option maxRecDepth 100000 in
set_option maxHeartbeats 1000000 in
theorem indexFunc_any (F B : Nat) (p : RowV → Bool) (a : Option Addr) (n cap : Nat) (rs : List RowV) (w : World) (hm : n ≤ 1048576) (hR : Rd w w.heap.size 3 a n (flat rs)) (eg : ∀ args w, (callFunc F args).run Try.prog w = .ok (.enter F args) w) (hC : FnOn F B p rs w) :
    Calls Try.prog 145 #[.slice a n cap, .func (.func F) #[] #[.pointer (some ⟨B, 0, none⟩)]] w fun e w' => ∃ z : Int, e = .returned (.int .i64 z) ∧ -1 ≤ z ∧ z ≤ 1048576 ∧ decide (0 ≤ z) = rs.any p ∧ Below w.heap.size w w' := by
  have hl := Lib.hid hR.rows_length
  go_enter Try.func145, Try.ntmps145
  go_wp2
  go_loopw [5, 8] (fun _ i wr => ∃ k : Nat, k ≤ n ∧ i = .int .i64 k ∧ Hid (∀ j r, j < k → rs[j]? = some r → p r = false) ∧ Below w.heap.size w wr) (fun _ i _ => n - (intOf i).toNat)
  case atStart => exact ⟨0, Nat.zero_le _, rfl, Lib.hid (fun j r h => absurd h (by omega)), Below.refl _ _⟩
  case round =>
    obtain ⟨k, hk, rfl, HK, hb⟩ := hrel
    by_cases hlt : k < n
    · obtain ⟨b, off, r, rfl, hB, hr, c0, c1, c2⟩ := (hR.below hb (Nat.le_refl _)).row hlt
      have C := hC r wr (List.mem_of_getElem? hr) hb
      have Hr := Lib.hid hr
      cases hp : p r
      · rw [hp] at C
        have HK2 := Lib.hid (show ∀ j r, j < k + 1 → rs[j]? = some r → p r = false from fun j s hj hs => by
          rcases Nat.lt_or_ge j k with h1 | h1
          · exact HK.out j s h1 hs
          · obtain rfl : j = k := by omega
            rw [hr] at hs; injection hs with hs; subst hs; exact hp)
        clear hr hp
        obtain ⟨rk, rt, rv⟩ := r
        simp only at c0 c1 c2 C
        go_wp2_with fail
        refine C.mono ?_
        rintro e w1 ⟨rfl, hb1⟩
        have b9 := hb.trans (hb1.mono hb.size)
        clear c0 c1 c2 C
        go_wp2_with fail
        go_roundw
        case rel => exact ⟨k + 1, by omega, by go_num, HK2, b9⟩
        case measure => simp [intOf]; omega
      · rw [hp] at C
        have hany : rs.any p = true := List.any_eq_true.2 ⟨r, List.mem_of_getElem? hr, hp⟩
        clear hr hp
        obtain ⟨rk, rt, rv⟩ := r
        simp only at c0 c1 c2 C
        go_wp2_with fail
        refine C.mono ?_
        rintro e w1 ⟨rfl, hb1⟩
        have b9 := hb.trans (hb1.mono hb.size)
        clear c0 c1 c2 C
        go_wp2_with fail
        go_ret
        exact ⟨(k : Int), rfl, by omega, by omega, by rw [hany]; simp, b9⟩
    · have hany : rs.any p = false := by
        cases e : rs.any p
        · rfl
        · obtain ⟨r, hr, hpr⟩ := List.any_eq_true.1 e
          obtain ⟨j, hj⟩ := List.getElem?_of_mem hr
          have := HK.out j r (by have := (List.getElem?_eq_some_iff.1 hj).1; rw [hl.out] at this; omega) hj
          rw [this] at hpr; cases hpr
      go_wp2_with fail
      go_ret
      exact ⟨-1, rfl, by omega, by omega, by rw [hany]; rfl, hb⟩
set_option maxRecDepth 100000 in
theorem containsFunc_any (F B : Nat) (p : RowV → Bool) (a : Option Addr) (n cap : Nat) (rs : List RowV) (w : World) (hm : n ≤ 1048576) (hR : Rd w w.heap.size 3 a n (flat rs)) (eg : ∀ args w, (callFunc F args).run Try.prog w = .ok (.enter F args) w) (hC : FnOn F B p rs w) :
    Calls Try.prog 126 #[.slice a n cap, .func (.func F) #[] #[.pointer (some ⟨B, 0, none⟩)]] w fun e w' => e = .returned (.bool (rs.any p)) ∧ Below w.heap.size w w' := by
  have C := indexFunc_any F B p a n cap rs w hm hR eg hC
  go_enter Try.func126, Try.ntmps126
  go_wp2_with fail
  refine C.mono ?_
  rintro e w1 ⟨z, rfl, hz1, hz2, hz, hb⟩
  go_wp2_with fail
  go_ret
  exact ⟨rfl, hb⟩
end Go.Proofs.Ytgdbpckobngmjaa

namespace Go.Proofs.Ytgdbpckobngmjaa
open Go.RowKit
theorem isKey_data (key : ByteArray) (rk : ByteArray) (rt : Int) (rv : ByteArray) : isKey key ⟨rk, rt, rv⟩ = (rk.toList == key.toList) := rfl
theorem grpFn_any (B : Nat) (key : ByteArray) (r : RowV) (w : World) (hc : w.cell? ⟨B, 0, none⟩ = some (.string key)) (hB : B < w.heap.size) :
    Calls Try.prog 127 #[.agg #[.string r.key, .int .i64 r.tag, .string r.val], .pointer (some ⟨B, 0, none⟩)] w fun e w' => e = .returned (.bool (!(isKey key r))) ∧ Below w.heap.size w w' := by
  have hb := bl1 w (.cells #[.string r.key, .int .i64 r.tag, .string r.val] 68)
  have c1 := (hb.cell (p := ⟨B, 0, none⟩) hB).trans hc
  obtain ⟨rk, rt, rv⟩ := r
  simp only at hb c1
  rw [isKey_data]
  go_enter Try.func127, Try.ntmps127
  go_wp2_with fail
  go_ret
  exact ⟨rfl, hb⟩
theorem any_not (key : ByteArray) (rs : List RowV) : rs.any (fun r => !(isKey key r)) = !(rs.all (isKey key)) := by
  induction rs with
  | nil => rfl
  | cons r rs ih => rw [List.any_cons, List.all_cons, ih, Bool.not_and]
theorem grp_enter (args : Array Value) (w : World) : (callFunc 127 args).run Try.prog w = .ok (.enter 127 args) w := by kernel_rfl
set_option maxRecDepth 100000 in
set_option maxHeartbeats 4000000 in
theorem implGroupsOk_any (a : Option Addr) (n cap : Nat) (G : List (ByteArray × List RowV)) (w : World) (hn : n ≤ 1048576) (hok : ∀ g ∈ G, g.2.length ≤ 1048576) (hG : GRd w w.heap.size a n G) :
    Calls Try.prog 92 #[.slice a n cap] w fun e w' => e = .returned (.bool (groupsFine G)) ∧ Below w.heap.size w w' := by
  have hGl := Lib.hid hG.1
  have HOK := Lib.hid hok
  clear hok
  go_enter Try.func92, Try.ntmps92
  go_wp2
  go_loopw [3, 4, 7] (fun _ _ i wr => ∃ k : Nat, k ≤ n ∧ i = .int .i64 k ∧ Hid (OkG G k) ∧ Below w.heap.size w wr) (fun _ _ i _ => n - (intOf i).toNat)
  case atStart => exact ⟨0, Nat.zero_le _, rfl, Lib.hid (fun j h => absurd h (by omega)), Below.refl _ _⟩
  case round =>
    obtain ⟨k, hk, rfl, HO, hb⟩ := hrel
    by_cases hlt : k < n
    · obtain ⟨key, rs, b, xa, xc, hx, rfl, hB, c0, c1, R⟩ := (hG.below hb (Nat.le_refl _)).at_ hlt
      have hrs := HOK.out _ (List.mem_of_getElem? hx)
      simp only at hrs
      have hba := bl1 wr (.cells #[.string key, .slice xa rs.length xc] 66)
      have b1 := hb.trans (hba.mono hb.size)
      have g0 : (wr.alloc (.cells #[.string key, .slice xa rs.length xc] 66)).cell? ⟨wr.heap.size, 0, none⟩ = some (.string key) := by simp [go_sem]
      have g1 : (wr.alloc (.cells #[.string key, .slice xa rs.length xc] 66)).cell? ⟨wr.heap.size, 1, none⟩ = some (.slice xa rs.length xc) := by simp [go_sem]
      have hB1 : b < wr.heap.size := Nat.lt_of_lt_of_le hB hb.size
      have d0 := (hba.cell (p := ⟨b, k * 2, none⟩) hB1).trans c0
      have R1 := (R.below (hba.mono hb.size) (Nat.le_refl _)).more b1.size
      have hgs : wr.heap.size < (wr.alloc (.cells #[.string key, .slice xa rs.length xc] 66)).heap.size := by simp
      have HX := Lib.hid hx
      rcases Nat.eq_zero_or_pos k with hk0 | hk0
      · subst hk0
        simp only [Nat.zero_mul, Nat.zero_add] at c0 c1 d0
        by_cases h0 : rs.length = 0
        · have e0 : ((rs.length : Int) == 0) = true := by rw [h0]; rfl
          have E := gFine_no (k := 0) (by rw [hGl.out]; exact hlt) (gOk_empty hx h0)
          clear hx R R1 HO HX h0
          go_wp2_with fail
          generalize wr.alloc (.cells #[.string key, .slice xa rs.length xc] 66) = w1 at *
          go_quiet (fail)
          have b9 := b1.trans (drewN_belowU w1 nq)
          generalize w1.drewN nq = w2 at *
          go_wp2_with fail
          go_ret
          exact ⟨ret_bool E.symm, b9⟩
        · have e0 : ((rs.length : Int) == 0) = false := by rw [beq_eq_false_iff_ne]; omega
          have e1 : (rs.length == 0) = false := by rw [beq_eq_false_iff_ne]; exact h0
          have HGO := Lib.hid (show gOkAt G 0 = rs.all (isKey key) from gOk_first rfl hx h0)
          clear hx
          go_wp2_with fail
          generalize wr.alloc (.cells #[.string key, .slice xa rs.length xc] 66) = w1 at *
          go_quiet (fail)
          have b9 := b1.trans (drewN_belowU w1 nq)
          have g0' := ((drewN_belowU w1 nq (B := w1.heap.size)).cell (p := ⟨wr.heap.size, 0, none⟩) hgs).trans g0
          have g1' := ((drewN_belowU w1 nq (B := w1.heap.size)).cell (p := ⟨wr.heap.size, 1, none⟩) hgs).trans g1
          have R2 := (R1.below (drewN_belowU w1 nq) (Nat.le_refl _)).more (drewN_belowU w1 nq (B := w1.heap.size)).size
          have hgs' := Nat.lt_of_lt_of_le hgs (drewN_belowU w1 nq (B := w1.heap.size)).size
          clear c0 c1 d0 g0 g1 R R1 b1 hba
          generalize w1.drewN nq = w2 at *
          have CC := containsFunc_any 127 wr.heap.size (fun r => !(isKey key r)) xa rs.length xc rs w2 hrs R2 grp_enter (fun r W _ hbW => grpFn_any wr.heap.size key r W ((hbW.cell (p := ⟨wr.heap.size, 0, none⟩) hgs').trans g0') (Nat.lt_of_lt_of_le hgs' hbW.size))
          rw [any_not] at CC
          cases hall : rs.all (isKey key)
          · rw [hall] at CC
            have E := gFine_no (k := 0) (by rw [hGl.out]; exact hlt) (HGO.out.trans hall)
            clear HO hall
            go_wp2_with fail
            refine CC.mono ?_
            rintro e w3 ⟨rfl, hb3⟩
            have b8 := b9.trans (hb3.mono b9.size)
            go_wp2_with fail
            go_ret
            exact ⟨ret_bool E.symm, b8⟩
          · rw [hall] at CC
            have HO2 := Lib.hid (HO.out.succ (HGO.out.trans hall))
            clear HO hall
            go_wp2_with fail
            refine CC.mono ?_
            rintro e w3 ⟨rfl, hb3⟩
            have b8 := b9.trans (hb3.mono b9.size)
            go_wp2_with fail
            go_roundw
            case rel => exact ⟨0 + 1, by omega, by go_num, HO2, b8⟩
            case measure => simp [intOf]; omega
      · obtain ⟨key1, rs1, b', xa', xc', hx1, e', _, p0', _, _⟩ := (hG.below hb (Nat.le_refl _)).at_ (show k - 1 < n by omega)
        obtain rfl : b = b' := by injection e' with e1; injection e1
        have p0 := (hba.cell (p := ⟨b, (k - 1) * 2, none⟩) hB1).trans p0'
        obtain ⟨q1, hq2, hq1⟩ : ∃ q1 : Nat, q1 = k - 1 ∧ IntKind.i64.wrap ((k : Int) - 1) = (q1 : Int) := ⟨k - 1, rfl, by rw [IntWalk.i64_in _ (by omega)]; omega⟩
        have HX1 := Lib.hid hx1
        rw [← hq2] at p0
        have hq3 : q1 < n := by omega
        clear hq2 p0' e' hx1
        cases hd : Op.bytesLess key1.toList key.toList
        · have E0 : gOkAt G k = false := by
            by_cases h0 : rs.length = 0
            · exact gOk_empty hx h0
            · rw [gOk_next hk0 HX1.out hx h0, hd, Bool.false_and]
          have E := gFine_no (k := k) (by rw [hGl.out]; exact hlt) E0
          clear hx R R1 HO HX
          go_wp2_with fail
          generalize wr.alloc (.cells #[.string key, .slice xa rs.length xc] 66) = w1 at *
          go_quiet (fail)
          have b9 := b1.trans (drewN_belowU w1 nq)
          generalize w1.drewN nq = w2 at *
          go_wp2_with fail
          go_ret
          exact ⟨ret_bool E.symm, b9⟩
        · by_cases h0 : rs.length = 0
          · have e0 : ((rs.length : Int) == 0) = true := by rw [h0]; rfl
            have E := gFine_no (k := k) (by rw [hGl.out]; exact hlt) (gOk_empty hx h0)
            clear hx R R1 HO HX h0
            go_wp2_with fail
            generalize wr.alloc (.cells #[.string key, .slice xa rs.length xc] 66) = w1 at *
            go_quiet (fail)
            have b9 := b1.trans (drewN_belowU w1 nq)
            generalize w1.drewN nq = w2 at *
            go_wp2_with fail
            go_ret
            exact ⟨ret_bool E.symm, b9⟩
          · have e0 : ((rs.length : Int) == 0) = false := by rw [beq_eq_false_iff_ne]; omega
            have e1 : (rs.length == 0) = false := by rw [beq_eq_false_iff_ne]; exact h0
            have HGO := Lib.hid (show gOkAt G k = rs.all (isKey key) from by rw [gOk_next hk0 HX1.out hx h0, hd, Bool.true_and])
            clear hx
            go_wp2_with fail
            generalize wr.alloc (.cells #[.string key, .slice xa rs.length xc] 66) = w1 at *
            go_quiet (fail)
            have b9 := b1.trans (drewN_belowU w1 nq)
            have g0' := ((drewN_belowU w1 nq (B := w1.heap.size)).cell (p := ⟨wr.heap.size, 0, none⟩) hgs).trans g0
            have g1' := ((drewN_belowU w1 nq (B := w1.heap.size)).cell (p := ⟨wr.heap.size, 1, none⟩) hgs).trans g1
            have R2 := (R1.below (drewN_belowU w1 nq) (Nat.le_refl _)).more (drewN_belowU w1 nq (B := w1.heap.size)).size
            have hgs' := Nat.lt_of_lt_of_le hgs (drewN_belowU w1 nq (B := w1.heap.size)).size
            clear c0 c1 d0 g0 g1 R R1 p0 b1 hba
            generalize w1.drewN nq = w2 at *
            have CC := containsFunc_any 127 wr.heap.size (fun r => !(isKey key r)) xa rs.length xc rs w2 hrs R2 grp_enter (fun r W _ hbW => grpFn_any wr.heap.size key r W ((hbW.cell (p := ⟨wr.heap.size, 0, none⟩) hgs').trans g0') (Nat.lt_of_lt_of_le hgs' hbW.size))
            rw [any_not] at CC
            cases hall : rs.all (isKey key)
            · rw [hall] at CC
              have E := gFine_no (k := k) (by rw [hGl.out]; exact hlt) (HGO.out.trans hall)
              clear HO hall
              go_wp2_with fail
              refine CC.mono ?_
              rintro e w3 ⟨rfl, hb3⟩
              have b8 := b9.trans (hb3.mono b9.size)
              go_wp2_with fail
              go_ret
              exact ⟨ret_bool E.symm, b8⟩
            · rw [hall] at CC
              have HO2 := Lib.hid (HO.out.succ (HGO.out.trans hall))
              clear HO hall
              go_wp2_with fail
              refine CC.mono ?_
              rintro e w3 ⟨rfl, hb3⟩
              have b8 := b9.trans (hb3.mono b9.size)
              go_wp2_with fail
              go_roundw
              case rel => exact ⟨k + 1, by omega, by go_num, HO2, b8⟩
              case measure => simp [intOf]; omega
    · have E := gFine_all HO.out (by rw [hGl.out]; omega)
      go_wp2_with fail
      go_ret
      exact ⟨ret_bool E.symm, hb⟩
set_option maxRecDepth 100000 in
set_option maxHeartbeats 4000000 in
theorem implUngrouped_any (a : Option Addr) (n cap : Nat) (G : List (ByteArray × List RowV)) (w : World) (hn : n ≤ 1048576) (hr : (G.flatMap (·.2)).length ≤ 1048576) (hok : ∀ g ∈ G, g.1.size ≤ maxLen ∧ g.2.length ≤ maxLen ∧ ∀ r ∈ g.2, r.Ok) (hG : GRd w w.heap.size a n G) :
    Calls Try.prog 42 #[.slice a n cap] w (UngOut G w) := by
  obtain ⟨i0, hi, hz0, hz1, hz2⟩ := info_parts infoRow
  have hlens : ∀ g ∈ G, g.2.length ≤ 1048576 := fun g hg => by
    obtain ⟨j, hj⟩ := List.getElem?_of_mem hg
    have h1 := flat_takeG (k := j) (key := g.1) (rs := g.2) hj
    have h2 := flat_leG G (j + 1)
    rw [h1, List.length_append] at h2
    omega
  have CG := implGroupsOk_any a n cap G w hn hlens hG
  have hGl := Lib.hid hG.1
  have HRL := Lib.hid hr
  have HOK := Lib.hid hok
  clear hr hok hlens
  cases hfine : groupsFine G
  · rw [hfine] at CG
    have E := ungrouped_no hfine
    clear hfine
    go_enter Try.func42, Try.ntmps42
    go_wp2_with fail
    refine CG.mono ?_
    rintro e w1 ⟨rfl, hb⟩
    go_wp2_with fail
    go_ret2
    exact UngOut.no E hb
  rw [hfine] at CG
  go_enter Try.func42, Try.ntmps42
  go_wp2_with fail
  refine CG.mono ?_
  rintro e w0 ⟨rfl, hb0⟩
  clear CG
  go_wp2_with fail
  go_loopw [4, 6, 12] (fun v _ i wr => ∃ (k q c : Nat) (d : Option Addr), k ≤ n ∧ i = .int .i64 k ∧ v = .slice d q c ∧ Hid (((G.take k).flatMap (·.2)).length = q) ∧ wr.ownsRow w.heap.size 68 3 (.slice d q c) q (flat ((G.take k).flatMap (·.2))) ∧ Below w.heap.size w wr) (fun _ _ i _ => n - (intOf i).toNat)
  case atStart => exact ⟨0, 0, 0, none, Nat.zero_le _, rfl, rfl, Lib.hid (by simp), World.ownsRow_nil _ _ _ _, hb0⟩
  case round =>
    obtain ⟨k, q, c, d, hk, rfl, rfl, HQ, O, hb⟩ := hrel
    clear hb0
    by_cases hlt : k < n
    · obtain ⟨key, rs, b, xa, xc, hx, rfl, hB, c0, c1, R⟩ := (hG.below hb (Nat.le_refl _)).at_ hlt
      have HFT := Lib.hid (flat_takeG hx)
      have hfl := flat_leG G (k + 1)
      rw [HFT.out, List.length_append, HQ.out] at hfl
      have hfl2 := HRL.out
      have hba := bl1 wr (.cells #[.string key, .slice xa rs.length xc] 66)
      have b1 := hb.trans (hba.mono hb.size)
      have g1 : (wr.alloc (.cells #[.string key, .slice xa rs.length xc] 66)).cell? ⟨wr.heap.size, 1, none⟩ = some (.slice xa rs.length xc) := by simp [go_sem]
      have O1 := own_below O hba
      have R1 := (R.below (hba.mono hb.size) (Nat.le_refl _)).more b1.size
      have HQ2 := Lib.hid (show ((G.take (k + 1)).flatMap (·.2)).length = q + rs.length by rw [HFT.out, List.length_append, HQ.out])
      have hq1' : q + rs.length ≤ maxLen := by unfold maxLen; omega
      have hq2' : (q + rs.length) * 40 ≤ 140737488355328 := by omega
      have hsz := b1.size
      clear hx R O
      go_wp2_with (at_builtin; refine wpList_append_rd rfl _ _ 27 rfl w.heap.size 68 i0 (.agg #[.string ⟨#[]⟩, .int .i64 0, .string ⟨#[]⟩]) 3 40 Try.underlying27 hi hz0 hz1 hz2 rfl (by decide) (.slice d q c) q (flat ((G.take k).flatMap (·.2))) rfl O1 xa _ rs.length xc (flat rs) rfl R1 (flat_one1U _) hq1' hq2' hsz ?_; intro v' w3 hO3 hg3 hat; refine haltU_ ?_)
      refine unhaltU_ ?_
      have hb3 : Below w.heap.size w w3 := b1.grown hg3 b1.size (fun g e => (own_ge O1 g e).1)
      obtain ⟨d3, c3, rfl⟩ := own_slice' hO3
      have O3 : w3.ownsRow w.heap.size 68 3 (.slice d3 (q + rs.length) c3) (q + rs.length) (flat ((G.take (k + 1)).flatMap (·.2))) := by rw [HFT.out, flat_append]; exact hO3
      clear hO3 hg3 hat O1 R1 c0 c1 g1 hba b1
      go_wp2_with fail
      go_roundw
      case rel => exact ⟨k + 1, q + rs.length, c3, d3, by omega, by go_num, rfl, HQ2, O3, hb3⟩
      case measure => simp [intOf]; omega
    · obtain rfl : k = n := by omega
      have hall : (G.take k).flatMap (·.2) = G.flatMap (·.2) := by rw [List.take_of_length_le (by rw [hGl.out]; omega)]
      rw [hall] at HQ O
      have hokF : ∀ r ∈ G.flatMap (·.2), r.Ok := fun r hr => by
        obtain ⟨g, hg, hgr⟩ := List.mem_flatMap.1 hr
        exact (HOK.out g hg).2.2 r hgr
      have hql : q ≤ 1048576 := by have := HRL.out; rw [HQ.out] at this; exact this
      have CS := implSortedOk_any d q c (G.flatMap (·.2)) wr hql hokF (Rd.of_own O)
      have HQ2 := Lib.hid HQ.out
      cases hso : sortedOk (G.flatMap (·.2))
      · rw [hso] at CS
        have E := ungrouped_not hso
        clear hall HQ
        go_wp2_with fail
        refine CS.mono ?_
        rintro e w5 ⟨rfl, hb5⟩
        have b9 := hb.trans (hb5.mono hb.size)
        go_wp2_with fail
        go_ret2
        exact UngOut.no E b9
      · rw [hso] at CS
        obtain ⟨E1, E2⟩ := ungrouped_yes hfine hso
        clear hall HQ
        go_wp2_with fail
        refine CS.mono ?_
        rintro e w5 ⟨rfl, hb5⟩
        have b9 := hb.trans (hb5.mono hb.size)
        have O5 := own_below O hb5
        go_wp2_with fail
        go_ret2
        unfold UngOut
        rw [E1, E2, HQ2.out]
        exact ⟨d, c, rfl, b9, O5⟩
end Go.Proofs.Ytgdbpckobngmjaa

namespace Go.Proofs.Ytgdbpckobngmjaa
open Go.RowKit
set_option maxRecDepth 100000 in
set_option maxHeartbeats 2000000 in
theorem markGroupS_any (a : Option Addr) (n cap lo hi : Nat) (gs : List (ByteArray × Value)) (G : List (ByteArray × List RowV)) (w : World) (hm : n ≤ 1048576) (hr : sizeG G ≤ 1048576) (hO : GOwn w lo a n cap gs G) (hB : BndG hi a gs) :
    Calls Try.prog 44 #[.slice a n cap, .int .i64 1] w fun e w' => e = .returned (.int .i64 (1 + sizeG G : Nat)) ∧ (∃ gs', GOwn w' lo a n cap gs' (marksG 1 G)) ∧ Since lo hi w w' := by
  have hl := Lib.hid hO.len.2
  obtain ⟨vs, hvs⟩ : ∃ vs, gs.map (·.2) = vs := ⟨_, rfl⟩
  obtain ⟨hB1, hB2⟩ := hB
  rw [hvs] at hB1
  have HB := Lib.hid hB1
  have HA := Lib.hid hB2
  clear hB1 hB2
  have hmk : ∀ j K : Nat, K = 1 + sizeG (G.take j) → K ≤ 1048577 := fun j K h => by have := sizeG_le G j; omega
  go_enter Try.func44, Try.ntmps44
  go_wp2
  go_loopw [1, 5] (fun q i wr => ∃ (j K : Nat) (gs1 : List (ByteArray × Value)), j ≤ n ∧ i = .int .i64 j ∧ q = .int .i64 K ∧ 1 ≤ K ∧ K ≤ 4194304 ∧ Hid (K = 1 + sizeG (G.take j)) ∧ Hid (gs1.map (·.2) = vs) ∧ GOwn wr lo a n cap gs1 (mixG G j) ∧ Since lo hi w wr) (fun _ i _ => n - (intOf i).toNat)
  case atStart => exact ⟨0, 1, gs, Nat.zero_le _, rfl, rfl, by omega, by omega, Lib.hid (by simp [sizeG]), Lib.hid hvs, by rw [mixG_zero]; exact hO, Since.refl _ _ _⟩
  case round =>
    obtain ⟨j, K, gs1, hj, rfl, rfl, hK1, hK2, HK, HV, hP, hS⟩ := hrel
    clear hO
    by_cases hlt : j < n
    · obtain ⟨⟨key, rs⟩, hx⟩ : ∃ x, G[j]? = some x := ⟨_, List.getElem?_eq_getElem (by rw [hl.out]; exact hlt)⟩
      have hz := sizeG_at hx
      simp only at hz
      have hxm := mixG_at hx
      obtain ⟨l1, l2⟩ := hP.len
      obtain ⟨⟨k1, v1⟩, hg1⟩ : ∃ x, gs1[j]? = some x := ⟨_, List.getElem?_eq_getElem (by omega)⟩
      have hv1 := hP.fam.own j v1 rs (by rw [List.getElem?_map, hg1]; rfl) (by rw [List.getElem?_map, hxm]; rfl)
      obtain ⟨va, vc, rfl, _⟩ := own_slice2 hv1
      have hk1 : k1 = key := by
        have e1 : (gs1.map (·.1))[j]? = some k1 := by rw [List.getElem?_map, hg1]; rfl
        have e2 : ((mixG G j).map (·.1))[j]? = some key := by rw [List.getElem?_map, hxm]; rfl
        rw [hP.keys, e2] at e1
        injection e1 with e1
        exact e1.symm
      subst hk1
      obtain ⟨g, hga, hgb, hgs⟩ := own_form hP.outer (show 0 < n by omega)
      subst hga
      have hgh := HA.out g 0 rfl
      have HG := Lib.hid (marksG_get (K := 1) hx)
      have HK2 := Lib.hid (show K + 1 + 3 * rs.length = 1 + sizeG (G.take (j + 1)) by rw [sizeG_take hx, HK.out]; simp only; omega)
      have hle : K + 1 + 3 * rs.length ≤ 4194304 := by have h1 := sizeG_le G (j + 1); have h2 := HK2.out; omega
      rw [← HK.out] at HG
      go_wp2_with fail
      refine (markText_any K _ (by omega) (by omega)).mono ?_
      rintro e w1 ⟨rfl, hb1⟩
      have hP1 := hP.below hb1
      have hS1 := hS.trans (Since.of_gb (gb_of_below hb1 none) (fun g e => by cases e))
      have f0 := hP1.outer.frozenAt (j * 2)
      obtain ⟨u0, e0⟩ := own_cell hP1.outer (j := j * 2) (by omega)
      have hP2 := hP1.setKey (k' := markB K) hg1 hxm
      have hS2 : Since lo hi w (w1.setCell ⟨g, j * 2, none⟩ (.string (markB K))) := hS1.trans (Since.of_gb (gb_store (World.grownBy.refl w1 (some g)) (j * 2) _) (fun q e => by injection e with e; subst e; exact ⟨hgb, hgh⟩))
      have hj1 := (List.getElem?_eq_some_iff.1 hg1).1
      have hj2 := (List.getElem?_eq_some_iff.1 hxm).1
      have hg2 : (gs1.set j (markB K, Value.slice va rs.length vc))[j]? = some (markB K, .slice va rs.length vc) := List.getElem?_set_self hj1
      have hx2 : ((mixG G j).set j (markB K, rs))[j]? = some (markB K, rs) := List.getElem?_set_self hj2
      have hv2 := hP2.fam.own j (.slice va rs.length vc) rs (by rw [List.getElem?_map, hg2]; rfl) (by rw [List.getElem?_map, hx2]; rfl)
      obtain ⟨_, d1⟩ := gcells_at _ j _ hg2
      have d1' : (w1.setCell ⟨g, j * 2, none⟩ (.string (markB K))).cell? ⟨g, j * 2 + 1, none⟩ = some (.slice va rs.length vc) := by rw [hP2.outer.cellAt (j * 2 + 1) (by omega)]; exact d1
      have HV2 := Lib.hid (show (gs1.set j (markB K, Value.slice va rs.length vc)).map (·.2) = vs by rw [List.map_set, set_same (by rw [List.getElem?_map, hg1]; rfl)]; exact HV.out)
      have HGm := Lib.hid (show ∀ w9, GOwn w9 lo (some ⟨g, 0, none⟩) n cap (gs1.set j (markB K, Value.slice va rs.length vc)) (((mixG G j).set j (markB K, rs)).set j (markB K, marksR (K + 1) rs.length)) → GOwn w9 lo (some ⟨g, 0, none⟩) n cap (gs1.set j (markB K, Value.slice va rs.length vc)) (mixG G (j + 1)) from fun w9 h => by rw [List.set_set, mixG_set hx HG.out] at h; exact h)
      have hvb : ∀ q, (Value.slice va rs.length vc).ownBlock = some q → lo ≤ q ∧ q < hi := fun q e => ⟨(own_ge hv2 q e).1, HB.out _ (by rw [← HV2.out]; exact List.mem_of_getElem? (by rw [List.getElem?_map, hg2]; rfl)) q e⟩
      have hwK : IntKind.i64.wrap ((K : Int) + 1) = ((K + 1 : Nat) : Int) := by rw [IntWalk.i64_in _ (by omega)]; omega
      clear hP hS hb1 hP1 hS1 hx hxm hg1 hv1
      have HP2 := Lib.hid hP2
      have HS2 := Lib.hid hS2
      have HV9 := Lib.hid hv2
      clear hP2 hS2 hv2 d1
      go_wp2_with fail
      rw [show ((K : Int) + 1) = ((K + 1 : Nat) : Int) by omega]
      refine (markRowS_any va rs.length vc (K + 1) lo _ _ (by omega) (by omega) (by omega) HV9.out).mono ?_
      rintro e w2 ⟨rfl, hM, hg3⟩
      have hP3 := HGm.out _ (HP2.out.rows hg2 hx2 hg3 (by rw [marksRlen]; exact hM))
      have hS3 := HS2.out.trans (Since.of_gb hg3 hvb)
      clear hM hg3 d1' f0 e0 HP2 HS2 HV9 HGm
      go_wp2_with fail
      go_roundw
      case rel => exact ⟨j + 1, K + 1 + 3 * rs.length, _, by omega, by go_num, by go_num, by omega, hle, HK2, HV2, hP3, hS3⟩
      case measure => simp [intOf]; omega
    · obtain rfl : j = n := by omega
      rw [mixG_all (by rw [hl.out]; omega)] at hP
      have hK := HK.out
      rw [List.take_of_length_le (Nat.le_of_eq hl.out)] at hK
      have HK' := Lib.hid hK
      clear hK HK
      go_wp2_with fail
      go_ret
      exact ⟨by rw [HK'.out]; rfl, ⟨gs1, hP⟩, hS⟩
set_option maxRecDepth 100000 in
set_option maxHeartbeats 2000000 in
theorem heldGroupS_any (a : Option Addr) (n cap : Nat) (G : List (ByteArray × List RowV)) (w : World) (hm : n ≤ 1048576) (hr : sizeG G ≤ 1048576) (hR : GRd w w.heap.size a n (marksG 1 G)) :
    Calls Try.prog 50 #[.slice a n cap, .int .i64 1] w fun e w' => e = .returned (.int .i64 (1 + sizeG G : Nat)) ∧ Below w.heap.size w w' := by
  have hl := Lib.hid ((marksG_length 1 G).symm.trans hR.1)
  go_enter Try.func50, Try.ntmps50
  go_wp2
  go_loopw [1, 5] (fun q i wr => ∃ (j K : Nat), j ≤ n ∧ i = .int .i64 j ∧ q = .int .i64 K ∧ 1 ≤ K ∧ K ≤ 4194304 ∧ Hid (K = 1 + sizeG (G.take j)) ∧ Below w.heap.size w wr) (fun _ i _ => n - (intOf i).toNat)
  case atStart => exact ⟨0, 1, Nat.zero_le _, rfl, rfl, by omega, by omega, Lib.hid (by simp [sizeG]), Below.refl _ _⟩
  case round =>
    obtain ⟨j, K, hj, rfl, rfl, hK1, hK2, HK, hb⟩ := hrel
    by_cases hlt : j < n
    · obtain ⟨⟨key, rs⟩, hx⟩ : ∃ x, G[j]? = some x := ⟨_, List.getElem?_eq_getElem (by rw [hl.out]; exact hlt)⟩
      have hz := sizeG_at hx
      simp only at hz
      have hxm := marksG_get (K := 1) hx
      rw [← HK.out] at hxm
      obtain ⟨b, a', c', rfl, hB1, d0, d1, R1⟩ := (hR.below hb (Nat.le_refl _)).2 j _ _ hxm
      simp only [marksRlen] at d1 R1
      have HK2 := Lib.hid (show K + 1 + 3 * rs.length = 1 + sizeG (G.take (j + 1)) by rw [sizeG_take hx, HK.out]; simp only; omega)
      have hle : K + 1 + 3 * rs.length ≤ 4194304 := by have h1 := sizeG_le G (j + 1); have h2 := HK2.out; omega
      have hn1 : ¬ ((K : Int) + 1 + 3 * (rs.length : Int) < 0) := by omega
      have R1d : Rd wr.drew w.heap.size 3 a' rs.length (flat (marksR (K + 1) rs.length)) := R1.below (Below.refl wr.heap.size wr).drew hb.size
      clear hx hxm
      go_wp2_with fail
      go_region_held3 (fun w' => w'.cell? ⟨b, j * 2, none⟩ = some (.string (markB K)) ∧ w'.cell? ⟨b, j * 2 + 1, none⟩ = some (.slice a' rs.length c') ∧ Hid (Rd w' w.heap.size 3 a' rs.length (flat (marksR (K + 1) rs.length))) ∧ Below w.heap.size w w')
        (first | exact ⟨d0, d1, Lib.hid R1d, hb.drew⟩ | exact ⟨(hb'.cell (p := ⟨b, j * 2, none⟩) (Nat.lt_of_lt_of_le hB1 hb.size)).trans d0, (hb'.cell (p := ⟨b, j * 2 + 1, none⟩) (Nat.lt_of_lt_of_le hB1 hb.size)).trans d1, Lib.hid (R1d.below hb' hb.size), hb.drew.trans (hb'.mono hb.size)⟩)
        (first | (go_at_call 76; refine (markText_any K _ (by omega) (by omega)).mono ?_; rintro e w' ⟨rfl, hb'⟩))
      rename_i hH
      obtain ⟨_, d1', R1', hB2⟩ := hH
      have R2 := R1'.out.more hB2.size
      clear d0 d1 R1 R1d R1' hb'
      go_wp2_with fail
      rw [show ((K : Int) + 1) = ((K + 1 : Nat) : Int) by omega]
      refine (heldRowS_any a' rs.length c' (K + 1) _ (by omega) (by omega) (by omega) R2).mono ?_
      rintro e w2 ⟨rfl, hb2⟩
      have hb3 := hB2.trans (hb2.mono hB2.size)
      clear d1' hb2 R2
      go_wp2_with fail
      go_roundw
      case rel => exact ⟨j + 1, K + 1 + 3 * rs.length, by omega, by go_num, by go_num, by omega, hle, HK2, hb3⟩
      case measure => simp [intOf]; omega
    · obtain rfl : j = n := by omega
      have hK := HK.out
      rw [List.take_of_length_le (Nat.le_of_eq hl.out)] at hK
      have HK' := Lib.hid hK
      clear hK HK
      go_wp2_with fail
      go_ret
      exact ⟨by rw [HK'.out]; rfl, hb⟩
end Go.Proofs.Ytgdbpckobngmjaa

namespace Go.Proofs.Ytgdbpckobngmjaa
open Go.RowKit

/-- What szRowS returns, with the number of rows taken off. -/
def SzSum (left : Int) (len : Nat) (w : World) (e : Ending) (w' : World) : Prop := ∃ z : Int, e = .returned (.int .i64 z) ∧ Below w.heap.size w w' ∧ (z = -1 ∨ 0 ≤ z ∧ z + len ≤ left)
set_option maxRecDepth 100000 in
set_option maxHeartbeats 1000000 in
theorem szRowS_sum (a : Option Addr) (len cap : Nat) (rs : List RowV) (left : Int) (w : World) (hm : len ≤ maxLen) (hok : ∀ r ∈ rs, r.Ok) (hR : Rd w w.heap.size 3 a len (flat rs)) (h0 : 0 ≤ left) (h1 : left ≤ 1048576) :
    Calls Try.prog 15 #[.slice a len cap, .int .i64 left] w (SzSum left len w) := by
  unfold maxLen at hm
  by_cases hs : left < len
  · go_enter Try.func15, Try.ntmps15
    go_wp2
    go_ret
    exact ⟨-1, rfl, Below.refl _ _, .inl rfl⟩
  go_enter Try.func15, Try.ntmps15
  go_wp2
  go_loopw [1, 5] (fun l i wr => ∃ (k : Nat) (z : Int), k ≤ len ∧ i = .int .i64 k ∧ l = .int .i64 z ∧ 0 ≤ z ∧ z + len ≤ left ∧ Below w.heap.size w wr) (fun _ i _ => len - (intOf i).toNat)
  case atStart => exact ⟨0, left - len, Nat.zero_le _, rfl, rfl, by omega, by omega, Below.refl _ _⟩
  case round =>
    obtain ⟨k, z, hk, rfl, rfl, hz0, hz1, hb⟩ := hrel
    by_cases hlt : k < len
    · obtain ⟨b, off, r, rfl, hB, hr, c0, c1, c2⟩ := (hR.below hb (Nat.le_refl _)).row hlt
      have hro := RowV.Ok.of hok hr
      clear hr
      obtain ⟨key, tag, val⟩ := r
      obtain ⟨hkk, _, hvv⟩ := hro
      have hz2 := szV_le key val z hz0 (by omega)
      go_wp2_with fail
      refine (szRow_any key val tag z _ hkk hvv (by omega) (by omega)).mono ?_
      rintro e w1 ⟨rfl, hb1⟩
      clear c0 c1 c2
      generalize szV key val z = z' at *
      rcases hz2 with rfl | ⟨hz20, hz21⟩
      · go_wp2_with fail
        go_ret
        exact ⟨-1, rfl, hb.trans (hb1.mono hb.size), .inl rfl⟩
      go_wp2_with fail
      go_roundw
      case rel => exact ⟨k + 1, z', by omega, by go_num, rfl, hz20, by omega, hb.trans (hb1.mono hb.size)⟩
      case measure => simp [intOf]; omega
    · go_wp2_with fail
      go_ret
      exact ⟨z, rfl, hb, .inr ⟨hz0, hz1⟩⟩
set_option maxRecDepth 100000 in
theorem szPart_any (a : Option Addr) (len cap : Nat) (rs : List RowV) (left : Int) (w : World) (hm : len ≤ maxLen) (hok : ∀ r ∈ rs, r.Ok) (hR : Rd w w.heap.size 3 a len (flat rs)) (h0 : 0 ≤ left) (h1 : left ≤ 1048576) :
    Calls Try.prog 77 #[.agg #[.slice a len cap], .int .i64 left] w (SzSum left len w) := by
  have hb0 := bl1 w (.cells #[.slice a len cap] 107)
  have R1 := (hR.below hb0 (Nat.le_refl _)).more hb0.size
  go_enter Try.func77, Try.ntmps77
  go_wp2_with fail
  generalize w.alloc (.cells #[.slice a len cap] 107) = w0 at *
  refine (szRowS_sum a len cap rs left w0 hm hok R1 h0 h1).mono ?_
  rintro e w1 ⟨z, rfl, hb, hz⟩
  have b9 := hb0.trans (hb.mono hb0.size)
  rcases hz with rfl | ⟨z0, z1⟩
  · go_wp2_with fail
    go_ret
    exact ⟨-1, rfl, b9, .inl rfl⟩
  · go_wp2_with fail
    go_ret
    exact ⟨z, rfl, b9, .inr ⟨z0, z1⟩⟩
/-- What a law on parts is handed. -/
def IsParts (w : World) (a : Option Addr) (len cap : Nat) (ps : List (List RowV)) : Prop := len ≤ cap ∧ cap ≤ maxLen ∧ (∀ rs ∈ ps, rs.length ≤ maxLen ∧ ∀ r ∈ rs, r.Ok) ∧ PRd w w.heap.size a len ps
set_option maxRecDepth 100000 in
set_option maxHeartbeats 1000000 in
theorem szPartS_any (a : Option Addr) (len cap : Nat) (ps : List (List RowV)) (left : Int) (w : World) (hm : len ≤ maxLen) (hok : ∀ rs ∈ ps, rs.length ≤ maxLen ∧ ∀ r ∈ rs, r.Ok) (hP : PRd w w.heap.size a len ps) (h0 : 0 ≤ left) (h1 : left ≤ 1048576) :
    Calls Try.prog 24 #[.slice a len cap, .int .i64 left] w fun e w' => ∃ z : Int, e = .returned (.int .i64 z) ∧ Below w.heap.size w w' ∧ (z = -1 ∨ 0 ≤ z ∧ z ≤ left ∧ (len : Int) ≤ left ∧ (rowsIn ps : Int) ≤ left) := by
  have hpl := Lib.hid hP.len
  unfold maxLen at hm
  by_cases hs : left < len
  · go_enter Try.func24, Try.ntmps24
    go_wp2
    go_ret
    exact ⟨-1, rfl, Below.refl _ _, .inl rfl⟩
  go_enter Try.func24, Try.ntmps24
  go_wp2
  go_loopw [1, 5] (fun l i wr => ∃ (k : Nat) (z : Int) (q : Nat), k ≤ len ∧ i = .int .i64 k ∧ l = .int .i64 z ∧ 0 ≤ z ∧ z + q ≤ left ∧ Hid (rowsIn (ps.take k) = q) ∧ Below w.heap.size w wr) (fun _ i _ => len - (intOf i).toNat)
  case atStart => exact ⟨0, left - len, 0, Nat.zero_le _, rfl, rfl, by omega, by omega, Lib.hid (by simp [rowsIn]), Below.refl _ _⟩
  case round =>
    obtain ⟨k, z, q, hk, rfl, rfl, hz0, hz1, HQ, hb⟩ := hrel
    by_cases hlt : k < len
    · obtain ⟨b1, o1, a1, c1, r1, rfl, hB1, hr1, d1, R1⟩ := (hP.below hb (Nat.le_refl _)).at_ hlt
      obtain ⟨hl1, hok1⟩ := hok r1 (List.mem_of_getElem? hr1)
      have HC := Lib.hid (rowsIn_take_succ hr1)
      clear hr1
      go_wp2_with fail
      refine (szPart_any a1 r1.length c1 r1 z _ hl1 hok1 (R1.more hb.size) (by omega) (by omega)).mono ?_
      rintro e w1 ⟨z', rfl, hb1, hz⟩
      have b9 := hb.trans (hb1.mono hb.size)
      clear d1
      rcases hz with rfl | ⟨z0, z1⟩
      · go_wp2_with fail
        go_ret
        exact ⟨-1, rfl, b9, .inl rfl⟩
      go_wp2_with fail
      go_roundw
      case rel => exact ⟨k + 1, z', q + r1.length, by omega, by go_num, rfl, z0, by omega, Lib.hid (by rw [HC.out, HQ.out]), b9⟩
      case measure => simp [intOf]; omega
    · have HA : rowsIn (ps.take k) = rowsIn ps := by rw [List.take_of_length_le (by rw [hpl.out]; omega)]
      have HL := HQ.out
      rw [HA] at HL
      clear HA
      go_wp2_with fail
      go_ret
      exact ⟨z, rfl, hb, .inr ⟨hz0, by omega, by omega, by omega⟩⟩
set_option maxRecDepth 100000 in
theorem toPart_any (a : Option Addr) (len cap : Nat) (rs : List RowV) (w : World) (hm : len ≤ 1048576) (hR : Rd w w.heap.size 3 a len (flat rs)) :
    Calls Try.prog 80 #[.agg #[.slice a len cap]] w fun e w' => ∃ g : Nat, w.heap.size ≤ g ∧ e = .returned (.agg #[.slice (some ⟨g, 0, none⟩) len len]) ∧ Below w.heap.size w w' ∧ w'.ownsRow w.heap.size 68 3 (.slice (some ⟨g, 0, none⟩) len len) len (flat rs) := by
  have hb0 := bl3 w (.cells #[.slice a len cap] 107) (.cells #[.slice none 0 0] 50) (.cells #[.slice none 0 0] 50)
  have R1 := (hR.below hb0 (Nat.le_refl _)).more hb0.size
  go_enter Try.func80, Try.ntmps80
  go_wp2_with fail
  have s0 : (((w.alloc (.cells #[.slice a len cap] 107)).alloc (.cells #[.slice none 0 0] 50)).alloc (.cells #[.slice none 0 0] 50)).heap.size = w.heap.size + 3 := by simp
  have x1 : (((w.alloc (.cells #[.slice a len cap] 107)).alloc (.cells #[.slice none 0 0] 50)).alloc (.cells #[.slice none 0 0] 50)).cell? ⟨w.heap.size + 1, 0, none⟩ = some (.slice none 0 0) := by simp [go_sem]
  have x2 : (((w.alloc (.cells #[.slice a len cap] 107)).alloc (.cells #[.slice none 0 0] 50)).alloc (.cells #[.slice none 0 0] 50)).cell? ⟨w.heap.size + 1 + 1, 0, none⟩ = some (.slice none 0 0) := by simp [go_sem]
  have f1 : (((w.alloc (.cells #[.slice a len cap] 107)).alloc (.cells #[.slice none 0 0] 50)).alloc (.cells #[.slice none 0 0] 50)).frozen? ⟨w.heap.size + 1, 0, none⟩ = false := by simp [go_sem]
  have f2 : (((w.alloc (.cells #[.slice a len cap] 107)).alloc (.cells #[.slice none 0 0] 50)).alloc (.cells #[.slice none 0 0] 50)).frozen? ⟨w.heap.size + 1 + 1, 0, none⟩ = false := by simp [go_sem]
  generalize ((w.alloc (.cells #[.slice a len cap] 107)).alloc (.cells #[.slice none 0 0] 50)).alloc (.cells #[.slice none 0 0] 50) = w0 at *
  refine (toRowS_any a len cap rs w0 hm R1).mono ?_
  rintro e w1 ⟨rfl, hb1, hO⟩
  have l1 : w.heap.size + 1 < w0.heap.size := by omega
  have l2 : w.heap.size + 1 + 1 < w0.heap.size := by omega
  have l3 : w.heap.size ≤ w.heap.size + 1 := by omega
  have l4 : w.heap.size ≤ w.heap.size + 1 + 1 := by omega
  replace x1 := (hb1.cell (p := ⟨w.heap.size + 1, 0, none⟩) l1).trans x1
  replace x2 := (hb1.cell (p := ⟨w.heap.size + 1 + 1, 0, none⟩) l2).trans x2
  replace f1 := (hb1.frozen (p := ⟨w.heap.size + 1, 0, none⟩) l1).trans f1
  replace f2 := (hb1.frozen (p := ⟨w.heap.size + 1 + 1, 0, none⟩) l2).trans f2
  have hB := hb0.trans (hb1.mono (by omega))
  have hg : w.heap.size ≤ w0.heap.size := by omega
  have h9 := (hB.setCell (p := ⟨w.heap.size + 1 + 1, 0, none⟩) l4 (.slice (some ⟨w0.heap.size, 0, none⟩) len len)).setCell (p := ⟨w.heap.size + 1, 0, none⟩) l3 (.slice (some ⟨w0.heap.size, 0, none⟩) len len)
  have hO9 : ((w1.setCell ⟨w.heap.size + 1 + 1, 0, none⟩ (.slice (some ⟨w0.heap.size, 0, none⟩) len len)).setCell ⟨w.heap.size + 1, 0, none⟩ (.slice (some ⟨w0.heap.size, 0, none⟩) len len)).ownsRow w.heap.size 68 3 (.slice (some ⟨w0.heap.size, 0, none⟩) len len) len (flat rs) := by
    refine own_base' (own_other (own_other hO (gb_store (World.grownBy.refl w1 (some (w.heap.size + 1 + 1))) 0 _) ?_) (gb_store (World.grownBy.refl _ (some (w.heap.size + 1))) 0 _) ?_) hg
    · intro g e h; injection e with e; injection h with h; simp at e; omega
    · intro g e h; injection e with e; injection h with h; simp at e; omega
  clear hO hb1 R1 hb0 s0
  go_wp2_with fail
  refine bodyPost_ret (v := .agg #[.slice (some ⟨w0.heap.size, 0, none⟩) len len]) ?_ rfl ⟨w0.heap.size, hg, rfl, h9, hO9⟩
  simp [results, Try.results80, asAddr, go_sem, x1]
theorem Fam.put {w : World} {lo G j : Nat} {vs : List Value} {ps : List (List RowV)} (h : Fam w lo vs ps) (hG : G < lo) (v : Value) : Fam (w.setCell ⟨G, j, none⟩ v) lo vs ps :=
  ⟨h.len, fun i u rs h1 h2 => own_other (h.own i u rs h1 h2) (gb_store (World.grownBy.refl w (some G)) j v) (fun g hg e => by
    have := (own_ge (h.own i u rs h1 h2) g hg).1
    injection e with e
    omega), h.sep⟩
set_option maxRecDepth 100000 in
set_option maxHeartbeats 1000000 in
theorem toPartS_any (a : Option Addr) (len cap : Nat) (ps : List (List RowV)) (w : World) (hm : len ≤ 1048576) (hr : rowsIn ps ≤ 1048576) (hP : PRd w w.heap.size a len ps) :
    Calls Try.prog 26 #[.slice a len cap] w fun e w' => ∃ (p : Option Addr) (vs : List Value), e = .returned (.slice p len len) ∧ Below w.heap.size w w' ∧ POwn w' w.heap.size p len len vs ps := by
  obtain ⟨i0, hi, hz0, hz1, hz2⟩ := info_parts infoPart
  have hpl := Lib.hid hP.len
  go_enter Try.func26, Try.ntmps26
  go_wp2_with (at_make; refine wpList_make_full _ rfl _ _ 24 rfl w.heap.size 50 i0 (.agg #[.slice none 0 0]) 1 Try.underlying24 hi hz0 hz1 .i64 .i64 _ _ len rfl rfl (by omega) (by omega) (by rw [hz2]; omega) (by unfold maxLen; omega) (Nat.le_refl _) ?_; intro w1 hown hgrow)
  have hb1 := (Below.refl w.heap.size w).grown hgrow (Nat.le_refl _) (by simp)
  clear hgrow
  go_loopw [4] (fun i wr => ∃ (k : Nat) (xs vs : List Value), k ≤ len ∧ i = .int .i64 k ∧ Below w.heap.size w wr ∧ wr.ownsRow w.heap.size 50 1 (.slice (some ⟨w.heap.size, 0, none⟩) len len) len xs ∧ Hid (xs.take k = vs) ∧ Hid (Fam wr (w.heap.size + 1) vs (ps.take k))) (fun i _ => len - (intOf i).toNat)
  case atStart => exact ⟨0, _, [], Nat.zero_le _, rfl, hb1, hown, Lib.hid (by simp), Lib.hid (by simpa using Fam.nil _ _)⟩
  case round =>
    obtain ⟨k, xs, vs, hk, rfl, hb, hO, Hx, HF⟩ := hrel
    clear hown hb1
    by_cases hlt : k < len
    · obtain ⟨b1, o1, a1, c1, r1, rfl, hB1, hr1, d1, R1⟩ := (hP.below hb (Nat.le_refl _)).at_ hlt
      have hl1 := rowsIn_at hr1
      have Hr := Lib.hid hr1
      have HT := Lib.hid (show ps.take (k + 1) = ps.take k ++ [r1] by rw [List.take_add_one, hr1]; rfl)
      clear hr1
      have hgw : w.heap.size < wr.heap.size := (own_ge hO w.heap.size rfl).2
      go_wp2_with fail
      refine (toPart_any a1 r1.length c1 r1 wr (by omega) (R1.more hb.size)).mono ?_
      rintro e w2 ⟨g, hg, rfl, hb2, hO1⟩
      have hO2 := own_below hO hb2
      have hxl : k < xs.length := by rw [hO.1]; omega
      have HF2 := Lib.hid ((HF.out.snoc hb2 (v := .slice (some ⟨g, 0, none⟩) r1.length r1.length) (own_base' hO1 (by omega)) (fun q e => by injection e with e; simp at e; omega)).put (G := w.heap.size) (j := k) (by omega) (.slice (some ⟨g, 0, none⟩) r1.length r1.length))
      rw [← HT.out] at HF2
      have Hx2 := Lib.hid (take_set1 (.slice (some ⟨g, 0, none⟩) r1.length r1.length) Hx.out hxl)
      have f0 := hO2.frozenAt k
      obtain ⟨u0, e0⟩ := own_cell hO2 (j := k) (by omega)
      have hB2 : Below w.heap.size w w2 := hb.trans (hb2.mono hb.size)
      have hO3 := (hO2.stored k (.slice (some ⟨g, 0, none⟩) r1.length r1.length)).1
      have hB3 := hB2.setCell (p := ⟨w.heap.size, k, none⟩) (Nat.le_refl _) (.slice (some ⟨g, 0, none⟩) r1.length r1.length)
      clear d1 hb2 hO hO1 R1 HF Hx hO2 hB2
      go_wp2_with fail
      go_roundw
      case rel => exact ⟨k + 1, _, _, by omega, by go_num, hB3, hO3, Hx2, HF2⟩
      case measure => simp [intOf]; omega
    · obtain rfl : k = len := by omega
      have hx := Hx.out
      rw [List.take_of_length_le (by rw [hO.1]; omega)] at hx
      subst hx
      have hF := HF.out
      rw [List.take_of_length_le (by rw [hpl.out]; omega)] at hF
      clear HF Hx
      go_wp2_with fail
      go_ret
      refine ⟨some ⟨w.heap.size, 0, none⟩, xs, rfl, hb, ⟨hO, hF.base (Nat.le_succ _), fun v hv q hq e => ?_⟩⟩
      obtain ⟨i, hi⟩ := List.getElem?_of_mem hv
      have hil : i < ps.length := by rw [← hF.len]; exact (List.getElem?_eq_some_iff.1 hi).1
      have := (own_ge (hF.own i v ps[i] hi (List.getElem?_eq_getElem hil)) q hq).1
      injection e with e
      simp at e
      omega
end Go.Proofs.Ytgdbpckobngmjaa

namespace Go.Proofs.Ytgdbpckobngmjaa
open Go.RowKit
/-- Groups that can be read below block B, wherever in a block they begin. -/
def GArg (w : World) (B : Nat) (a : Option Addr) (n : Nat) (G : List (ByteArray × List RowV)) : Prop :=
  G.length = n ∧ ∀ (i : Nat) (key : ByteArray) (rs : List RowV), G[i]? = some (key, rs) → ∃ b off a' c', a = some ⟨b, off, none⟩ ∧ b < B ∧ w.cell? ⟨b, off + i * 2, none⟩ = some (.string key) ∧ w.cell? ⟨b, off + i * 2 + 1, none⟩ = some (.slice a' rs.length c') ∧ Rd w B 3 a' rs.length (flat rs)
theorem GArg.below {w w' : World} {B D n : Nat} {a : Option Addr} {G : List (ByteArray × List RowV)} (h : GArg w B a n G) (hb : Below D w w') (hD : B ≤ D) : GArg w' B a n G :=
  ⟨h.1, fun i key rs hi => by
    obtain ⟨b, off, a', c', e, h2, c0, c1, hr⟩ := h.2 i key rs hi
    exact ⟨b, off, a', c', e, h2, (hb.cell (p := ⟨b, off + i * 2, none⟩) (Nat.lt_of_lt_of_le h2 hD)).trans c0, (hb.cell (p := ⟨b, off + i * 2 + 1, none⟩) (Nat.lt_of_lt_of_le h2 hD)).trans c1, hr.below hb hD⟩⟩
theorem GArg.more {w : World} {B D n : Nat} {a : Option Addr} {G : List (ByteArray × List RowV)} (h : GArg w B a n G) (hD : B ≤ D) : GArg w D a n G :=
  ⟨h.1, fun i key rs hi => by
    obtain ⟨b, off, a', c', e, h2, c0, c1, hr⟩ := h.2 i key rs hi
    exact ⟨b, off, a', c', e, Nat.lt_of_lt_of_le h2 hD, c0, c1, hr.more hD⟩⟩
theorem GArg.at_ {w : World} {B n i : Nat} {a : Option Addr} {G : List (ByteArray × List RowV)} (h : GArg w B a n G) (hi : i < n) : ∃ key rs b off a' c', G[i]? = some (key, rs) ∧ a = some ⟨b, off, none⟩ ∧ b < B ∧ w.cell? ⟨b, off + i * 2, none⟩ = some (.string key) ∧ w.cell? ⟨b, off + i * 2 + 1, none⟩ = some (.slice a' rs.length c') ∧ Rd w B 3 a' rs.length (flat rs) := by
  obtain ⟨h1, h2⟩ := h
  obtain ⟨⟨key, rs⟩, hx⟩ : ∃ x, G[i]? = some x := ⟨_, List.getElem?_eq_getElem (by omega)⟩
  obtain ⟨b, off, a', c', h3⟩ := h2 i key rs hx
  exact ⟨key, rs, b, off, a', c', hx, h3⟩
def rowsG (G : List (ByteArray × List RowV)) : Nat := rowsIn (G.map (·.2))
/-- What a law on groups is handed. -/
def IsGroups (w : World) (a : Option Addr) (len cap : Nat) (G : List (ByteArray × List RowV)) : Prop := len ≤ cap ∧ cap ≤ maxLen ∧ (∀ g ∈ G, g.1.size ≤ maxLen ∧ g.2.length ≤ maxLen ∧ ∀ r ∈ g.2, r.Ok) ∧ GArg w w.heap.size a len G
theorem grp_take {G : List (ByteArray × List RowV)} {k : Nat} {key : ByteArray} {rs : List RowV} (h : G[k]? = some (key, rs)) : rowsIn ((G.map (·.2)).take (k + 1)) = rowsIn ((G.map (·.2)).take k) + rs.length := rowsIn_take_succ (by rw [List.getElem?_map, h]; rfl)
set_option maxRecDepth 100000 in
theorem szGroup_any (key : ByteArray) (a : Option Addr) (len cap : Nat) (rs : List RowV) (left : Int) (w : World) (hk : key.size ≤ maxLen) (hm : len ≤ maxLen) (hok : ∀ r ∈ rs, r.Ok) (hR : Rd w w.heap.size 3 a len (flat rs)) (h0 : 0 ≤ left) (h1 : left ≤ 1048576) :
    Calls Try.prog 89 #[.agg #[.string key, .slice a len cap], .int .i64 left] w (SzSum left len w) := by
  unfold maxLen at hk
  have hb0 := bl1 w (.cells #[.string key, .slice a len cap] 122)
  have R1 := (hR.below hb0 (Nat.le_refl _)).more hb0.size
  have x0 : (w.alloc (.cells #[.string key, .slice a len cap] 122)).cell? ⟨w.heap.size, 0, none⟩ = some (.string key) := by simp [go_sem]
  have x1 : (w.alloc (.cells #[.string key, .slice a len cap] 122)).cell? ⟨w.heap.size, 1, none⟩ = some (.slice a len cap) := by simp [go_sem]
  by_cases hs : left < key.size
  · go_enter Try.func89, Try.ntmps89
    go_wp2
    go_ret
    exact ⟨-1, rfl, hb0, .inl rfl⟩
  go_enter Try.func89, Try.ntmps89
  go_wp2_with fail
  generalize w.alloc (.cells #[.string key, .slice a len cap] 122) = w0 at *
  refine (szRowS_sum a len cap rs (left - key.size) w0 hm hok R1 (by omega) (by omega)).mono ?_
  rintro e w1 ⟨z, rfl, hb, hz⟩
  have b9 := hb0.trans (hb.mono hb0.size)
  rcases hz with rfl | ⟨z0, z1⟩
  · go_wp2_with fail
    go_ret
    exact ⟨-1, rfl, b9, .inl rfl⟩
  · go_wp2_with fail
    go_ret
    exact ⟨z, rfl, b9, .inr ⟨z0, by omega⟩⟩
set_option maxRecDepth 100000 in
set_option maxHeartbeats 1000000 in
theorem szGroupS_any (a : Option Addr) (len cap : Nat) (G : List (ByteArray × List RowV)) (left : Int) (w : World) (hm : len ≤ maxLen) (hok : ∀ g ∈ G, g.1.size ≤ maxLen ∧ g.2.length ≤ maxLen ∧ ∀ r ∈ g.2, r.Ok) (hP : GArg w w.heap.size a len G) (h0 : 0 ≤ left) (h1 : left ≤ 1048576) :
    Calls Try.prog 39 #[.slice a len cap, .int .i64 left] w fun e w' => ∃ z : Int, e = .returned (.int .i64 z) ∧ Below w.heap.size w w' ∧ (z = -1 ∨ 0 ≤ z ∧ z ≤ left ∧ (len : Int) + (rowsG G : Int) ≤ left) := by
  have hpl := Lib.hid hP.1
  unfold maxLen at hm
  by_cases hs : left < len
  · go_enter Try.func39, Try.ntmps39
    go_wp2
    go_ret
    exact ⟨-1, rfl, Below.refl _ _, .inl rfl⟩
  go_enter Try.func39, Try.ntmps39
  go_wp2
  go_loopw [1, 5] (fun l i wr => ∃ (k : Nat) (z : Int) (q : Nat), k ≤ len ∧ i = .int .i64 k ∧ l = .int .i64 z ∧ 0 ≤ z ∧ z + q + len ≤ left ∧ Hid (rowsIn ((G.map (·.2)).take k) = q) ∧ Below w.heap.size w wr) (fun _ i _ => len - (intOf i).toNat)
  case atStart => exact ⟨0, left - len, 0, Nat.zero_le _, rfl, rfl, by omega, by omega, Lib.hid (by simp [rowsIn]), Below.refl _ _⟩
  case round =>
    obtain ⟨k, z, q, hk, rfl, rfl, hz0, hz1, HQ, hb⟩ := hrel
    by_cases hlt : k < len
    · obtain ⟨key, r1, b1, o1, a1, c1, hr1, rfl, hB1, d0, d1, R1⟩ := (hP.below hb (Nat.le_refl _)).at_ hlt
      obtain ⟨hk1, hl1, hok1⟩ := hok _ (List.mem_of_getElem? hr1)
      have HC := Lib.hid (grp_take hr1)
      clear hr1
      go_wp2_with fail
      refine (szGroup_any key a1 r1.length c1 r1 z _ hk1 hl1 hok1 (R1.more hb.size) (by omega) (by omega)).mono ?_
      rintro e w1 ⟨z', rfl, hb1, hz⟩
      have b9 := hb.trans (hb1.mono hb.size)
      clear d0 d1
      rcases hz with rfl | ⟨z0, z1⟩
      · go_wp2_with fail
        go_ret
        exact ⟨-1, rfl, b9, .inl rfl⟩
      go_wp2_with fail
      go_roundw
      case rel => exact ⟨k + 1, z', q + r1.length, by omega, by go_num, rfl, z0, by omega, Lib.hid (by rw [HC.out, HQ.out]), b9⟩
      case measure => simp [intOf]; omega
    · have HA : rowsIn ((G.map (·.2)).take k) = rowsIn (G.map (·.2)) := by rw [List.take_of_length_le (by rw [List.length_map, hpl.out]; omega)]
      have HL := HQ.out
      rw [HA] at HL
      clear HA
      go_wp2_with fail
      go_ret
      exact ⟨z, rfl, hb, .inr ⟨hz0, by omega, by unfold rowsG; omega⟩⟩
set_option maxRecDepth 100000 in
set_option maxHeartbeats 1000000 in
theorem toGroup_any (key : ByteArray) (a : Option Addr) (len cap : Nat) (rs : List RowV) (w : World) (hm : len ≤ 1048576) (hR : Rd w w.heap.size 3 a len (flat rs)) :
    Calls Try.prog 91 #[.agg #[.string key, .slice a len cap]] w fun e w' => ∃ g : Nat, w.heap.size ≤ g ∧ e = .returned (.agg #[.string key, .slice (some ⟨g, 0, none⟩) len len]) ∧ Below w.heap.size w w' ∧ w'.ownsRow w.heap.size 68 3 (.slice (some ⟨g, 0, none⟩) len len) len (flat rs) := by
  have hb0 := bl3 w (.cells #[.string key, .slice a len cap] 122) (.cells #[.string ⟨#[]⟩, .slice none 0 0] 66) (.cells #[.string key, .slice none 0 0] 66)
  have R1 := (hR.below hb0 (Nat.le_refl _)).more hb0.size
  have s0 : (((w.alloc (.cells #[.string key, .slice a len cap] 122)).alloc (.cells #[.string ⟨#[]⟩, .slice none 0 0] 66)).alloc (.cells #[.string key, .slice none 0 0] 66)).heap.size = w.heap.size + 3 := by simp
  have x1 : (((w.alloc (.cells #[.string key, .slice a len cap] 122)).alloc (.cells #[.string ⟨#[]⟩, .slice none 0 0] 66)).alloc (.cells #[.string key, .slice none 0 0] 66)).cell? ⟨w.heap.size + 1, 0, none⟩ = some (.string ⟨#[]⟩) := by simp [go_sem]
  have x1' : (((w.alloc (.cells #[.string key, .slice a len cap] 122)).alloc (.cells #[.string ⟨#[]⟩, .slice none 0 0] 66)).alloc (.cells #[.string key, .slice none 0 0] 66)).cell? ⟨w.heap.size + 1, 1, none⟩ = some (.slice none 0 0) := by simp [go_sem]
  have x2 : (((w.alloc (.cells #[.string key, .slice a len cap] 122)).alloc (.cells #[.string ⟨#[]⟩, .slice none 0 0] 66)).alloc (.cells #[.string key, .slice none 0 0] 66)).cell? ⟨w.heap.size + 1 + 1, 0, none⟩ = some (.string key) := by simp [go_sem]
  have x2' : (((w.alloc (.cells #[.string key, .slice a len cap] 122)).alloc (.cells #[.string ⟨#[]⟩, .slice none 0 0] 66)).alloc (.cells #[.string key, .slice none 0 0] 66)).cell? ⟨w.heap.size + 1 + 1, 1, none⟩ = some (.slice none 0 0) := by simp [go_sem]
  have f1 : (((w.alloc (.cells #[.string key, .slice a len cap] 122)).alloc (.cells #[.string ⟨#[]⟩, .slice none 0 0] 66)).alloc (.cells #[.string key, .slice none 0 0] 66)).frozen? ⟨w.heap.size + 1, 0, none⟩ = false := by simp [go_sem]
  have f1' : (((w.alloc (.cells #[.string key, .slice a len cap] 122)).alloc (.cells #[.string ⟨#[]⟩, .slice none 0 0] 66)).alloc (.cells #[.string key, .slice none 0 0] 66)).frozen? ⟨w.heap.size + 1, 1, none⟩ = false := by simp [go_sem]
  have f2 : (((w.alloc (.cells #[.string key, .slice a len cap] 122)).alloc (.cells #[.string ⟨#[]⟩, .slice none 0 0] 66)).alloc (.cells #[.string key, .slice none 0 0] 66)).frozen? ⟨w.heap.size + 1 + 1, 1, none⟩ = false := by simp [go_sem]
  go_enter Try.func91, Try.ntmps91
  go_wp2_with fail
  generalize ((w.alloc (.cells #[.string key, .slice a len cap] 122)).alloc (.cells #[.string ⟨#[]⟩, .slice none 0 0] 66)).alloc (.cells #[.string key, .slice none 0 0] 66) = w0 at *
  refine (toRowS_any a len cap rs w0 hm R1).mono ?_
  rintro e w1 ⟨rfl, hb1, hO⟩
  have l1 : w.heap.size + 1 < w0.heap.size := by omega
  have l2 : w.heap.size + 1 + 1 < w0.heap.size := by omega
  replace x1 := (hb1.cell (p := ⟨w.heap.size + 1, 0, none⟩) l1).trans x1
  replace x1' := (hb1.cell (p := ⟨w.heap.size + 1, 1, none⟩) l1).trans x1'
  replace x2 := (hb1.cell (p := ⟨w.heap.size + 1 + 1, 0, none⟩) l2).trans x2
  replace x2' := (hb1.cell (p := ⟨w.heap.size + 1 + 1, 1, none⟩) l2).trans x2'
  replace f1 := (hb1.frozen (p := ⟨w.heap.size + 1, 0, none⟩) l1).trans f1
  replace f1' := (hb1.frozen (p := ⟨w.heap.size + 1, 1, none⟩) l1).trans f1'
  replace f2 := (hb1.frozen (p := ⟨w.heap.size + 1 + 1, 1, none⟩) l2).trans f2
  have hB := hb0.trans (hb1.mono (by omega))
  have hg : w.heap.size ≤ w0.heap.size := by omega
  have l3 : w.heap.size ≤ w.heap.size + 1 := by omega
  have l4 : w.heap.size ≤ w.heap.size + 1 + 1 := by omega
  have h9 := ((hB.setCell (p := ⟨w.heap.size + 1 + 1, 1, none⟩) l4 (.slice (some ⟨w0.heap.size, 0, none⟩) len len)).setCell (p := ⟨w.heap.size + 1, 0, none⟩) l3 (.string key)).setCell (p := ⟨w.heap.size + 1, 1, none⟩) l3 (.slice (some ⟨w0.heap.size, 0, none⟩) len len)
  have hO9 : (((w1.setCell ⟨w.heap.size + 1 + 1, 1, none⟩ (.slice (some ⟨w0.heap.size, 0, none⟩) len len)).setCell ⟨w.heap.size + 1, 0, none⟩ (.string key)).setCell ⟨w.heap.size + 1, 1, none⟩ (.slice (some ⟨w0.heap.size, 0, none⟩) len len)).ownsRow w.heap.size 68 3 (.slice (some ⟨w0.heap.size, 0, none⟩) len len) len (flat rs) := by
    refine own_base' (own_other (own_other (own_other hO (gb_store (World.grownBy.refl w1 (some (w.heap.size + 1 + 1))) 1 _) ?_) (gb_store (World.grownBy.refl _ (some (w.heap.size + 1))) 0 _) ?_) (gb_store (World.grownBy.refl _ (some (w.heap.size + 1))) 1 _) ?_) hg
    · intro g e h; injection e with e; injection h with h; simp at e; omega
    · intro g e h; injection e with e; injection h with h; simp at e; omega
    · intro g e h; injection e with e; injection h with h; simp at e; omega
  clear hb1 R1 hb0 s0 l1 l2 l3 l4 hO
  go_wp2_with fail
  refine bodyPost_ret (v := .agg #[.string key, .slice (some ⟨w0.heap.size, 0, none⟩) len len]) ?_ rfl ⟨w0.heap.size, hg, rfl, h9, hO9⟩
  simp [results, Try.results91, asAddr, go_sem, x1, x1']
theorem take_set2G {xs A : List Value} {k : Nat} (a b : Value) (h : xs.take (k * 2) = A) (hl : k * 2 + 1 < xs.length) : ((xs.set (k * 2) a).set (k * 2 + 1) b).take ((k + 1) * 2) = A ++ [a, b] := by
  subst h
  apply List.ext_getElem?
  intro j
  have hlen : (xs.take (k * 2)).length = k * 2 := by simp; omega
  rcases Nat.lt_or_ge j (k * 2) with h1 | h1
  · rw [List.getElem?_append_left (by omega), List.getElem?_take_of_lt (by omega), List.getElem?_take_of_lt h1, List.getElem?_set_ne (by omega), List.getElem?_set_ne (by omega)]
  · rw [List.getElem?_append_right (by omega), hlen]
    rcases (show j = k * 2 ∨ j = k * 2 + 1 ∨ k * 2 + 2 ≤ j by omega) with e | e | e
    · rw [List.getElem?_take_of_lt (by omega), List.getElem?_set_ne (by omega), e, List.getElem?_set_self (by omega), Nat.sub_self]; rfl
    · rw [List.getElem?_take_of_lt (by omega), e, List.getElem?_set_self (by simp; omega), show k * 2 + 1 - k * 2 = 1 by omega]; rfl
    · rw [List.getElem?_eq_none (by simp; omega), List.getElem?_eq_none (by simp; omega)]
set_option maxRecDepth 100000 in
set_option maxHeartbeats 2000000 in
theorem toGroupS_any (a : Option Addr) (len cap : Nat) (G : List (ByteArray × List RowV)) (w : World) (hm : len ≤ 1048576) (hr : rowsG G ≤ 1048576) (hP : GArg w w.heap.size a len G) :
    Calls Try.prog 41 #[.slice a len cap] w fun e w' => ∃ (p : Option Addr) (gs : List (ByteArray × Value)), e = .returned (.slice p len len) ∧ Below w.heap.size w w' ∧ GOwn w' w.heap.size p len len gs G := by
  obtain ⟨i0, hi, hz0, hz1, hz2⟩ := info_parts infoGroup
  have hpl := Lib.hid hP.1
  go_enter Try.func41, Try.ntmps41
  go_wp2_with (at_make; refine wpList_make_full _ rfl _ _ 56 rfl w.heap.size 66 i0 (.agg #[.string ⟨#[]⟩, .slice none 0 0]) 2 Try.underlying56 hi hz0 hz1 .i64 .i64 _ _ len rfl rfl (by omega) (by omega) (by rw [hz2]; omega) (by unfold maxLen; omega) (Nat.le_refl _) ?_; intro w1 hown hgrow)
  have hb1 := (Below.refl w.heap.size w).grown hgrow (Nat.le_refl _) (by simp)
  clear hgrow
  go_loopw [4] (fun i wr => ∃ (k : Nat) (xs : List Value) (gs : List (ByteArray × Value)), k ≤ len ∧ i = .int .i64 k ∧ Below w.heap.size w wr ∧ wr.ownsRow w.heap.size 66 2 (.slice (some ⟨w.heap.size, 0, none⟩) len len) len xs ∧ Hid (xs.take (k * 2) = gcells gs ∧ gs.map (·.1) = (G.take k).map (·.1)) ∧ Hid (Fam wr (w.heap.size + 1) (gs.map (·.2)) ((G.take k).map (·.2)))) (fun i _ => len - (intOf i).toNat)
  case atStart => exact ⟨0, _, [], Nat.zero_le _, rfl, hb1, hown, Lib.hid ⟨by simp [gcells], by simp⟩, Lib.hid (by simpa using Fam.nil _ _)⟩
  case round =>
    obtain ⟨k, xs, gs, hk, rfl, hb, hO, Hx, HF⟩ := hrel
    clear hown hb1
    by_cases hlt : k < len
    · obtain ⟨key, r1, b1, o1, a1, c1, hr1, rfl, hB1, d0, d1, R1⟩ := ((hP.below hb (Nat.le_refl _)).more hb.size).at_ hlt
      have hl1 : r1.length ≤ 1048576 := by
        have := rowsIn_at (ps := G.map (·.2)) (i := k) (rs := r1) (by rw [List.getElem?_map, hr1]; rfl)
        unfold rowsG at hr; omega
      have HT := Lib.hid (show G.take (k + 1) = G.take k ++ [(key, r1)] by rw [List.take_add_one, hr1]; rfl)
      clear hr1
      have hgw : w.heap.size < wr.heap.size := (own_ge hO w.heap.size rfl).2
      go_wp2_with fail
      refine (toGroup_any key a1 r1.length c1 r1 wr hl1 R1).mono ?_
      rintro e w2 ⟨g, hg, rfl, hb2, hO1⟩
      have hO2 := own_below hO hb2
      have hxl : k * 2 + 1 < xs.length := by rw [hO.1]; omega
      have HF2 := Lib.hid (((HF.out.snoc hb2 (v := .slice (some ⟨g, 0, none⟩) r1.length r1.length) (own_base' hO1 (by omega)) (fun q e => by injection e with e; simp at e; omega)).put (G := w.heap.size) (j := k * 2) (by omega) (.string key)).put (G := w.heap.size) (j := k * 2 + 1) (by omega) (.slice (some ⟨g, 0, none⟩) r1.length r1.length))
      have Hx2 := Lib.hid (show ((xs.set (k * 2) (.string key)).set (k * 2 + 1) (.slice (some ⟨g, 0, none⟩) r1.length r1.length)).take ((k + 1) * 2) = gcells (gs ++ [(key, .slice (some ⟨g, 0, none⟩) r1.length r1.length)]) ∧ (gs ++ [(key, Value.slice (some ⟨g, 0, none⟩) r1.length r1.length)]).map (·.1) = (G.take (k + 1)).map (·.1) from ⟨by rw [gcells_snoc]; exact take_set2G _ _ Hx.out.1 hxl, by rw [HT.out, List.map_append, List.map_append, Hx.out.2]; rfl⟩)
      have HF3 : Hid (Fam ((w2.setCell ⟨w.heap.size, k * 2, none⟩ (.string key)).setCell ⟨w.heap.size, k * 2 + 1, none⟩ (.slice (some ⟨g, 0, none⟩) r1.length r1.length)) (w.heap.size + 1) ((gs ++ [(key, Value.slice (some ⟨g, 0, none⟩) r1.length r1.length)]).map (·.2)) ((G.take (k + 1)).map (·.2))) := Lib.hid (by rw [HT.out, List.map_append, List.map_append]; exact HF2.out)
      have f0 := hO2.frozenAt (k * 2)
      have f1 := hO2.frozenAt (k * 2 + 1)
      obtain ⟨u0, e0⟩ := own_cell hO2 (j := k * 2) (by omega)
      obtain ⟨u1, e1⟩ := own_cell hO2 (j := k * 2 + 1) (by omega)
      have hB2 : Below w.heap.size w w2 := hb.trans (hb2.mono hb.size)
      have hO3 : ((w2.setCell ⟨w.heap.size, k * 2, none⟩ (.string key)).setCell ⟨w.heap.size, k * 2 + 1, none⟩ (.slice (some ⟨g, 0, none⟩) r1.length r1.length)).ownsRow w.heap.size 66 2 (.slice (some ⟨w.heap.size, 0, none⟩) len len) len ((xs.set (k * 2) (.string key)).set (k * 2 + 1) (.slice (some ⟨g, 0, none⟩) r1.length r1.length)) := ((hO2.stored (k * 2) (.string key)).1.stored (k * 2 + 1) (.slice (some ⟨g, 0, none⟩) r1.length r1.length)).1
      have hB3 := (hB2.setCell (p := ⟨w.heap.size, k * 2, none⟩) (Nat.le_refl _) (.string key)).setCell (p := ⟨w.heap.size, k * 2 + 1, none⟩) (Nat.le_refl _) (.slice (some ⟨g, 0, none⟩) r1.length r1.length)
      clear d0 d1 hb2 hO hO1 R1 HF Hx hO2 hB2 HF2
      go_wp2_with fail
      go_roundw
      case rel => exact ⟨k + 1, _, _, by omega, by go_num, hB3, hO3, Hx2, HF3⟩
      case measure => simp [intOf]; omega
    · obtain rfl : k = len := by omega
      obtain ⟨hx, hkk⟩ := Hx.out
      rw [List.take_of_length_le (by rw [hO.1]; omega)] at hx
      subst hx
      have hF := HF.out
      rw [List.take_of_length_le (by rw [hpl.out]; omega)] at hF hkk
      clear HF Hx
      go_wp2_with fail
      go_ret
      refine ⟨some ⟨w.heap.size, 0, none⟩, gs, rfl, hb, ⟨hO, hkk, hF.base (Nat.le_succ _), fun v hv q hq e => ?_⟩⟩
      obtain ⟨i, hi⟩ := List.getElem?_of_mem hv
      have hil : i < (G.map (·.2)).length := by rw [← hF.len]; exact (List.getElem?_eq_some_iff.1 hi).1
      have := (own_ge (hF.own i v _ hi (List.getElem?_eq_getElem hil)) q hq).1
      injection e with e
      simp at e
      omega
end Go.Proofs.Ytgdbpckobngmjaa

namespace Go.Proofs.Ytgdbpckobngmjaa
open Go.RowKit
theorem rowsG_flat : ∀ G : List (ByteArray × List RowV), rowsG G = (G.flatMap (·.2)).length
  | [] => rfl
  | g :: G => by
    have := rowsG_flat G
    unfold rowsG at this ⊢
    rw [List.map_cons, List.flatMap_cons, List.length_append, ← this]
    rfl
theorem sizeG_rows : ∀ G : List (ByteArray × List RowV), sizeG G = G.length + 3 * rowsG G
  | [] => rfl
  | g :: G => by
    have := sizeG_rows G
    have e : rowsG (g :: G) = g.2.length + rowsG G := rfl
    rw [sizeG, this, e, List.length_cons]; omega
theorem rowsG_at {G : List (ByteArray × List RowV)} {g : ByteArray × List RowV} (h : g ∈ G) : g.2.length ≤ rowsG G := by
  obtain ⟨j, hj⟩ := List.getElem?_of_mem h
  exact rowsIn_at (ps := G.map (·.2)) (i := j) (by rw [List.getElem?_map, hj]; rfl)
set_option maxRecDepth 100000 in
set_option maxHeartbeats 1000000 in
theorem eqGroupS_big (a b : Option Addr) (n ca cb : Nat) (G : List (ByteArray × List RowV)) (w : World) (hm : n ≤ 1048576) (hlen : ∀ g ∈ G, g.2.length ≤ 1048576) (hA : GRd w w.heap.size a n G) (hB : GRd w w.heap.size b n G) :
    Calls Try.prog 43 #[.slice a n ca, .slice b n cb] w fun e w' => e = .returned (.bool true) ∧ Below w.heap.size w w' := by
  have hl := Lib.hid hA.1
  go_enter Try.func43, Try.ntmps43
  go_wp2
  go_loopw [5] (fun i wr => ∃ k : Nat, k ≤ n ∧ i = .int .i64 k ∧ Below w.heap.size w wr) (fun i _ => n - (intOf i).toNat)
  case atStart => exact ⟨0, Nat.zero_le _, rfl, Below.refl _ _⟩
  case round =>
    obtain ⟨k, hk, rfl, hb⟩ := hrel
    by_cases hlt : k < n
    · obtain ⟨⟨key, rs⟩, hx⟩ : ∃ x, G[k]? = some x := ⟨_, List.getElem?_eq_getElem (by rw [hl.out]; exact hlt)⟩
      obtain ⟨b1, a1, c1, rfl, hB1, d0, d1, R1⟩ := (hA.below hb (Nat.le_refl _)).2 k key rs hx
      obtain ⟨b2, a2, c2, rfl, hB2, e0, e1, R2⟩ := (hB.below hb (Nat.le_refl _)).2 k key rs hx
      have hz := hlen _ (List.mem_of_getElem? hx)
      simp only at hz
      have R1' := (R1.more hb.size)
      have R2' := (R2.more hb.size)
      clear hx R1 R2
      go_wp2_with fail
      refine wp_region_still_tail 8 (by kernel_rfl) (by kernel_rfl) ?_
      simp only [List.take_succ_cons, List.take_zero, List.drop_succ_cons, List.drop_zero]
      change wpStill _ _ wr.drew _ _ _
      repeat still_step
      refine wpStill_nil ?_
      change wpList _ _ _ _ _ wr.drew
      go_wp2_with fail
      refine (eqGroup_same key a1 a2 c1 c2 rs _ (by omega) R1'.drew' R2'.drew').mono ?_
      rintro e w1 ⟨rfl, hb1⟩
      clear d0 d1 e0 e1
      go_wp2_with fail
      go_roundw
      case rel => exact ⟨k + 1, by omega, by go_num, hb.drew.trans (hb1.mono hb.size)⟩
      case measure => simp [intOf]; omega
    · go_wp2_with fail
      go_ret
      exact ⟨rfl, hb⟩
set_option maxRecDepth 100000 in
set_option maxHeartbeats 2000000 in
theorem markGroupS_big (a : Option Addr) (n cap lo hi : Nat) (gs : List (ByteArray × Value)) (G : List (ByteArray × List RowV)) (w : World) (hm : n ≤ 1048576) (hr : sizeG G ≤ 4194303) (hlen : ∀ g ∈ G, g.2.length ≤ 1048576) (hO : GOwn w lo a n cap gs G) (hB : BndG hi a gs) :
    Calls Try.prog 44 #[.slice a n cap, .int .i64 1] w fun e w' => e = .returned (.int .i64 (1 + sizeG G : Nat)) ∧ (∃ gs', GOwn w' lo a n cap gs' (marksG 1 G)) ∧ Since lo hi w w' := by
  have hl := Lib.hid hO.len.2
  obtain ⟨vs, hvs⟩ : ∃ vs, gs.map (·.2) = vs := ⟨_, rfl⟩
  obtain ⟨hB1, hB2⟩ := hB
  rw [hvs] at hB1
  have HB := Lib.hid hB1
  have HA := Lib.hid hB2
  clear hB1 hB2
  go_enter Try.func44, Try.ntmps44
  go_wp2
  go_loopw [1, 5] (fun q i wr => ∃ (j K : Nat) (gs1 : List (ByteArray × Value)), j ≤ n ∧ i = .int .i64 j ∧ q = .int .i64 K ∧ 1 ≤ K ∧ K ≤ 4194304 ∧ Hid (K = 1 + sizeG (G.take j)) ∧ Hid (gs1.map (·.2) = vs) ∧ GOwn wr lo a n cap gs1 (mixG G j) ∧ Since lo hi w wr) (fun _ i _ => n - (intOf i).toNat)
  case atStart => exact ⟨0, 1, gs, Nat.zero_le _, rfl, rfl, by omega, by omega, Lib.hid (by simp [sizeG]), Lib.hid hvs, by rw [mixG_zero]; exact hO, Since.refl _ _ _⟩
  case round =>
    obtain ⟨j, K, gs1, hj, rfl, rfl, hK1, hK2, HK, HV, hP, hS⟩ := hrel
    clear hO
    by_cases hlt : j < n
    · obtain ⟨⟨key, rs⟩, hx⟩ : ∃ x, G[j]? = some x := ⟨_, List.getElem?_eq_getElem (by rw [hl.out]; exact hlt)⟩
      have hz := hlen _ (List.mem_of_getElem? hx)
      simp only at hz
      have hxm := mixG_at hx
      obtain ⟨l1, l2⟩ := hP.len
      obtain ⟨⟨k1, v1⟩, hg1⟩ : ∃ x, gs1[j]? = some x := ⟨_, List.getElem?_eq_getElem (by omega)⟩
      have hv1 := hP.fam.own j v1 rs (by rw [List.getElem?_map, hg1]; rfl) (by rw [List.getElem?_map, hxm]; rfl)
      obtain ⟨va, vc, rfl, _⟩ := own_slice2 hv1
      have hk1 : k1 = key := by
        have e1 : (gs1.map (·.1))[j]? = some k1 := by rw [List.getElem?_map, hg1]; rfl
        have e2 : ((mixG G j).map (·.1))[j]? = some key := by rw [List.getElem?_map, hxm]; rfl
        rw [hP.keys, e2] at e1
        injection e1 with e1
        exact e1.symm
      subst hk1
      obtain ⟨g, hga, hgb, hgs⟩ := own_form hP.outer (show 0 < n by omega)
      subst hga
      have hgh := HA.out g 0 rfl
      have HG := Lib.hid (marksG_get (K := 1) hx)
      have HK2 := Lib.hid (show K + 1 + 3 * rs.length = 1 + sizeG (G.take (j + 1)) by rw [sizeG_take hx, HK.out]; simp only; omega)
      have hle : K + 1 + 3 * rs.length ≤ 4194304 := by have h1 := sizeG_le G (j + 1); have h2 := HK2.out; omega
      rw [← HK.out] at HG
      go_wp2_with fail
      refine (markText_any K _ (by omega) (by omega)).mono ?_
      rintro e w1 ⟨rfl, hb1⟩
      have hP1 := hP.below hb1
      have hS1 := hS.trans (Since.of_gb (gb_of_below hb1 none) (fun g e => by cases e))
      have f0 := hP1.outer.frozenAt (j * 2)
      obtain ⟨u0, e0⟩ := own_cell hP1.outer (j := j * 2) (by omega)
      have hP2 := hP1.setKey (k' := markB K) hg1 hxm
      have hS2 : Since lo hi w (w1.setCell ⟨g, j * 2, none⟩ (.string (markB K))) := hS1.trans (Since.of_gb (gb_store (World.grownBy.refl w1 (some g)) (j * 2) _) (fun q e => by injection e with e; subst e; exact ⟨hgb, hgh⟩))
      have hj1 := (List.getElem?_eq_some_iff.1 hg1).1
      have hj2 := (List.getElem?_eq_some_iff.1 hxm).1
      have hg2 : (gs1.set j (markB K, Value.slice va rs.length vc))[j]? = some (markB K, .slice va rs.length vc) := List.getElem?_set_self hj1
      have hx2 : ((mixG G j).set j (markB K, rs))[j]? = some (markB K, rs) := List.getElem?_set_self hj2
      have hv2 := hP2.fam.own j (.slice va rs.length vc) rs (by rw [List.getElem?_map, hg2]; rfl) (by rw [List.getElem?_map, hx2]; rfl)
      obtain ⟨_, d1⟩ := gcells_at _ j _ hg2
      have d1' : (w1.setCell ⟨g, j * 2, none⟩ (.string (markB K))).cell? ⟨g, j * 2 + 1, none⟩ = some (.slice va rs.length vc) := by rw [hP2.outer.cellAt (j * 2 + 1) (by omega)]; exact d1
      have HV2 := Lib.hid (show (gs1.set j (markB K, Value.slice va rs.length vc)).map (·.2) = vs by rw [List.map_set, set_same (by rw [List.getElem?_map, hg1]; rfl)]; exact HV.out)
      have HGm := Lib.hid (show ∀ w9, GOwn w9 lo (some ⟨g, 0, none⟩) n cap (gs1.set j (markB K, Value.slice va rs.length vc)) (((mixG G j).set j (markB K, rs)).set j (markB K, marksR (K + 1) rs.length)) → GOwn w9 lo (some ⟨g, 0, none⟩) n cap (gs1.set j (markB K, Value.slice va rs.length vc)) (mixG G (j + 1)) from fun w9 h => by rw [List.set_set, mixG_set hx HG.out] at h; exact h)
      have hvb : ∀ q, (Value.slice va rs.length vc).ownBlock = some q → lo ≤ q ∧ q < hi := fun q e => ⟨(own_ge hv2 q e).1, HB.out _ (by rw [← HV2.out]; exact List.mem_of_getElem? (by rw [List.getElem?_map, hg2]; rfl)) q e⟩
      have hwK : IntKind.i64.wrap ((K : Int) + 1) = ((K + 1 : Nat) : Int) := by rw [IntWalk.i64_in _ (by omega)]; omega
      clear hP hS hb1 hP1 hS1 hx hxm hg1 hv1
      have HP2 := Lib.hid hP2
      have HS2 := Lib.hid hS2
      have HV9 := Lib.hid hv2
      clear hP2 hS2 hv2 d1
      go_wp2_with fail
      rw [show ((K : Int) + 1) = ((K + 1 : Nat) : Int) by omega]
      refine (markRowS_any va rs.length vc (K + 1) lo _ _ (by omega) (by omega) (by omega) HV9.out).mono ?_
      rintro e w2 ⟨rfl, hM, hg3⟩
      have hP3 := HGm.out _ (HP2.out.rows hg2 hx2 hg3 (by rw [marksRlen]; exact hM))
      have hS3 := HS2.out.trans (Since.of_gb hg3 hvb)
      clear hM hg3 d1' f0 e0 HP2 HS2 HV9 HGm
      go_wp2_with fail
      go_roundw
      case rel => exact ⟨j + 1, K + 1 + 3 * rs.length, _, by omega, by go_num, by go_num, by omega, hle, HK2, HV2, hP3, hS3⟩
      case measure => simp [intOf]; omega
    · obtain rfl : j = n := by omega
      rw [mixG_all (by rw [hl.out]; omega)] at hP
      have hK := HK.out
      rw [List.take_of_length_le (Nat.le_of_eq hl.out)] at hK
      have HK' := Lib.hid hK
      clear hK HK
      go_wp2_with fail
      go_ret
      exact ⟨by rw [HK'.out]; rfl, ⟨gs1, hP⟩, hS⟩
end Go.Proofs.Ytgdbpckobngmjaa

namespace Go.Proofs.Ytgdbpckobngmjaa
open Go.RowKit Go.Shelf
attribute [local go_sem] Oper.semAt_some
theorem GOwn.bnd {w : World} {lo n c : Nat} {a : Option Addr} {gs : List (ByteArray × Value)} {G : List (ByteArray × List RowV)} (h : GOwn w lo a n c gs G) : BndG w.heap.size a gs := by
  constructor
  · intro v hv g hg
    obtain ⟨i, hi, e⟩ := List.mem_iff_getElem.1 hv
    have h1 : (gs.map (·.2))[i]? = some v := by rw [List.getElem?_eq_getElem hi, e]
    have h2 : (G.map (·.2))[i]? = some ((G.map (·.2))[i]'(by rw [← h.fam.len]; exact hi)) := List.getElem?_eq_getElem _
    exact (own_ge (h.fam.own i v _ h1 h2) g hg).2
  · rintro b o rfl
    rcases h.outer.2 with ⟨hv, _⟩ | ⟨g, cap, cur, hv, _, hgb, _⟩
    · cases hv
    · injection hv with hv
      injection hv with hv
      injection hv with h1
      subst h1
      exact (Array.getElem?_eq_some_iff.1 hgb).1
def groupsOfB (rs : List RowV) : Bool := sortedOk rs
def groupsOfS (rs : List RowV) : List (ByteArray × List RowV) := if groupsOfB rs = true then groupsR rs else []
theorem sizeG_flat : ∀ G : List (ByteArray × List RowV), sizeG G = G.length + 3 * (G.flatMap (·.2)).length
  | [] => rfl
  | g :: G => by
    rw [sizeG, sizeG_flat G, List.flatMap_cons, List.length_append, List.length_cons]
    omega
theorem groups_flatG : ∀ (n : Nat) (l : List RowV), l.length ≤ n → (groupsR l).flatMap (·.2) = l
  | _, [], _ => rfl
  | 0, _ :: _, h => by simp at h
  | n + 1, r :: l, h => by
    have hp := leadN_pos r l
    rw [groupsR_next, List.flatMap_cons, groups_flatG n _ (by rw [List.length_drop]; rw [List.length_cons] at h ⊢; omega)]
    show leadL r.key (r :: l) ++ _ = _
    rw [← lead_take, List.take_append_drop]
theorem sorted_few {rs : List RowV} (h : sortedOk rs = true) : rs.length ≤ 120 := by
  unfold sortedOk at h
  rw [Bool.and_eq_true] at h
  have h1 := h.1
  unfold rowsOk at h1
  rw [Bool.and_eq_true] at h1
  exact of_decide_eq_true h1.1
theorem groupsOfS_le (rs : List RowV) : (groupsOfS rs).length ≤ 1048576 ∧ sizeG (groupsOfS rs) ≤ 1048576 := by
  unfold groupsOfS
  split
  · rename_i h
    have h1 := sorted_few h
    have h2 := groupsF_le rs.length rs
    have h3 := sizeG_flat (groupsR rs)
    rw [groups_flatG _ rs (Nat.le_refl _)] at h3
    have h4 : (groupsR rs).length ≤ rs.length := h2
    exact ⟨by omega, by omega⟩
  · exact ⟨Nat.zero_le _, Nat.zero_le _⟩
theorem GOwn.nilG (w : World) (lo : Nat) : GOwn w lo none 0 0 [] [] := ⟨World.ownsRow_nil _ _ _ _, rfl, Fam.nil _ _, fun v hv => by cases hv⟩
theorem kept_rowG {X Y : World} {row : Option Nat} {n₀ e size n : Nat} {v : Value} {xs : List Value} (hr : X.ownsRow n₀ e size v n xs) (hg : X.grownBy Y row) (hrow : ∀ r, row = some r → ∃ o : Obj, X.heap[r]? = some o ∧ o.isCells = false) : Y.ownsRow n₀ e size v n xs := by
  refine hr.kept hg ?_
  rcases hr.2 with ⟨rfl, _⟩ | ⟨g, cap, cur, rfl, _, hgb, _⟩
  · exact .inl rfl
  · refine .inr fun e' => ?_
    obtain ⟨o, ho, hc⟩ := hrow g (by simpa [Value.ownBlock] using e'.symm)
    rw [hgb] at ho; cases ho; cases hc
theorem GOwn.keptRow {X Y : World} {row : Option Nat} {lo n c : Nat} {a : Option Addr} {gs : List (ByteArray × Value)} {G : List (ByteArray × List RowV)} (h : GOwn X lo a n c gs G) (hg : X.grownBy Y row) (hrow : ∀ r, row = some r → ∃ o : Obj, X.heap[r]? = some o ∧ o.isCells = false) : GOwn Y lo a n c gs G :=
  ⟨kept_rowG h.outer hg hrow, h.keys, ⟨h.fam.len, fun i v rs hv hr => kept_rowG (h.fam.own i v rs hv hr) hg hrow, h.fam.sep⟩, h.out⟩
theorem GOwn.setBox {W : World} {B lo n c : Nat} {t : TypeId} {u x : Value} {a : Option Addr} {gs : List (ByteArray × Value)} {G : List (ByteArray × List RowV)} (h : GOwn W lo a n c gs G) (hv : Boxed W B t u) (h1 : t ≠ 66) (h2 : t ≠ 68) : GOwn (W.setCell ⟨B, 0, none⟩ x) lo a n c gs G :=
  ⟨h.outer.kept (grownBy_setCell' W B x) (.inr (hv.not_row h1 h.outer).symm), h.keys, ⟨h.fam.len, fun i v rs hw hr => (h.fam.own i v rs hw hr).kept (grownBy_setCell' W B x) (.inr (hv.not_row h2 (h.fam.own i v rs hw hr)).symm), h.fam.sep⟩, h.out⟩
/-- A box holds a slice of groups. -/
def BoxGroups (B n₀ : Nat) (W : World) (G : List (ByteArray × List RowV)) : Prop := ∃ a c gs, Boxed W B 56 (.slice a G.length c) ∧ GOwn W n₀ a G.length c gs G
theorem boxGroups_own {β : Type} (B n₀ : Nat) (f : β → List (ByteArray × List RowV)) : Own (fun s W => BoxGroups B n₀ W (f s)) := by
  rintro s X Y row ⟨a, c, gs, hv, hP⟩ hg hrow
  refine ⟨a, c, gs, hv.kept hg (fun e' => ?_), hP.keptRow hg hrow⟩
  obtain ⟨o, ho, hc⟩ := hrow B e'.symm
  rw [show X.heap[B]? = _ from hv] at ho; cases ho; cases hc
theorem keeps_of_belowG {W W' : World} (h : Below W.heap.size W W') : KeepsOthers W W' := ⟨h.size, fun i _ hi _ => (h.block i (Array.getElem?_eq_some_iff.1 hi).1).trans hi⟩
theorem keeps_rowG {X Y : World} {n₀ e size n : Nat} {v : Value} {xs : List Value} (hr : X.ownsRow n₀ e size v n xs) (hg : X.grownBy Y v.ownBlock) : KeepsOthers X Y := by
  refine KeepsOthers.of_grownBy hg fun j o ej hj => ?_
  rcases hr.2 with ⟨rfl, _⟩ | ⟨g, cap, cur, rfl, _, hgb, _⟩
  · simp [Value.ownBlock] at ej
  · obtain rfl : g = j := by simpa [Value.ownBlock] using ej
    rw [hgb] at hj; cases hj; rfl
/-- One more group at the end of the list in the box: a call that copies its rows, an append, a store. -/
theorem round_groups {W w2 w4 : World} {B n₀ c c' : Nat} {b a' : Option Addr} {k : ByteArray} {v : Value} {gs : List (ByteArray × Value)} {D : List (ByteArray × List RowV)} {rs : List RowV} {o : Obj} (hv : Boxed W B 56 (.slice b D.length c)) (hP : GOwn W n₀ b D.length c gs D) (hn : n₀ ≤ W.heap.size) (hB : n₀ ≤ B)
    (hb : Below W.heap.size W w2) (hO : w2.ownsRow W.heap.size 68 3 v rs.length (flat rs))
    (hg4 : (w2.alloc o).grownBy w4 (Value.slice b D.length c).ownBlock) (hO4 : w4.ownsRow n₀ 66 2 (.slice a' (D.length + 1) c') (D.length + 1) (gcells gs ++ [.string k, v])) (hat : (Value.slice a' (D.length + 1) c').ownBlock = (Value.slice b D.length c).ownBlock ∨ (Value.slice a' (D.length + 1) c').ownBlock = some (w2.alloc o).heap.size) :
    Boxed w4 B 56 (.slice b D.length c) ∧ BoxGroups B n₀ (w4.setCell ⟨B, 0, none⟩ (.slice a' (D.length + 1) c')) (D ++ [(k, rs)]) ∧ Below n₀ W (w4.setCell ⟨B, 0, none⟩ (.slice a' (D.length + 1) c')) ∧ KeepsOthers W (w4.setCell ⟨B, 0, none⟩ (.slice a' (D.length + 1) c')) := by
  have hv2 : Boxed w2 B 56 (.slice b D.length c) := (hb.block _ hv.lt).trans hv
  have hP2 := hP.below hb
  have hb3 : Below W.heap.size W (w2.alloc o) := hb.alloc hb.size o
  have hv4 : Boxed w4 B 56 (.slice b D.length c) := (hv2.alloc o).kept hg4 (hv2.not_row (by decide) hP2.outer)
  have hP4 := hP.snoc hn hb3 (hO.alloc o) hg4 hO4 hat
  have hl : (D ++ [(k, rs)]).length = D.length + 1 := by rw [List.length_append, List.length_singleton]
  have hb4 : Below n₀ W w4 := ((hb.mono hn).alloc (Nat.le_trans hn hb.size) o).grown hg4 (by have := hb.size; simp; omega) (fun q e => (own_ge hP2.outer q e).1)
  refine ⟨hv4, ⟨a', c', gs ++ [(k, v)], by rw [hl]; exact hv4.set _, by rw [hl]; exact hP4.setBox hv4 (by decide) (by decide)⟩, hb4.setCell (p := ⟨B, 0, none⟩) hB _, ?_⟩
  exact (((keeps_of_belowG hb).trans (KeepsOthers.alloc _ _)).trans (keeps_rowG (hP2.outer.alloc o) hg4)).trans (KeepsOthers.setCell _ _ _)
theorem grps_snocG {w : World} {B : Nat} (l : List (GrpIn w B)) (x : GrpIn w B) : grpsOf (l ++ [x]) = grpsOf l ++ [(x.1.key, x.1.rows)] := by
  unfold grpsOf
  rw [List.map_append]
  rfl
theorem cell_grp_new (w : World) (k : ByteArray) (v : Value) (t : TypeId) (_h1 : v.oneCell' = true) : ∀ j u, [Value.string k, v][j]? = some u → (w.alloc (.cells #[.string k, v] t)).cell? (Addr.add ⟨w.heap.size, 0, none⟩ j) = some u := by
  intro j u hu
  rw [Addr.add_mid, Nat.zero_add]
  rcases j with _ | _ | j <;> simp at hu <;> subst hu <;> simp [go_sem]
set_option maxRecDepth 100000 in
set_option maxHeartbeats 4000000 in
theorem implGroupsOf_yes (a : Option Addr) (n cap : Nat) (rs : List RowV) (w : World) (hm : n ≤ 1048576) (hnc : n ≤ cap) (hok : ∀ r ∈ rs, r.Ok) (hR : Rd w w.heap.size 3 a n (flat rs)) (hs : sortedOk rs = true) :
    Calls Try.prog 46 #[.slice a n cap] w fun e w' => ∃ b c gs, e = .returned (.tuple #[.slice b (groupsR rs).length c, .bool true]) ∧ Below w.heap.size w w' ∧ GOwn w' w.heap.size b (groupsR rs).length c gs (groupsR rs) := by
  obtain ⟨i1, hi, hz0, hz1, hz2⟩ := info_parts infoGroup
  have C0 := implSortedOk_any a n cap rs w hm hok hR
  rw [hs] at C0
  have hn120 := sorted_few hs
  have HRL := Lib.hid hR.rows_length
  have CB := fun w => byKey_any a n cap w
  clear hok hs
  refine (callsIn_wide (n := 5)).1 ?_
  refine callsIn_of_wp_marks Try.func46 rfl trivial ?_ rfl
  simp only [Try.ntmps46, List.size_toArray, List.length_cons, List.length_nil, Nat.reduceAdd, Nat.reduceSub, Array.replicate_succ, Array.replicate_zero, List.push_toArray, List.append_toArray, List.nil_append, List.cons_append]
  gi_wp2_with fail
  refine ⟨trivial, ?_⟩
  refine (callsIn_wide.2 C0).mono ?_
  rintro e w1 ⟨rfl, hb1⟩
  have bF := Boxed.new w1 56 (.slice none 0 0)
  have bF2 := bl1 w1 (.cells #[.slice none 0 0] 56)
  have hR1 := hR.below hb1 (Nat.le_refl _)
  clear C0
  gi_wp2_with fail
  refine ⟨trivial, ?_⟩
  refine (callsIn_wide.2 (CB _)).mono ?_
  rintro e w2 ⟨rfl, rfl⟩
  gi_wp2_with fail
  have hW1 := bF2.alloc (by have := bF2.size; omega) (.cells #[.slice a n cap] 27)
  have bF3 := bF.alloc (.cells #[.slice a n cap] 27)
  have bC := Boxed.new (w1.alloc (.cells #[.slice none 0 0] 56)) 27 (.slice a n cap)
  rw [World.size_alloc] at bC
  have hR0 := hR1.below (hW1.mono hb1.size) (Nat.le_refl _)
  have hW0 := hb1.trans (hW1.mono hb1.size)
  generalize hWe : ((w1.alloc (.cells #[.slice none 0 0] 56)).alloc (.cells #[.slice a n cap] 27)) = W0 at *
  have hsz : w.heap.size ≤ W0.heap.size := hW0.size
  have hl2 : w.heap.size ≤ w1.heap.size := hb1.size
  clear hWe
  refine wpIn_rangeFunc_ownF rfl (by omega) (gf := 128) (lb := #[.pointer (some ⟨w1.heap.size + 1, 0, none⟩)]) rfl trivial (enters_of Try.func128 (by kernel_rfl) rfl)
    (byKey_stops _ (w1.heap.size + 1) w.heap.size a n cap rs hm hnc W0 hsz bC.cell bC.lt hR0) belowK_t (belowK_b hsz) (Below.refl _ _) (fun _ => rfl)
    (fun (pre : List (GrpIn W0 w.heap.size)) W => BoxGroups w1.heap.size w.heap.size W (grpsOf pre) ∧ Below w.heap.size W0 W)
    (fun _ _ _ => False)
    (OwnFrom.and (Own.from (boxGroups_own _ _ _) _) (ownFrom_below hsz hsz))
    (fun _ _ _ _ _ hs _ _ => hs)
    ⟨⟨_, _, [], bF3, GOwn.nilG _ _⟩, Below.refl _ _⟩
    (fun x => { tmps := #[.slice a n cap, undef, .slice none 0 0, .bool false, .pointer (some ⟨w1.heap.size, 0, none⟩), .string x.1.key, .slice x.1.a x.1.n x.1.c, .slice a n cap, .bool true, .bool false, .slice a n cap, .func (.func 128) #[] #[.pointer (some ⟨w1.heap.size + 1, 0, none⟩)], .string x.1.key, .slice x.1.a x.1.n x.1.c, undef, undef, undef, undef, undef, undef, undef, undef], defers := [] })
    ?assign ?body ?done ?stop
  case assign =>
    intro l x W K hK
    simp only [grpV] at *
    gi_wp2_with fail
    exact hK
  case body =>
    rintro l pre x W ⟨⟨b, c, gs, hv, hP⟩, hB⟩ hlt
    have hEq0 := grps_snocG pre x
    have hxR := x.2.1
    have hxm := x.2.2.2.1
    obtain ⟨⟨key, xa, xn, xc, rows⟩, hxp⟩ := x
    dsimp only at hxR hxm hEq0 ⊢
    have hxl : rows.length = xn := hxR.rows_length
    have hc := hv.cell
    have hDl : (grpsOf pre).length ≤ 120 := by rw [show (grpsOf pre).length = pre.length from List.length_map _]; omega
    have hsW : w.heap.size ≤ W.heap.size := Nat.le_trans hsz hB.size
    generalize grpsOf pre = D at *
    have HEQ := Lib.hid hEq0
    clear hEq0
    have RX : Rd W.drew W.drew.heap.size 3 xa xn (flat rows) := (hxR.below hB.drew (Nat.le_refl _)).more hsW
    refine wpIn_block ?_
    refine wpIn_region_round (by kernel_rfl) (by rfl) (by rintro ⟨a, w, h⟩; exact h) ?_
    refine wpAny_take (i := 1) (v := .string key) rfl (by kernel_rfl) (by kernel_rfl) (by kernel_rfl) (fun _ _ _ h => h) (Or.inl ⟨by rfl, fun w => by go_simp⟩) ?_
    refine wpAny_take (i := 2) (v := .slice xa xn xc) rfl (by kernel_rfl) (by kernel_rfl) (by kernel_rfl) (fun _ _ _ h => h) (Or.inl ⟨by rfl, fun w => by go_simp⟩) ?_
    refine wpAny_ready (rs := [0, 3]) (by kernel_rfl) (by simp) ?_
    refine AllReady.cons rfl (fun K hK => ?_) ?_
    · go_simp
      refine hK _ _ ?_
      clear hK K
      refine wpAny_ready (rs := [3]) (by kernel_rfl) (by simp) ?_
      refine AllReady.cons rfl (fun K hK => ?_) AllReady.nil
      go_simp
      refine (clone_any xa xn xc rows W.drew hxm RX).mono ?_
      rintro e w2 ⟨b2, c2, rfl, hO2, hb2x⟩
      refine hK _ _ ?_
      clear hK K
      refine wpAny_take (i := 4) (v := .agg #[.string key, .slice b2 xn c2]) rfl (by kernel_rfl) (by kernel_rfl) (by kernel_rfl) (fun _ _ _ h => h) (Or.inl ⟨by rfl, fun w => by go_simp⟩) ?_
      have hb2 : Below W.heap.size W w2 := (Below.refl W.heap.size W).drew.trans hb2x
      have hO2' : w2.ownsRow W.heap.size 68 3 (.slice b2 xn c2) rows.length (flat rows) := by rw [hxl]; exact hO2
      have hv2 : Boxed w2 w1.heap.size 56 (.slice b D.length c) := (hb2.block _ hv.lt).trans hv
      have hc2 := hv2.cell
      have hc2a := (hv2.alloc (.cells #[.string key, .slice b2 xn c2] 66)).cell
      refine wpAny_ready (rs := [5]) (by kernel_rfl) (by simp) ?_
      refine AllReady.cons rfl (fun K hK => ?_) AllReady.nil
      go_simp
      refine hK _ _ ?_
      clear hK K
      refine wpAny_ready (rs := [6]) (by kernel_rfl) (by simp) ?_
      refine AllReady.cons rfl (fun K hK => ?_) AllReady.nil
      refine step_append_one rfl _ _ 56 rfl w.heap.size 66 i1 (.agg #[.string ⟨#[]⟩, .slice none 0 0]) 2 40 Try.underlying56 hi hz0 hz1 hz2 rfl (by decide) (.slice b D.length c) _ _ rfl ((hP.below hb2).outer.alloc _) ⟨w2.heap.size, 0, none⟩ 1 1 [.string key, .slice b2 xn c2] rfl rfl (cell_grp_new _ _ _ _ rfl) (by intro u hu; simp at hu; rcases hu with rfl | rfl <;> rfl) (by unfold maxLen; omega) (by omega) (by have := hb2.size; simp; omega) ?_
      intro v' w4 hO4 hg4 hat
      obtain ⟨a4, c4, rfl⟩ := own_slice' hO4
      obtain ⟨hv4, hf1, hf2, hf3⟩ := round_groups hv hP hsW hl2 hb2 hO2' hg4 hO4 hat
      have hc4 := hv4.cell
      have hz4 := hv4.frozen
      refine hK _ _ ?_
      clear hK K
      refine wpAny_ready (rs := [7]) (by kernel_rfl) (by simp) ?_
      refine AllReady.cons rfl (fun K hK => ?_) AllReady.nil
      go_simp
      refine hK _ _ ?_
      clear hK K
      refine wpAny_done (by kernel_rfl) ?_ _
      exact ⟨hf3, hf2, by rw [HEQ.out]; exact hf1, hB.trans hf2⟩
    · refine AllReady.cons rfl (fun K hK => ?_) AllReady.nil
      go_simp
      refine (clone_any xa xn xc rows W.drew hxm RX).mono ?_
      rintro e w2 ⟨b2, c2, rfl, hO2, hb2x⟩
      refine hK _ _ ?_
      clear hK K
      refine wpAny_take (i := 4) (v := .agg #[.string key, .slice b2 xn c2]) rfl (by kernel_rfl) (by kernel_rfl) (by kernel_rfl) (fun _ _ _ h => h) (Or.inl ⟨by rfl, fun w => by go_simp⟩) ?_
      have hb2 : Below W.heap.size W w2 := (Below.refl W.heap.size W).drew.trans hb2x
      have hO2' : w2.ownsRow W.heap.size 68 3 (.slice b2 xn c2) rows.length (flat rows) := by rw [hxl]; exact hO2
      have hv2 : Boxed w2 w1.heap.size 56 (.slice b D.length c) := (hb2.block _ hv.lt).trans hv
      have hc2 := hv2.cell
      have hc2a := (hv2.alloc (.cells #[.string key, .slice b2 xn c2] 66)).cell
      refine wpAny_ready (rs := [0, 5]) (by kernel_rfl) (by simp) ?_
      refine AllReady.cons rfl (fun K hK => ?_) ?_
      · go_simp
        refine hK _ _ ?_
        clear hK K
        refine wpAny_ready (rs := [5]) (by kernel_rfl) (by simp) ?_
        refine AllReady.cons rfl (fun K hK => ?_) AllReady.nil
        go_simp
        refine hK _ _ ?_
        clear hK K
        refine wpAny_ready (rs := [6]) (by kernel_rfl) (by simp) ?_
        refine AllReady.cons rfl (fun K hK => ?_) AllReady.nil
        refine step_append_one rfl _ _ 56 rfl w.heap.size 66 i1 (.agg #[.string ⟨#[]⟩, .slice none 0 0]) 2 40 Try.underlying56 hi hz0 hz1 hz2 rfl (by decide) (.slice b D.length c) _ _ rfl ((hP.below hb2).outer.alloc _) ⟨w2.heap.size, 0, none⟩ 1 1 [.string key, .slice b2 xn c2] rfl rfl (cell_grp_new _ _ _ _ rfl) (by intro u hu; simp at hu; rcases hu with rfl | rfl <;> rfl) (by unfold maxLen; omega) (by omega) (by have := hb2.size; simp; omega) ?_
        intro v' w4 hO4 hg4 hat
        obtain ⟨a4, c4, rfl⟩ := own_slice' hO4
        obtain ⟨hv4, hf1, hf2, hf3⟩ := round_groups hv hP hsW hl2 hb2 hO2' hg4 hO4 hat
        have hc4 := hv4.cell
        have hz4 := hv4.frozen
        refine hK _ _ ?_
        clear hK K
        refine wpAny_ready (rs := [7]) (by kernel_rfl) (by simp) ?_
        refine AllReady.cons rfl (fun K hK => ?_) AllReady.nil
        go_simp
        refine hK _ _ ?_
        clear hK K
        refine wpAny_done (by kernel_rfl) ?_ _
        exact ⟨hf3, hf2, by rw [HEQ.out]; exact hf1, hB.trans hf2⟩
      · refine AllReady.cons rfl (fun K hK => ?_) AllReady.nil
        go_simp
        refine hK _ _ ?_
        clear hK K
        refine wpAny_ready (rs := [0]) (by kernel_rfl) (by simp) ?_
        refine AllReady.cons rfl (fun K hK => ?_) AllReady.nil
        go_simp
        refine hK _ _ ?_
        clear hK K
        refine wpAny_ready (rs := [6]) (by kernel_rfl) (by simp) ?_
        refine AllReady.cons rfl (fun K hK => ?_) AllReady.nil
        refine step_append_one rfl _ _ 56 rfl w.heap.size 66 i1 (.agg #[.string ⟨#[]⟩, .slice none 0 0]) 2 40 Try.underlying56 hi hz0 hz1 hz2 rfl (by decide) (.slice b D.length c) _ _ rfl ((hP.below hb2).outer.alloc _) ⟨w2.heap.size, 0, none⟩ 1 1 [.string key, .slice b2 xn c2] rfl rfl (cell_grp_new _ _ _ _ rfl) (by intro u hu; simp at hu; rcases hu with rfl | rfl <;> rfl) (by unfold maxLen; omega) (by omega) (by have := hb2.size; simp; omega) ?_
        intro v' w4 hO4 hg4 hat
        obtain ⟨a4, c4, rfl⟩ := own_slice' hO4
        obtain ⟨hv4, hf1, hf2, hf3⟩ := round_groups hv hP hsW hl2 hb2 hO2' hg4 hO4 hat
        have hc4 := hv4.cell
        have hz4 := hv4.frozen
        refine hK _ _ ?_
        clear hK K
        refine wpAny_ready (rs := [7]) (by kernel_rfl) (by simp) ?_
        refine AllReady.cons rfl (fun K hK => ?_) AllReady.nil
        go_simp
        refine hK _ _ ?_
        clear hK K
        refine wpAny_done (by kernel_rfl) ?_ _
        exact ⟨hf3, hf2, by rw [HEQ.out]; exact hf1, hB.trans hf2⟩
  case done =>
    rintro D ys W hD hys ⟨⟨b, c, gs, hv, hP⟩, hB⟩ hK
    rw [hys] at hv hP
    have hc := hv.cell
    gi_wp2_with fail
    refine ⟨by simp, .inl ⟨_, _, rfl, run_takeDeferred hK, ?_⟩⟩
    exact ⟨_, results_tmp2 rfl _ _ _, b, c, gs, by simp, (hW0.trans hB).trans (belowK_b (w := w) (Nat.le_refl _) W D _ _ (by omega) hK rfl rfl), hP.keptRow (grownBy_putObj' W D _) (fun r e => by cases e; exact ⟨_, hK, rfl⟩)⟩
  case stop =>
    rintro D c pre W _ _ h _
    exact h.elim
set_option maxRecDepth 100000 in
set_option maxHeartbeats 1000000 in
theorem implGroupsOf_any (a : Option Addr) (n cap : Nat) (rs : List RowV) (w : World) (hm : n ≤ 1048576) (hnc : n ≤ cap) (hok : ∀ r ∈ rs, r.Ok) (hR : Rd w w.heap.size 3 a n (flat rs)) :
    Calls Try.prog 46 #[.slice a n cap] w fun e w' => ∃ b c gs, e = .returned (.tuple #[.slice b (groupsOfS rs).length c, .bool (groupsOfB rs)]) ∧ Below w.heap.size w w' ∧ GOwn w' w.heap.size b (groupsOfS rs).length c gs (groupsOfS rs) := by
  unfold groupsOfS groupsOfB
  cases hs : sortedOk rs
  · rw [if_neg (by decide)]
    have C0 := implSortedOk_any a n cap rs w hm hok hR
    rw [hs] at C0
    clear hs
    go_enter Try.func46, Try.ntmps46
    go_wp2_with fail
    refine C0.mono ?_
    rintro e w1 ⟨rfl, hb⟩
    go_wp2_with fail
    go_ret2
    exact ⟨none, 0, [], rfl, hb, GOwn.nilG _ _⟩
  · rw [if_pos rfl]
    exact implGroupsOf_yes a n cap rs w hm hnc hok hR hs
set_option maxRecDepth 100000 in
set_option maxHeartbeats 1000000 in
theorem specGroupsOf_any (a : Option Addr) (n cap : Nat) (rs : List RowV) (w : World) (hm : n ≤ 1048576) (hok : ∀ r ∈ rs, r.Ok) (hR : Rd w w.heap.size 3 a n (flat rs)) :
    Calls Try.prog 47 #[.slice a n cap] w fun e w' => ∃ b c gs, e = .returned (.tuple #[.slice b (groupsOfS rs).length c, .bool (groupsOfB rs)]) ∧ Below w.heap.size w w' ∧ GOwn w' w.heap.size b (groupsOfS rs).length c gs (groupsOfS rs) := by
  have C0 := specSortedOk_any a n cap rs w hm hok hR
  unfold groupsOfS groupsOfB
  cases hs : sortedOk rs
  · rw [if_neg (by decide)]
    rw [hs] at C0
    clear hs
    go_enter Try.func47, Try.ntmps47
    go_wp2_with fail
    refine C0.mono ?_
    rintro e w1 ⟨rfl, hb⟩
    go_wp2_with fail
    go_ret2
    exact ⟨none, 0, [], rfl, hb, GOwn.nilG _ _⟩
  · rw [if_pos rfl]
    rw [hs] at C0
    clear hs
    have CG := fun w h => l4Groups_any a n cap rs w hm h
    unfold GroupsOut at CG
    generalize groupsR rs = T at *
    go_enter Try.func47, Try.ntmps47
    go_wp2_with fail
    refine C0.mono ?_
    rintro e w1 ⟨rfl, hb⟩
    have C1 := CG w1 ((hR.below hb (Nat.le_refl _)).more hb.size)
    clear C0 CG
    go_wp2_with fail
    refine C1.mono ?_
    rintro e w2 ⟨b, c, gs, rfl, hb2, hG⟩
    have B2 := hb.trans (hb2.mono hb.size)
    have hG2 : GOwn w2 w.heap.size b T.length c gs T := ⟨own_base' hG.outer hb.size, hG.keys, ⟨hG.fam.len, fun i v r h1 h2 => own_base' (hG.fam.own i v r h1 h2) hb.size, hG.fam.sep⟩, hG.out⟩
    go_wp2_with fail
    go_ret2
    exact ⟨b, c, gs, rfl, B2, hG2⟩
end Go.Proofs.Ytgdbpckobngmjaa

namespace Go.Proofs.Ytgdbpckobngmjaa
open Go.RowKit

theorem markRowS_one (a : Option Addr) (n cap base : Nat) (xs : List Value) (w : World) (hm : n ≤ 1048576) (hO : w.ownsRow base 68 3 (.slice a n cap) n xs) :
    Calls Try.prog 21 #[.slice a n cap, .int .i64 1] w fun e w' => e = .returned (.int .i64 (1 + 3 * n)) ∧ w'.ownsRow base 68 3 (.slice a n cap) n (flat (marksR 1 n)) ∧ w.grownBy w' (Value.slice a n cap).ownBlock := markRowS_any a n cap 1 base xs w hm (by omega) (by omega) hO
theorem heldRowS_one (a : Option Addr) (n cap : Nat) (w : World) (hm : n ≤ 1048576) (hR : Rd w w.heap.size 3 a n (flat (marksR 1 n))) :
    Calls Try.prog 28 #[.slice a n cap, .int .i64 1] w fun e w' => e = .returned (.int .i64 (1 + 3 * n)) ∧ Below w.heap.size w w' := heldRowS_any a n cap 1 w hm (by omega) (by omega) hR
/-- An older slice does not lie in a younger owned block. -/
theorem Rd.gb_own {w w' : World} {B size n base e s k cap : Nat} {a b : Option Addr} {xs ys : List Value} (h : Rd w B size a n xs) (hg : w.grownBy w' (Value.slice b k cap).ownBlock) (hO : w.ownsRow base e s (.slice b k cap) k ys) (hB : B ≤ base) (hBw : B ≤ w.heap.size) : Rd w' B size a n xs :=
  ⟨h.1, fun hn => by
    obtain ⟨g, off, e, hb, hc⟩ := h.2 hn
    have hne : some g ≠ (Value.slice b k cap).ownBlock := fun h' => by have := (own_ge hO g h'.symm).1; omega
    exact ⟨g, off, e, hb, fun j u hu => (World.cell?_of_block (a := ⟨g, off + j, none⟩) (hg.block g (by omega) hne)).trans (hc j u hu)⟩⟩
end Go.Proofs.Ytgdbpckobngmjaa

namespace Go.Proofs.Ytgdbpckobngmjaa
open Go.RowKit

set_option maxRecDepth 100000 in
set_option maxHeartbeats 4000000 in
theorem walk_ExactUngrouped (a0 : Option Addr) (len0 cap0 : Nat) (x0 : List (ByteArray × List RowV)) (w : World) (hI0 : IsGroups w a0 len0 cap0 x0) :
    Calls Try.prog 9 #[.slice a0 len0 cap0] w fun e w' => e = .returned (.bool true) ∧ Below w.heap.size w w' := by
  obtain ⟨hlc0, hcm0, hok0, hR0⟩ := hI0
  have CS : ∀ (b0 : Option Addr) (c0 : Nat) (w : World), len0 ≤ 1048576 → rowsG x0 ≤ 1048576 → GRd w w.heap.size b0 len0 x0 → Calls Try.prog 40 #[.slice b0 len0 c0] w fun e w' => ∃ a c, e = .returned (.tuple #[.slice a (ungroupedS x0).length c, .bool (ungroupedB x0)]) ∧ Below w.heap.size w w' ∧ w'.ownsRow w.heap.size 68 3 (.slice a (ungroupedS x0).length c) (ungroupedS x0).length (flat (ungroupedS x0)) := fun b0 c0 w m0 r0 d0 => specUngrouped_any b0 len0 c0 x0 w  m0 (by rw [← rowsG_flat]; exact r0) hok0 d0
  have CI : ∀ (b0 : Option Addr) (c0 : Nat) (w : World), len0 ≤ 1048576 → rowsG x0 ≤ 1048576 → GRd w w.heap.size b0 len0 x0 → Calls Try.prog 42 #[.slice b0 len0 c0] w fun e w' => ∃ a c, e = .returned (.tuple #[.slice a (ungroupedS x0).length c, .bool (ungroupedB x0)]) ∧ Below w.heap.size w w' ∧ w'.ownsRow w.heap.size 68 3 (.slice a (ungroupedS x0).length c) (ungroupedS x0).length (flat (ungroupedS x0)) := fun b0 c0 w m0 r0 d0 => implUngrouped_any b0 len0 c0 x0 w  m0 (by rw [← rowsG_flat]; exact r0) hok0 d0
  have hsl := ungroupedS_le x0
  generalize (ungroupedB x0) = ok at CS CI
  generalize ungroupedS x0 = ss at CS CI hsl
  have hsm := hsl
  clear hsl
  generalize hln : ss.length = m at CS CI hsm
  clear hln
  go_enter Try.func9, Try.ntmps9
  have B0 := Below.refl w.heap.size w
  go_wp2_with fail
  refine (szGroupS_any a0 len0 cap0 x0 _ _ (by omega) hok0 ((hR0.below B0 (Nat.le_refl _)).more B0.size) (by omega) (by omega)).mono ?_
  rintro e w1 ⟨z1, rfl, hb, hz⟩
  rcases hz with rfl | ⟨hz0_0, hz1_0, hz2_0⟩
  · go_wp2_with fail
    go_ret
    exact ⟨rfl, B0.trans (hb.mono B0.size)⟩
  have B1 := B0.trans (hb.mono B0.size)
  have s1 : w.heap.size ≤ w1.heap.size := hb.size
  clear hb B0
  have hm0 : len0 ≤ 1048576 := by omega
  have hr0 : rowsG x0 ≤ 1048576 := by omega
  have hlen0 : ∀ g ∈ x0, g.2.length ≤ 1048576 := fun g hg => Nat.le_trans (rowsG_at hg) hr0
  have hsz0 : sizeG x0 ≤ 4194303 := by rw [sizeG_rows, hR0.1]; omega
  go_wp2_with fail
  refine (toGroupS_any a0 len0 cap0 x0 _ hm0 hr0 ((hR0.below B1 (Nat.le_refl _)).more B1.size)).mono ?_
  rintro e w2 ⟨pS0, vS0, rfl, hb, hO⟩
  have B2 := B1.trans (hb.mono B1.size)
  have s2 : w1.heap.size ≤ w2.heap.size := hb.size
  clear hb B1
  have S0_2 := hO
  clear hO
  go_wp2_with fail
  refine (CS _ len0 _ hm0 hr0 S0_2.rd).mono ?_
  rintro e w3 ⟨aW, cW, rfl, hb, hO⟩
  have B3 := B2.trans (hb.mono B2.size)
  have s3 : w2.heap.size ≤ w3.heap.size := hb.size
  have S0_3 := S0_2.below hb
  clear S0_2
  clear hb B2
  have V_3 := Rd.of_own hO
  clear hO CS
  clear S0_3
  go_wp2_with fail
  refine (toGroupS_any a0 len0 cap0 x0 _ hm0 hr0 ((hR0.below B3 (Nat.le_refl _)).more B3.size)).mono ?_
  rintro e w4 ⟨pX0, vX0, rfl, hb, hO⟩
  have B4 := B3.trans (hb.mono B3.size)
  have s4 : w3.heap.size ≤ w4.heap.size := hb.size
  have V_4 := V_3.below hb (by omega)
  clear V_3
  clear hb B3
  have X0_4 := hO
  clear hO
  have hBX0 := X0_4.bnd
  go_wp2_with fail
  refine (CI _ len0 _ hm0 hr0 X0_4.rd).mono ?_
  rintro e w5 ⟨aG, cG, rfl, hb, hO⟩
  have B5 := B4.trans (hb.mono B4.size)
  have s5 : w4.heap.size ≤ w5.heap.size := hb.size
  have V_5 := V_4.below hb (by omega)
  clear V_4
  have X0_5 := X0_4.below hb
  clear X0_4
  clear hb B4
  have G_5 := hO
  clear hO
  go_wp2_with fail
  refine (eqRowS_same aG aW m cG cW ss _ (by omega) (Rd.of_own G_5) (V_5.more (by omega))).mono ?_
  rintro e w6 ⟨rfl, hb⟩
  have B6 := B5.trans (hb.mono B5.size)
  have s6 : w5.heap.size ≤ w6.heap.size := hb.size
  have V_6 := V_5.below hb (by omega)
  clear V_5
  have X0_6 := X0_5.below hb
  clear X0_5
  have G_6 := own_below G_5 hb
  clear G_5
  clear hb B5
  go_wp2_with fail
  refine (toGroupS_any a0 len0 cap0 x0 _ hm0 hr0 ((hR0.below B6 (Nat.le_refl _)).more B6.size)).mono ?_
  rintro e w7 ⟨pY0, vY0, rfl, hb, hO⟩
  have B7 := B6.trans (hb.mono B6.size)
  have s7 : w6.heap.size ≤ w7.heap.size := hb.size
  have V_7 := V_6.below hb (by omega)
  clear V_6
  have X0_7 := X0_6.below hb
  clear X0_6
  have G_7 := own_below G_6 hb
  clear G_6
  clear hb B6
  have Y0_7 := hO
  clear hO
  go_wp2_with fail
  refine (eqGroupS_big _ _ len0 _ _ x0 _ hm0 hlen0 X0_7.rd Y0_7.rd).mono ?_
  rintro e w8 ⟨rfl, hb⟩
  have B8 := B7.trans (hb.mono B7.size)
  have s8 : w7.heap.size ≤ w8.heap.size := hb.size
  have V_8 := V_7.below hb (by omega)
  clear V_7
  have X0_8 := X0_7.below hb
  clear X0_7
  have G_8 := own_below G_7 hb
  clear G_7
  have Y0_8 := Y0_7.below hb
  clear Y0_7
  clear hb B7
  clear Y0_8
  go_wp2_with fail
  refine (markGroupS_big _ len0 _ w3.heap.size _ _ x0 _ hm0 hsz0 hlen0 X0_8 hBX0).mono ?_
  rintro e w9 ⟨rfl, _, hS⟩
  clear X0_8
  have s9 : w8.heap.size ≤ w9.heap.size := hS.size
  have B9 := B8.trans (hS.below (B := w.heap.size) (by have := B8.size; omega) B8.size)
  have V_9 := V_8.below (hS.below (B := w3.heap.size) (by omega) (by omega)) (Nat.le_refl _)
  clear V_8
  have G_9 := Since.own G_8 hS (by omega)
  clear G_8
  clear hS B8
  go_wp2_with fail
  refine (eqRowS_same aG aW m cG cW ss _ (by omega) (Rd.of_own G_9) (V_9.more (by omega))).mono ?_
  rintro e w10 ⟨rfl, hb⟩
  have B10 := B9.trans (hb.mono B9.size)
  have s10 : w9.heap.size ≤ w10.heap.size := hb.size
  have V_10 := V_9.below hb (by omega)
  clear V_9
  have G_10 := own_below G_9 hb
  clear G_9
  clear hb B9
  go_wp2_with fail
  refine (markRowS_any aG m cG 1 w4.heap.size _ _ (by omega) (by omega) (by omega) G_10).mono ?_
  rintro e w11 ⟨rfl, hG2, hg⟩
  have hS : Since w4.heap.size w10.heap.size w10 w11 := Since.of_gb hg (fun g e => own_ge G_10 g e)
  clear hg
  clear G_10
  have s11 : w10.heap.size ≤ w11.heap.size := hS.size
  have B11 := B10.trans (hS.below (B := w.heap.size) (by have := B10.size; omega) B10.size)
  have V_11 := V_10.below (hS.below (B := w3.heap.size) (by omega) (by omega)) (Nat.le_refl _)
  clear V_10
  clear hS B10
  have Z_11 := Rd.of_own hG2
  clear hG2
  go_wp2_with fail
  refine (heldRowS_any aG m cG 1 _ (by omega) (by omega) (by omega) (Z_11.more (by omega))).mono ?_
  rintro e w12 ⟨rfl, hb⟩
  have B12 := B11.trans (hb.mono B11.size)
  have s12 : w11.heap.size ≤ w12.heap.size := hb.size
  have V_12 := V_11.below hb (by omega)
  clear V_11
  have Z_12 := Z_11.below hb (by omega)
  clear Z_11
  clear hb B11
  go_wp2_with fail
  refine (toGroupS_any a0 len0 cap0 x0 _ hm0 hr0 ((hR0.below B12 (Nat.le_refl _)).more B12.size)).mono ?_
  rintro e w13 ⟨pQ0, vQ0, rfl, hb, hO⟩
  have B13 := B12.trans (hb.mono B12.size)
  have s13 : w12.heap.size ≤ w13.heap.size := hb.size
  have V_13 := V_12.below hb (by omega)
  clear V_12
  have Z_13 := Z_12.below hb (by omega)
  clear Z_12
  clear hb B12
  have Q0_13 := hO
  clear hO
  go_wp2_with fail
  refine (CI _ len0 _ hm0 hr0 Q0_13.rd).mono ?_
  rintro e w14 ⟨aH, cH, rfl, hb, hO⟩
  have B14 := B13.trans (hb.mono B13.size)
  have s14 : w13.heap.size ≤ w14.heap.size := hb.size
  have V_14 := V_13.below hb (by omega)
  clear V_13
  have Z_14 := Z_13.below hb (by omega)
  clear Z_13
  have Q0_14 := Q0_13.below hb
  clear Q0_13
  clear hb B13
  have H_14 := hO
  clear hO
  clear Q0_14
  go_wp2_with fail
  refine (eqRowS_same aH aW m cH cW ss _ (by omega) (Rd.of_own H_14) (V_14.more (by omega))).mono ?_
  rintro e w15 ⟨rfl, hb⟩
  have B15 := B14.trans (hb.mono B14.size)
  have s15 : w14.heap.size ≤ w15.heap.size := hb.size
  have V_15 := V_14.below hb (by omega)
  clear V_14
  have Z_15 := Z_14.below hb (by omega)
  clear Z_14
  have H_15 := own_below H_14 hb
  clear H_14
  clear hb B14
  clear H_15
  clear V_15
  go_wp2_with fail
  refine (heldRowS_any aG m cG 1 _ (by omega) (by omega) (by omega) (Z_15.more (by omega))).mono ?_
  rintro e w16 ⟨rfl, hb⟩
  have B16 := B15.trans (hb.mono B15.size)
  have s16 : w15.heap.size ≤ w16.heap.size := hb.size
  have Z_16 := Z_15.below hb (by omega)
  clear Z_15
  clear hb B15
  go_wp2_with fail
  go_ret
  exact ⟨rfl, B16⟩
end Go.Proofs.Ytgdbpckobngmjaa

namespace Go.Proofs.Ytgdbpckobngmjaa
open Go.ChangeShapes Go.WideShapes Go.ChangeAt Go.RowKit Go.Joins Go.Deep
section
variable {H : Type} {enc : TypeId × Value → H} {W : World} {base : Nat}
theorem cellsPart : Try.prog.cellsOf 107 = 1 := by kernel_rfl
variable (W)
set_option maxRecDepth 100000 in
theorem open_Rows_at {t e : TypeId} {f0 f1 f2 : Field} {v : Value} {d : DataW H} {p : List MemPlace} {fuel : Nat} (ht : Try.prog.underlying t = some (.slice e)) (he : Try.prog.underlying e = some (.struct #[f0, f1, f2])) (hone : oneCellFields Try.prog #[f0, f1, f2] = true)
    (hC : Try.prog.cellsOf e = 3) (t0 : Try.prog.underlying f0.type = some .string) (t1 : Try.prog.underlying f1.type = some (.int .i64)) (t2 : Try.prog.underlying f2.type = some .string)
    (hf : DataW.trod enc Try.prog W 0 (fun _ => true) true fuel t [v] = some (d, p)) :
    ∃ a len cap rs, v = .slice a len cap ∧ IsRows W a len cap rs := by
  rcases open_slice ht hf with ⟨hcs, _⟩ | ⟨x, len, c, m, n, D, Pl, hcs, _, hl, hm, hmm, _, hi⟩
  · simp at hcs
    subst hcs
    exact ⟨none, 0, 0, [], rfl, Nat.le_refl _, Nat.zero_le _, by simp, by simp [flat], fun h => absurd h (by omega)⟩
  · simp at hcs
    subst hcs
    simp only [if_true] at hmm
    subst hmm
    rw [hC] at hi
    have key : ∀ i, i < len → ∃ r : RowV, r.Ok ∧ W.cell? (x.add (i * 3) |>.add 0) = some (.string r.key) ∧ W.cell? (x.add (i * 3) |>.add 1) = some (.int .i64 r.tag) ∧ W.cell? (x.add (i * 3) |>.add 2) = some (.string r.val) := by
      intro i hil
      obtain ⟨cs', hc, ht'⟩ := hi i (by omega)
      obtain ⟨ys, n', hn', hy, hlen, hyl, hf'⟩ := DataW.trod_struct he ht'
      obtain ⟨_, hcl, hat⟩ := World.cells?_some hc
      obtain ⟨o0, q0⟩ := hone_of hone 0 f0 rfl
      obtain ⟨o1, q1⟩ := hone_of hone 1 f1 rfl
      obtain ⟨o2, q2⟩ := hone_of hone 2 f2 rfl
      have l3 : cs'.length = 3 := hcl
      obtain ⟨c0, c1, c2, rfl⟩ : ∃ c0 c1 c2, cs' = [c0, c1, c2] := by
        match cs', l3 with
        | [c0, c1, c2], _ => exact ⟨c0, c1, c2, rfl⟩
      have g0 := hf' 0 f0 rfl
      have g1 := hf' 1 f1 rfl
      have g2 := hf' 2 f2 rfl
      simp only [o0, q0, o1, q1, o2, q2, List.drop_zero, List.drop_succ_cons, List.take_succ_cons, List.take_zero] at g0 g1 g2
      have y3 : ys.length = 3 := hyl
      rw [List.getElem?_eq_getElem (show 0 < ys.length by omega)] at g0
      rw [List.getElem?_eq_getElem (show 1 < ys.length by omega)] at g1
      rw [List.getElem?_eq_getElem (show 2 < ys.length by omega)] at g2
      obtain ⟨k, e0, _, hk⟩ := DataW.trod_string t0 g0
      obtain ⟨tt, e1, _, htt⟩ := DataW.trod_int t1 g1
      obtain ⟨u, e2, _, hu⟩ := DataW.trod_string t2 g2
      simp only [List.cons.injEq, and_true] at e0 e1 e2
      subst e0 e1 e2
      exact ⟨⟨k, tt, u⟩, ⟨hk, htt, hu⟩, hat 0 (by omega), hat 1 (by omega), hat 2 (by omega)⟩
    have lists : ∀ q, q ≤ len → ∃ rs : List RowV, rs.length = q ∧ (∀ r ∈ rs, r.Ok) ∧ ∀ j u, (flat rs)[j]? = some u → W.cell? (x.add (j / 3 * 3) |>.add (j % 3)) = some u := by
      intro q
      induction q with
      | zero => intro _; exact ⟨[], rfl, by simp, fun j u hu => by simp [flat] at hu⟩
      | succ q ih =>
        intro hq
        obtain ⟨rs, hrl, hok, hcell⟩ := ih (by omega)
        obtain ⟨r, hr, k0, k1, k2⟩ := key q (by omega)
        refine ⟨rs ++ [r], by simp [hrl], fun y hy => by
          rcases List.mem_append.1 hy with h1 | h1
          · exact hok y h1
          · rw [List.mem_singleton.1 h1]; exact hr, fun j u hu => ?_⟩
        rw [flat_append] at hu
        rcases Nat.lt_or_ge j (flat rs).length with hj | hj
        · rw [List.getElem?_append_left hj] at hu
          exact hcell j u hu
        · rw [List.getElem?_append_right hj, flat_length, hrl] at hu
          rw [flat_length, hrl] at hj
          have hj3 : j - q * 3 < 3 := by
            have := (List.getElem?_eq_some_iff.1 hu).1
            simpa [flat, RowV.cells] using this
          have hd : j / 3 = q := by omega
          rw [hd]
          rcases (show j - q * 3 = 0 ∨ j - q * 3 = 1 ∨ j - q * 3 = 2 by omega) with h3 | h3 | h3
          · rw [h3] at hu
            rw [show j % 3 = 0 by omega, k0]
            simpa [flat, RowV.cells] using hu
          · rw [h3] at hu
            rw [show j % 3 = 1 by omega, k1]
            simpa [flat, RowV.cells] using hu
          · rw [h3] at hu
            rw [show j % 3 = 2 by omega, k2]
            simpa [flat, RowV.cells] using hu
    obtain ⟨rs, hrl, hok, hcell⟩ := lists len (Nat.le_refl _)
    refine ⟨_, _, _, rs, rfl, hl, hm, hok, by rw [flat_length, hrl], fun hn => ?_⟩
    obtain ⟨r, _, k0, _, _⟩ := key 0 hn
    have hsp : x.spot = none := by
      have := World.cell?_spot k0
      obtain ⟨b, o, s⟩ := x
      simpa [Addr.add] using this
    have add2 : ∀ i j, (x.add i).add j = ⟨x.block, x.off + (i + j), none⟩ := by
      intro i j
      rw [addr_add x hsp, addr_add _ rfl, Nat.add_assoc]
    rw [add2] at k0
    refine ⟨x.block, x.off, ?_, lt_of_cell k0, fun j u hu => ?_⟩
    · obtain ⟨b, o, s⟩ := x
      simp only at hsp
      subst hsp
      rfl
    · have hc := hcell j u hu
      rw [add2, show j / 3 * 3 + j % 3 = j by omega] at hc
      exact hc
set_option maxRecDepth 100000 in
theorem open_Parts_of {t e : TypeId} {f0 : Field} {v : Value} {d : DataW H} {p : List MemPlace} (ht : Try.prog.underlying t = some (.slice e)) (he : Try.prog.underlying e = some (.struct #[f0])) (hone : oneCellFields Try.prog #[f0] = true)
    (hC : Try.prog.cellsOf e = 1) (hrows : ∀ {u : Value} {n : Nat} {d : DataW H} {p : List MemPlace}, DataW.trod enc Try.prog W 0 (fun _ => true) true n f0.type [u] = some (d, p) → ∃ a len cap rs, u = .slice a len cap ∧ IsRows W a len cap rs)
    (hv : Value.okWide Try.prog W .any base t v) (h : DataW.Trod enc Try.prog W 0 (fun _ => true) true t v d p) :
    ∃ a len cap ps, v = .slice a len cap ∧ IsParts W a len cap ps := by
  obtain ⟨a, len, cap, rfl⟩ := okWide_slice ht hv
  obtain ⟨fuel, hf⟩ := h
  rcases open_slice ht hf with ⟨hcs, _⟩ | ⟨x, l, c, m, n, D, Pl, hcs, _, hl, hm, hmm, _, hi⟩
  · simp [Value.cells] at hcs
    obtain ⟨rfl, rfl, rfl⟩ := hcs
    exact ⟨none, 0, 0, [], rfl, Nat.le_refl _, Nat.zero_le _, by simp, [], ⟨rfl, fun h => absurd h (by omega)⟩, rfl, fun i v rs hv => by simp at hv⟩
  · simp [Value.cells] at hcs
    obtain ⟨rfl, rfl, rfl⟩ := hcs
    simp only [if_true] at hmm
    subst hmm
    rw [hC] at hi
    have key : ∀ i, i < len → ∃ (u : Value) (rs : List RowV), W.cell? (x.add (i * 1) |>.add 0) = some u ∧ (∃ a' c', u = .slice a' rs.length c' ∧ Rd W W.heap.size 3 a' rs.length (flat rs)) ∧ rs.length ≤ maxLen ∧ ∀ r ∈ rs, r.Ok := by
      intro i hil
      obtain ⟨cs', hc, ht'⟩ := hi i (by omega)
      obtain ⟨ys, n', hn', hy, hlen, hyl, hf'⟩ := DataW.trod_struct he ht'
      obtain ⟨_, hcl, hat⟩ := World.cells?_some hc
      obtain ⟨o0, q0⟩ := hone_of hone 0 f0 rfl
      have l3 : cs'.length = 1 := hcl
      obtain ⟨c0, rfl⟩ : ∃ c0, cs' = [c0] := by
        match cs', l3 with
        | [c0], _ => exact ⟨c0, rfl⟩
      have g0 := hf' 0 f0 rfl
      simp only [o0, q0, List.drop_zero, List.take_succ_cons, List.take_zero] at g0
      have y3 : ys.length = 1 := hyl
      rw [List.getElem?_eq_getElem (show 0 < ys.length by omega)] at g0
      obtain ⟨a', len', cap', rs, rfl, h1, h2, h3, h4⟩ := hrows (d := ys[0].1) (p := ys[0].2) g0
      have hl' := h4.rows_length
      exact ⟨_, rs, hat 0 (by omega), ⟨a', cap', by rw [hl'], by rw [hl']; exact h4⟩, by omega, h3⟩
    have lists : ∀ q, q ≤ len → ∃ (vs : List Value) (ps : List (List RowV)), vs.length = q ∧ ps.length = q ∧ (∀ j u, vs[j]? = some u → W.cell? (x.add (j * 1) |>.add 0) = some u) ∧
        (∀ (i : Nat) (v : Value) (rs : List RowV), vs[i]? = some v → ps[i]? = some rs → ∃ a' c', v = .slice a' rs.length c' ∧ Rd W W.heap.size 3 a' rs.length (flat rs)) ∧ ∀ rs ∈ ps, rs.length ≤ maxLen ∧ ∀ r ∈ rs, r.Ok := by
      intro q
      induction q with
      | zero => intro _; exact ⟨[], [], rfl, rfl, fun j u hu => by simp at hu, fun i v rs hv => by simp at hv, by simp⟩
      | succ q ih =>
        intro hq
        obtain ⟨vs, ps, hvl, hpl, hc, hp, hok⟩ := ih (by omega)
        obtain ⟨u, rs, k0, k1, k2⟩ := key q (by omega)
        refine ⟨vs ++ [u], ps ++ [rs], by simp [hvl], by simp [hpl], fun j y hy => ?_, fun i y z hy hz => ?_, fun z hz => ?_⟩
        · rcases Nat.lt_or_ge j vs.length with hj | hj
          · rw [List.getElem?_append_left hj] at hy
            exact hc j y hy
          · rw [List.getElem?_append_right hj] at hy
            have hj0 : j - vs.length = 0 := by
              have := (List.getElem?_eq_some_iff.1 hy).1
              simp at this
              omega
            rw [hj0] at hy
            have : u = y := by simpa using hy
            subst this
            rw [show j = q by omega]
            exact k0
        · rcases Nat.lt_or_ge i vs.length with hj | hj
          · rw [List.getElem?_append_left hj] at hy
            rw [List.getElem?_append_left (by omega)] at hz
            exact hp i y z hy hz
          · rw [List.getElem?_append_right hj] at hy
            rw [List.getElem?_append_right (by omega)] at hz
            have hj0 : i - vs.length = 0 := by
              have := (List.getElem?_eq_some_iff.1 hy).1
              simp at this
              omega
            rw [hj0] at hy
            rw [show i - ps.length = 0 by omega] at hz
            have e1 : u = y := by simpa using hy
            have e2 : rs = z := by simpa using hz
            subst e1 e2
            exact k1
        · rcases List.mem_append.1 hz with h1 | h1
          · exact hok z h1
          · rw [List.mem_singleton.1 h1]; exact k2
    obtain ⟨vs, ps, hvl, hpl, hc, hp, hok⟩ := lists len (Nat.le_refl _)
    refine ⟨_, _, _, ps, rfl, hl, hm, hok, vs, ⟨by omega, fun hn => ?_⟩, by omega, hp⟩
    obtain ⟨u, _, k0, _⟩ := key 0 hn
    have hsp : x.spot = none := by
      have := World.cell?_spot k0
      obtain ⟨b, o, s⟩ := x
      simpa [Addr.add] using this
    have add2 : ∀ i j, (x.add i).add j = ⟨x.block, x.off + (i + j), none⟩ := by
      intro i j
      rw [addr_add x hsp, addr_add _ rfl, Nat.add_assoc]
    rw [add2] at k0
    refine ⟨x.block, x.off, ?_, lt_of_cell k0, fun j u hu => ?_⟩
    · obtain ⟨b, o, s⟩ := x
      simp only at hsp
      subst hsp
      rfl
    · have h2 := hc j u hu
      rw [add2, Nat.mul_one, Nat.add_zero] at h2
      exact h2
variable {W}
set_option maxRecDepth 100000 in
theorem open_Parts {v : Value} {d : DataW H} {p : List MemPlace} (hv : Value.okWide Try.prog W .any base 34 v) (h : DataW.Trod enc Try.prog W 0 (fun _ => true) true 34 v d p) :
    ∃ a len cap ps, v = .slice a len cap ∧ IsParts W a len cap ps :=
  open_Parts_of W Try.underlying34 Try.underlying107 (by kernel_rfl) cellsPart (fun h => open_Rows_at W Try.underlying22 Try.underlying90 (by kernel_rfl) cellsRow Try.underlying9 Try.underlying2 Try.underlying9 h) hv h
end
end Go.Proofs.Ytgdbpckobngmjaa

namespace Go.Proofs.Ytgdbpckobngmjaa
open Go.ChangeShapes Go.WideShapes Go.ChangeAt Go.RowKit Go.Joins Go.Deep
section
variable {H : Type} {enc : TypeId × Value → H} {W : World} {base : Nat}
theorem cellsGroup : Try.prog.cellsOf 122 = 2 := by kernel_rfl
variable (W)
set_option maxRecDepth 100000 in
theorem open_Groups_of {t e : TypeId} {f0 f1 : Field} {v : Value} {d : DataW H} {p : List MemPlace} (ht : Try.prog.underlying t = some (.slice e)) (he : Try.prog.underlying e = some (.struct #[f0, f1])) (hone : oneCellFields Try.prog #[f0, f1] = true)
    (hC : Try.prog.cellsOf e = 2) (t0 : Try.prog.underlying f0.type = some .string) (hrows : ∀ {u : Value} {n : Nat} {d : DataW H} {p : List MemPlace}, DataW.trod enc Try.prog W 0 (fun _ => true) true n f1.type [u] = some (d, p) → ∃ a len cap rs, u = .slice a len cap ∧ IsRows W a len cap rs)
    (hv : Value.okWide Try.prog W .any base t v) (h : DataW.Trod enc Try.prog W 0 (fun _ => true) true t v d p) :
    ∃ a len cap G, v = .slice a len cap ∧ IsGroups W a len cap G := by
  obtain ⟨a, len, cap, rfl⟩ := okWide_slice ht hv
  obtain ⟨fuel, hf⟩ := h
  rcases open_slice ht hf with ⟨hcs, _⟩ | ⟨x, l, c, m, n, D, Pl, hcs, _, hl, hm, hmm, _, hi⟩
  · simp [Value.cells] at hcs
    obtain ⟨rfl, rfl, rfl⟩ := hcs
    exact ⟨none, 0, 0, [], rfl, Nat.le_refl _, Nat.zero_le _, by simp, rfl, fun i k rs hk => by simp at hk⟩
  · simp [Value.cells] at hcs
    obtain ⟨rfl, rfl, rfl⟩ := hcs
    simp only [if_true] at hmm
    subst hmm
    rw [hC] at hi
    have key : ∀ i, i < len → ∃ (k : ByteArray) (u : Value) (rs : List RowV), W.cell? (x.add (i * 2) |>.add 0) = some (.string k) ∧ W.cell? (x.add (i * 2) |>.add 1) = some u ∧ (∃ a' c', u = .slice a' rs.length c' ∧ Rd W W.heap.size 3 a' rs.length (flat rs)) ∧ k.size ≤ maxLen ∧ rs.length ≤ maxLen ∧ ∀ r ∈ rs, r.Ok := by
      intro i hil
      obtain ⟨cs', hc, ht'⟩ := hi i (by omega)
      obtain ⟨ys, n', hn', hy, hlen, hyl, hf'⟩ := DataW.trod_struct he ht'
      obtain ⟨_, hcl, hat⟩ := World.cells?_some hc
      obtain ⟨o0, q0⟩ := hone_of hone 0 f0 rfl
      obtain ⟨o1, q1⟩ := hone_of hone 1 f1 rfl
      have l3 : cs'.length = 2 := hcl
      obtain ⟨c0, c1, rfl⟩ : ∃ c0 c1, cs' = [c0, c1] := by
        match cs', l3 with
        | [c0, c1], _ => exact ⟨c0, c1, rfl⟩
      have g0 := hf' 0 f0 rfl
      have g1 := hf' 1 f1 rfl
      simp only [o0, q0, o1, q1, List.drop_zero, List.drop_succ_cons, List.take_succ_cons, List.take_zero] at g0 g1
      have y3 : ys.length = 2 := hyl
      rw [List.getElem?_eq_getElem (show 0 < ys.length by omega)] at g0
      rw [List.getElem?_eq_getElem (show 1 < ys.length by omega)] at g1
      obtain ⟨k, e0, _, hk⟩ := DataW.trod_string t0 g0
      simp only [List.cons.injEq, and_true] at e0
      subst e0
      obtain ⟨a', len', cap', rs, rfl, h1, h2, h3, h4⟩ := hrows (d := ys[1].1) (p := ys[1].2) g1
      have hl' := h4.rows_length
      exact ⟨k, _, rs, hat 0 (by omega), hat 1 (by omega), ⟨a', cap', by rw [hl'], by rw [hl']; exact h4⟩, hk, by omega, h3⟩
    have lists : ∀ q, q ≤ len → ∃ G : List (ByteArray × List RowV), G.length = q ∧ ∀ (i : Nat) (k : ByteArray) (rs : List RowV), G[i]? = some (k, rs) → W.cell? (x.add (i * 2) |>.add 0) = some (.string k) ∧ (∃ a' c', W.cell? (x.add (i * 2) |>.add 1) = some (.slice a' rs.length c') ∧ Rd W W.heap.size 3 a' rs.length (flat rs)) ∧ k.size ≤ maxLen ∧ rs.length ≤ maxLen ∧ ∀ r ∈ rs, r.Ok := by
      intro q
      induction q with
      | zero => intro _; exact ⟨[], rfl, fun i k rs hk => by simp at hk⟩
      | succ q ih =>
        intro hq
        obtain ⟨G, hGl, hG⟩ := ih (by omega)
        obtain ⟨k, u, rs, k0, k1, ⟨a', c', rfl, k2⟩, k3, k4, k5⟩ := key q (by omega)
        refine ⟨G ++ [(k, rs)], by simp [hGl], fun i k' rs' hi' => ?_⟩
        rcases Nat.lt_or_ge i G.length with hj | hj
        · rw [List.getElem?_append_left hj] at hi'
          exact hG i k' rs' hi'
        · rw [List.getElem?_append_right hj] at hi'
          have hj0 : i - G.length = 0 := by
            have := (List.getElem?_eq_some_iff.1 hi').1
            simp at this
            omega
          rw [hj0] at hi'
          have e1 : (k, rs) = (k', rs') := by simpa using hi'
          injection e1 with e1 e2
          subst e1 e2
          rw [show i = q by omega]
          exact ⟨k0, ⟨a', c', k1, k2⟩, k3, k4, k5⟩
    obtain ⟨G, hGl, hG⟩ := lists len (Nat.le_refl _)
    refine ⟨_, _, _, G, rfl, hl, hm, fun g hg => ?_, hGl, fun i k rs hk => ?_⟩
    · obtain ⟨i, hi'⟩ := List.getElem?_of_mem hg
      obtain ⟨_, _, h3⟩ := hG i g.1 g.2 hi'
      exact h3
    · obtain ⟨k0, ⟨a', c', k1, k2⟩, _⟩ := hG i k rs hk
      have hil : i < len := by have := (List.getElem?_eq_some_iff.1 hk).1; omega
      obtain ⟨_, _, _, kk0, _⟩ := key 0 (by omega)
      have hsp : x.spot = none := by
        have := World.cell?_spot kk0
        obtain ⟨b, o, s⟩ := x
        simpa [Addr.add] using this
      have add2 : ∀ i j, (x.add i).add j = ⟨x.block, x.off + (i + j), none⟩ := by
        intro i j
        rw [addr_add x hsp, addr_add _ rfl, Nat.add_assoc]
      rw [add2] at k0 k1
      refine ⟨x.block, x.off, a', c', ?_, lt_of_cell k0, k0, k1, k2⟩
      obtain ⟨b, o, s⟩ := x
      simp only at hsp
      subst hsp
      rfl
variable {W}
set_option maxRecDepth 100000 in
theorem open_Groups {v : Value} {d : DataW H} {p : List MemPlace} (hv : Value.okWide Try.prog W .any base 53 v) (h : DataW.Trod enc Try.prog W 0 (fun _ => true) true 53 v d p) :
    ∃ a len cap G, v = .slice a len cap ∧ IsGroups W a len cap G :=
  open_Groups_of W Try.underlying53 Try.underlying122 (by kernel_rfl) cellsGroup Try.underlying9 (fun h => open_Rows_at W Try.underlying22 Try.underlying90 (by kernel_rfl) cellsRow Try.underlying9 Try.underlying2 Try.underlying9 h) hv h
end
end Go.Proofs.Ytgdbpckobngmjaa

namespace Go.Proofs.Ytgdbpckobngmjaa
open Go.ChangeShapes Go.WideShapes Go.ChangeAt Go.RowKit Go.Joins
open Go.ChangeMaps (open_string shut_string)
namespace ExactUngrouped

set_option maxRecDepth 100000 in
theorem lifted (os : Os) (started : os.Started) (H : Type) (enc : TypeId × Value → H) :
    ReturnsInHanded {} Try.checked os 9 .any (Rows.fnExactUngroupedSpec.pre6 enc Try.prog Try.f9 Rows.fnExactUngroupedRow.domain false) (Rows.fnExactUngroupedSpec.post enc Try.prog Try.f9 false true false false) := by
  refine returnsInHanded_of_change (C := Try.checked) own started (by kernel_rfl) Try.func9
    (ChangeSpec.witness6 (enc := enc) (C := Try.checked) false ⟨#[], #[.slice none 0 0], []⟩ 8 (by kernel_rfl) (by kernel_rfl) (by kernel_rfl) (by kernel_rfl)) ?_
  intro W base args ds gs before hval0 hW _ _
  have hval : ∀ (j : Nat) t v, Try.f9.params[j]? = some t → args[j]? = some v → Value.okWide Try.prog W .any base t v := hval0
  have hW' := hW
  obtain ⟨p, q, hA0, hV, rfl, _, _⟩ := hW
  have hA : DataW.TrodAll enc Try.prog W 0 (fun _ => true) true Try.f9.params.toList args.toList ds p := hA0
  rw [Try.params9] at hA hval
  obtain ⟨v0, vs0, d0, ds0, p0, q0, hargs, rfl, rfl, h0, r0⟩ := trodAll_cons hA
  obtain ⟨rfl, rfl, rfl⟩ := trodAll_nil r0
  obtain rfl : args = #[v0] := by cases args; simp_all
  obtain ⟨rfl, rfl⟩ := trodVars_none hV
  have k0 := h0
  have lt0 : ∀ x ∈ p0, x.block < W.heap.size := by obtain ⟨m, hm⟩ := k0; exact DataW.trod_lt m _ _ _ hm
  obtain ⟨a0, len0, cap0, z0, rfl, w0⟩ := open_Groups (hval 0 53 v0 rfl rfl) h0
  clear hA0 hval0
  refine (walk_ExactUngrouped a0 len0 cap0 z0 W w0).mono fun e W' ⟨he, bel⟩ => ?_
  subst he
  exact ⟨_, rfl, _, _, _, [], _, [], hW', trodAll_mk1 (shut_bool Try.underlying4 _), (trodAll_cons_mk (Below.trod laidOut (by kernel_rfl) (of_decide_eq_true (by kernel_rfl)) k0 bel lt0) trodAll_mk0), rfl, bel.frame _, fun h => by cases h⟩

theorem over : Rows.fnExactUngroupedRow.holds Try.pinned (OpenSpec.ofChange Rows.fnExactUngroupedSpec) :=
  OpenClaim.holds_of_wide 9 Try.f9 rfl rfl rfl rfl rfl rfl rfl ⟨rfl, rfl, rfl, rfl, rfl⟩ rfl rfl rfl rfl rfl (by kernel_rfl) Try.func9 (by kernel_rfl)
    (of_decide_eq_true (by kernel_rfl)) (by unfold Func.isWrapper; first | (rw [if_pos (by decide +kernel)]; kernel_rfl) | (rw [if_neg (by decide +kernel)]; exact ⟨rfl, rfl⟩))
    (fun os started H enc _ => lifted os started H enc)
end ExactUngrouped
theorem fnExactUngrouped_holds : Rows.FnExactUngroupedSaid := ExactUngrouped.over
end Go.Proofs.Ytgdbpckobngmjaa
