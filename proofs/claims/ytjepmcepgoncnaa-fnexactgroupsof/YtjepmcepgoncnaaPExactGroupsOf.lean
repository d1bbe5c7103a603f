/-
  Rows.FnExactGroupsOfSaid: laws.FnExactGroupsOf returns true for every input, and each argument reads afterwards as it read before. No conditions.
-/
import Derived.Test.YtjepmcepgoncnaaPartsDeal
import Derived.Test.YtjepmcepgoncnaaRdIn
import Derived.Maps.AppendAt
import Derived.Test.YtjepmcepgoncnaaAppendAny
import Derived.Test.YtjepmcepgoncnaaMarkRows
import Derived.Test.YtjepmcepgoncnaaIterRows
import Derived.Test.YtjepmcepgoncnaaJoined
import Derived.Test.YtjepmcepgoncnaaPlain
import Derived.OwnWalkIn
import Derived.RangeFuncCalls
import Derived.Test.YtjepmcepgoncnaaStepOne
import Derived.Test.YtjepmcepgoncnaaSortedOkFns
import Derived.Test.YtjepmcepgoncnaaRowsMem
import Derived.Test.YtjepmcepgoncnaaSince
import Derived.Test.YtjepmcepgoncnaaOpen
namespace Go.Proofs.Ytjepmcepgoncnaa
open Go.RowKit
def gcells (gs : List (ByteArray × Value)) : List Value := gs.flatMap fun g => [.string g.1, g.2]
theorem gcells_length (gs : List (ByteArray × Value)) : (gcells gs).length = gs.length * 2 := by
  induction gs with
  | nil => rfl
  | cons g gs ih =>
    have e : gcells (g :: gs) = .string g.1 :: g.2 :: gcells gs := rfl
    rw [e, List.length_cons, List.length_cons, ih, List.length_cons]
    omega
theorem gcells_snoc (gs : List (ByteArray × Value)) (k : ByteArray) (v : Value) : gcells (gs ++ [(k, v)]) = gcells gs ++ [.string k, v] := by simp [gcells]
theorem gcells_at : ∀ (gs : List (ByteArray × Value)) (i : Nat) (g : ByteArray × Value), gs[i]? = some g → (gcells gs)[i * 2]? = some (.string g.1) ∧ (gcells gs)[i * 2 + 1]? = some g.2
  | [], _, _, h => by simp at h
  | x :: gs, 0, g, h => by
    rw [List.getElem?_cons_zero] at h
    injection h with h
    subst h
    exact ⟨rfl, rfl⟩
  | x :: gs, i + 1, g, h => by
    rw [List.getElem?_cons_succ] at h
    have ih := gcells_at gs i g h
    have e : gcells (x :: gs) = .string x.1 :: x.2 :: gcells gs := rfl
    rw [e, show (i + 1) * 2 = i * 2 + 1 + 1 by omega, List.getElem?_cons_succ, List.getElem?_cons_succ, List.getElem?_cons_succ, List.getElem?_cons_succ]
    exact ih
theorem gcells_set : ∀ (gs : List (ByteArray × Value)) (i : Nat) (k : ByteArray) (v v' : Value), gs[i]? = some (k, v) → (gcells gs).set (i * 2 + 1) v' = gcells (gs.set i (k, v'))
  | [], _, _, _, _, h => by simp at h
  | x :: gs, 0, k, v, v', h => by
    rw [List.getElem?_cons_zero] at h
    injection h with h
    subst h
    rfl
  | x :: gs, i + 1, k, v, v', h => by
    rw [List.getElem?_cons_succ] at h
    have ih := gcells_set gs i k v v' h
    have e : gcells (x :: gs) = .string x.1 :: x.2 :: gcells gs := rfl
    rw [e, show (i + 1) * 2 + 1 = (i * 2 + 1) + 1 + 1 by omega, List.set_cons_succ, List.set_cons_succ, ih, List.set_cons_succ]
    rfl
/-- One slice is replaced by one in a new block. -/
theorem Fam.renew {w w' : World} {lo i : Nat} {vs : List Value} {ps : List (List RowV)} {v' : Value} {rs' : List RowV} (h : Fam w lo vs ps) (hi : i < vs.length) (hb : Below w.heap.size w w') (hO : w'.ownsRow lo 77 3 v' rs'.length (flat rs')) (hat : ∀ g, v'.ownBlock = some g → w.heap.size ≤ g) : Fam w' lo (vs.set i v') (ps.set i rs') := by
  have old : ∀ (j : Nat) (u : Value) (g : Nat), vs[j]? = some u → u.ownBlock = some g → g < w.heap.size := by
    intro j u g hu hug
    have hj' := (List.getElem?_eq_some_iff.1 hu).1
    obtain ⟨a, c, rs, h1, _, h3⟩ := h.at_ (i := j) (by rw [← h.len]; exact hj')
    rw [h1] at hu
    injection hu with hu
    rw [← hu] at hug
    exact (own_ge h3 g hug).2
  have F := h.below hb
  refine ⟨by simp [h.len], ?_, ?_⟩
  · intro j u rs hu hr
    by_cases e : i = j
    · subst e
      rw [List.getElem?_set_self hi] at hu
      rw [List.getElem?_set_self (by rw [← h.len]; exact hi)] at hr
      injection hu with hu; injection hr with hr
      subst hu hr
      exact hO
    · rw [List.getElem?_set_ne e] at hu hr
      exact F.own j u rs hu hr
  · intro j k u z g hjk hu hz hg' hzg
    by_cases e : i = j
    · subst e
      rw [List.getElem?_set_self hi] at hu
      injection hu with hu
      subst hu
      rw [List.getElem?_set_ne hjk] at hz
      have := old k z g hz hzg
      have := hat g hg'
      omega
    · rw [List.getElem?_set_ne e] at hu
      by_cases e2 : i = k
      · subst e2
        rw [List.getElem?_set_self hi] at hz
        injection hz with hz
        subst hz
        have := old j u g hu hg'
        have := hat g hzg
        omega
      · rw [List.getElem?_set_ne e2] at hz
        exact h.sep j k u z g hjk hu hz hg' hzg
structure GOwn (w : World) (lo : Nat) (a : Option Addr) (n c : Nat) (gs : List (ByteArray × Value)) (G : List (ByteArray × List RowV)) : Prop where
  outer : w.ownsRow lo 39 2 (.slice a n c) n (gcells gs)
  keys : gs.map (·.1) = G.map (·.1)
  fam : Fam w lo (gs.map (·.2)) (G.map (·.2))
  out : ∀ v ∈ gs.map (·.2), ∀ g, v.ownBlock = some g → (Value.slice a n c).ownBlock ≠ some g
theorem GOwn.below {w w' : World} {lo n c : Nat} {a : Option Addr} {gs : List (ByteArray × Value)} {G : List (ByteArray × List RowV)} (h : GOwn w lo a n c gs G) (hb : Below w.heap.size w w') : GOwn w' lo a n c gs G := ⟨own_below h.outer hb, h.keys, h.fam.below hb, h.out⟩
theorem GOwn.len {w : World} {lo n c : Nat} {a : Option Addr} {gs : List (ByteArray × Value)} {G : List (ByteArray × List RowV)} (h : GOwn w lo a n c gs G) : gs.length = n ∧ G.length = n := by
  have h1 := h.outer.1
  rw [gcells_length] at h1
  have h2 := congrArg List.length h.keys
  rw [List.length_map, List.length_map] at h2
  omega
/-- One more group at the end. -/
theorem GOwn.snoc {w w3 w4 : World} {lo n c n' c' : Nat} {a a' : Option Addr} {gs : List (ByteArray × Value)} {G : List (ByteArray × List RowV)} {k : ByteArray} {v : Value} {rs : List RowV} (h : GOwn w lo a n c gs G) (hlo : lo ≤ w.heap.size) (hb : Below w.heap.size w w3)
    (hO3 : w3.ownsRow w.heap.size 77 3 v rs.length (flat rs)) (hg4 : w3.grownBy w4 (Value.slice a n c).ownBlock) (hO4 : w4.ownsRow lo 39 2 (.slice a' n' c') n' (gcells gs ++ [.string k, v]))
    (hat : (Value.slice a' n' c').ownBlock = (Value.slice a n c).ownBlock ∨ (Value.slice a' n' c').ownBlock = some w3.heap.size) : GOwn w4 lo a' n' c' (gs ++ [(k, v)]) (G ++ [(k, rs)]) := by
  have hv : ∀ g, v.ownBlock = some g → w.heap.size ≤ g := fun g e => (own_ge hO3 g e).1
  have F := h.fam.snoc hb (own_base' hO3 hlo) hv
  have hne : ∀ u ∈ gs.map (·.2) ++ [v], ∀ g, u.ownBlock = some g → (Value.slice a n c).ownBlock ≠ some g := by
    intro u hu g hg
    rcases List.mem_append.1 hu with hu | hu
    · exact h.out u hu g hg
    · rw [List.mem_singleton] at hu
      subst hu
      intro e
      have h1 := (own_ge h.outer g e).2
      have h2 := hv g hg
      omega
  have e1 : (gs ++ [(k, v)]).map (·.2) = gs.map (·.2) ++ [v] := by simp
  have e2 : (G ++ [(k, rs)]).map (·.2) = G.map (·.2) ++ [rs] := by simp
  refine ⟨by rw [gcells_snoc]; exact hO4, by rw [List.map_append, List.map_append, h.keys]; rfl, ?_, ?_⟩
  · rw [e1, e2]
    exact ⟨F.len, fun i u rs' hu hr => own_other (F.own i u rs' hu hr) hg4 (fun g h1 h2 => hne u (List.mem_of_getElem? hu) g h1 h2), F.sep⟩
  · rw [e1]
    intro u hu g hg
    rcases hat with e | e
    · rw [e]; exact hne u hu g hg
    · rw [e]
      intro e2
      injection e2 with e2
      obtain ⟨i, hi⟩ := List.getElem?_of_mem hu
      have hil : i < (G.map (·.2) ++ [rs]).length := by
        have := (List.getElem?_eq_some_iff.1 hi).1
        rw [F.len] at this
        exact this
      have := F.own i u _ hi (List.getElem?_eq_getElem hil)
      have := (own_ge this g hg).2
      omega
/-- The slice of a group is made anew, in a new block, and stored. -/
theorem GOwn.put {w w3 : World} {lo n c g p : Nat} {gs : List (ByteArray × Value)} {G : List (ByteArray × List RowV)} {k : ByteArray} {v v' : Value} {rs' : List RowV} (h : GOwn w lo (some ⟨g, 0, none⟩) n c gs G) (hlo : lo ≤ w.heap.size) (hv : gs[p]? = some (k, v)) (hb : Below w.heap.size w w3)
    (hO : w3.ownsRow w.heap.size 77 3 v' rs'.length (flat rs')) : GOwn (w3.setCell ⟨g, p * 2 + 1, none⟩ v') lo (some ⟨g, 0, none⟩) n c (gs.set p (k, v')) (G.set p (k, rs')) := by
  have hgo : (Value.slice (some ⟨g, 0, none⟩) n c).ownBlock = some g := rfl
  have hgw := (own_ge h.outer g hgo).2
  have hp := (List.getElem?_eq_some_iff.1 hv).1
  have hat : ∀ g, v'.ownBlock = some g → w.heap.size ≤ g := fun g e => (own_ge hO g e).1
  have F := h.fam.renew (i := p) (by rw [List.length_map]; exact hp) hb (own_base' hO hlo) hat
  have hout : ∀ u ∈ (gs.map (·.2)).set p v', ∀ g', u.ownBlock = some g' → (Value.slice (some ⟨g, 0, none⟩) n c).ownBlock ≠ some g' := by
    intro u hu g' hg' he
    rw [hgo] at he
    injection he with he
    rcases List.mem_or_eq_of_mem_set hu with hu | rfl
    · exact h.out u hu g' hg' (by rw [hgo, he])
    · have := hat g' hg'; omega
  have e1 : (gs.set p (k, v')).map (·.2) = (gs.map (·.2)).set p v' := by rw [List.map_set]
  have e2 : (G.set p (k, rs')).map (·.2) = (G.map (·.2)).set p rs' := by rw [List.map_set]
  have hk : (G.map (·.1))[p]? = some k := by rw [← h.keys, List.getElem?_map, hv]; rfl
  refine ⟨?_, ?_, ?_, ?_⟩
  · rw [← gcells_set gs p k v v' hv]
    exact ((own_below h.outer hb).stored (p * 2 + 1) v').1
  · rw [List.map_set, List.map_set, h.keys]
  · rw [e1, e2]
    refine ⟨F.len, fun i u rs hu hr => ?_, F.sep⟩
    refine own_other (F.own i u rs hu hr) (gb_store (World.grownBy.refl w3 (some g)) (p * 2 + 1) v') (fun g' h1 h2 => ?_)
    injection h2 with h2
    exact hout u (List.mem_of_getElem? hu) g' h1 (by rw [hgo, h2])
  · rw [e1]; exact hout
end Go.Proofs.Ytjepmcepgoncnaa

namespace Go.Proofs.Ytjepmcepgoncnaa
open Go.RowKit
/-- Groups that are read, in blocks from lo up to hi. -/
def GIn (w : World) (lo hi : Nat) (a : Option Addr) (G : List (ByteArray × List RowV)) : Prop :=
  ∀ (i : Nat) (key : ByteArray) (rs : List RowV), G[i]? = some (key, rs) → ∃ b ra rc, a = some ⟨b, 0, none⟩ ∧ lo ≤ b ∧ b < hi ∧ w.cell? ⟨b, i * 2, none⟩ = some (.string key) ∧ w.cell? ⟨b, i * 2 + 1, none⟩ = some (.slice ra rs.length rc) ∧ rs.length ≤ rc ∧ RdIn w lo hi 3 ra rs.length (flat rs)
theorem GIn.of_own {w : World} {lo n c : Nat} {a : Option Addr} {gs : List (ByteArray × Value)} {G : List (ByteArray × List RowV)} (h : GOwn w lo a n c gs G) : GIn w lo w.heap.size a G := by
  intro i key rs hi
  have hil := (List.getElem?_eq_some_iff.1 hi).1
  obtain ⟨l1, l2⟩ := h.len
  obtain ⟨k2, v2⟩ : ∃ x, gs[i]? = some x := ⟨_, List.getElem?_eq_getElem (by omega)⟩
  obtain ⟨v2, hg⟩ : ∃ v, gs[i]? = some v := ⟨_, List.getElem?_eq_getElem (by omega)⟩
  obtain ⟨kk, vv⟩ := v2
  have hk : kk = key := by
    have e1 : (gs.map (·.1))[i]? = some kk := by rw [List.getElem?_map, hg]; rfl
    have e2 : (G.map (·.1))[i]? = some key := by rw [List.getElem?_map, hi]; rfl
    rw [h.keys, e2] at e1
    injection e1 with e1
    exact e1.symm
  subst hk
  have hO := h.fam.own i vv rs (by rw [List.getElem?_map, hg]; rfl) (by rw [List.getElem?_map, hi]; rfl)
  obtain ⟨va, vc, rfl, hc⟩ := own_slice2 hO
  obtain ⟨b, e, h1, h2⟩ := own_form h.outer (by omega)
  obtain ⟨c0, c1⟩ := gcells_at gs i _ hg
  have hsz := h.outer.1
  refine ⟨b, va, vc, e, h1, h2, ?_, ?_, hc, RdIn.of_own hO⟩
  · subst e
    rw [h.outer.cellAt (i * 2) (by omega)]; exact c0
  · subst e
    rw [h.outer.cellAt (i * 2 + 1) (by omega)]; exact c1
theorem GIn.below {w w' : World} {lo hi B : Nat} {a : Option Addr} {G : List (ByteArray × List RowV)} (h : GIn w lo hi a G) (hb : Below B w w') (hB : hi ≤ B) : GIn w' lo hi a G := by
  intro i key rs hi'
  obtain ⟨b, ra, rc, e, h1, h2, c0, c1, hc, hr⟩ := h i key rs hi'
  exact ⟨b, ra, rc, e, h1, h2, (hb.cell (p := ⟨b, i * 2, none⟩) (Nat.lt_of_lt_of_le h2 hB)).trans c0, (hb.cell (p := ⟨b, i * 2 + 1, none⟩) (Nat.lt_of_lt_of_le h2 hB)).trans c1, hc, hr.below hb hB⟩
theorem GIn.gb {w w' : World} {lo hi : Nat} {a : Option Addr} {G : List (ByteArray × List RowV)} {v : Value} (h : GIn w lo hi a G) (hg : w.grownBy w' v.ownBlock) (hi' : hi ≤ w.heap.size) (ha : Apart lo hi v) : GIn w' lo hi a G := by
  intro i key rs hx
  obtain ⟨b, ra, rc, e, h1, h2, c0, c1, hc, hr⟩ := h i key rs hx
  have hne : v.ownBlock ≠ some b := fun e' => by have := ha b e'; omega
  exact ⟨b, ra, rc, e, h1, h2, (World.cell?_of_block (a := ⟨b, i * 2, none⟩) (hg.block b (by omega) (fun e' => hne e'.symm))).trans c0, (World.cell?_of_block (a := ⟨b, i * 2 + 1, none⟩) (hg.block b (by omega) (fun e' => hne e'.symm))).trans c1, hc, hr.gb hg hi' ha⟩
end Go.Proofs.Ytjepmcepgoncnaa

namespace Go.Proofs.Ytjepmcepgoncnaa
open Go.RowKit
/-- Groups that can be read below block B. -/
def GRd (w : World) (B : Nat) (a : Option Addr) (n : Nat) (G : List (ByteArray × List RowV)) : Prop :=
  G.length = n ∧ ∀ (i : Nat) (key : ByteArray) (rs : List RowV), G[i]? = some (key, rs) → ∃ b a' c', a = some ⟨b, 0, none⟩ ∧ b < B ∧ w.cell? ⟨b, i * 2, none⟩ = some (.string key) ∧ w.cell? ⟨b, i * 2 + 1, none⟩ = some (.slice a' rs.length c') ∧ Rd w B 3 a' rs.length (flat rs)
theorem GOwn.rd {w : World} {lo n c : Nat} {a : Option Addr} {gs : List (ByteArray × Value)} {G : List (ByteArray × List RowV)} (h : GOwn w lo a n c gs G) : GRd w w.heap.size a n G :=
  ⟨h.len.2, fun i key rs hi => by
    obtain ⟨b, a', c', e, h1, h2, c0, c1, _, hr⟩ := GIn.of_own h i key rs hi
    exact ⟨b, a', c', e, h2, c0, c1, hr.rd⟩⟩
theorem GRd.below {w w' : World} {B D n : Nat} {a : Option Addr} {G : List (ByteArray × List RowV)} (h : GRd w B a n G) (hb : Below D w w') (hD : B ≤ D) : GRd w' B a n G :=
  ⟨h.1, fun i key rs hi => by
    obtain ⟨b, a', c', e, h2, c0, c1, hr⟩ := h.2 i key rs hi
    exact ⟨b, a', c', e, h2, (hb.cell (p := ⟨b, i * 2, none⟩) (Nat.lt_of_lt_of_le h2 hD)).trans c0, (hb.cell (p := ⟨b, i * 2 + 1, none⟩) (Nat.lt_of_lt_of_le h2 hD)).trans c1, hr.below hb hD⟩⟩
theorem GRd.more {w : World} {B D n : Nat} {a : Option Addr} {G : List (ByteArray × List RowV)} (h : GRd w B a n G) (hD : B ≤ D) : GRd w D a n G :=
  ⟨h.1, fun i key rs hi => by
    obtain ⟨b, a', c', e, h2, c0, c1, hr⟩ := h.2 i key rs hi
    exact ⟨b, a', c', e, Nat.lt_of_lt_of_le h2 hD, c0, c1, hr.more hD⟩⟩
theorem GOwn.since {lo hi base n c : Nat} {w w' : World} {a : Option Addr} {gs : List (ByteArray × Value)} {G : List (ByteArray × List RowV)} (h : GOwn w base a n c gs G) (hs : Since lo hi w w') (hb : hi ≤ base) : GOwn w' base a n c gs G :=
  ⟨Since.own h.outer hs hb, h.keys, ⟨h.fam.len, fun i v rs h1 h2 => Since.own (h.fam.own i v rs h1 h2) hs hb, h.fam.sep⟩, h.out⟩
/-- How many marks groups take. -/
def sizeG : List (ByteArray × List RowV) → Nat
  | [] => 0
  | g :: G => 1 + 3 * g.2.length + sizeG G
theorem sizeG_snoc (G : List (ByteArray × List RowV)) (g : ByteArray × List RowV) : sizeG (G ++ [g]) = sizeG G + (1 + 3 * g.2.length) := by
  induction G with
  | nil => simp [sizeG]
  | cons x G ih => rw [List.cons_append, sizeG, sizeG, ih]; omega
theorem sizeG_take {G : List (ByteArray × List RowV)} {j : Nat} {g : ByteArray × List RowV} (h : G[j]? = some g) : sizeG (G.take (j + 1)) = sizeG (G.take j) + (1 + 3 * g.2.length) := by
  rw [List.take_add_one, h, Option.toList_some, sizeG_snoc]
theorem sizeG_append (A B : List (ByteArray × List RowV)) : sizeG (A ++ B) = sizeG A + sizeG B := by
  induction A with
  | nil => simp [sizeG]
  | cons x A ih => rw [List.cons_append, sizeG, sizeG, ih]; omega
theorem sizeG_le (G : List (ByteArray × List RowV)) (j : Nat) : sizeG (G.take j) ≤ sizeG G := by
  have e : sizeG G = sizeG (G.take j) + sizeG (G.drop j) := by rw [← sizeG_append, List.take_append_drop]
  omega
def marksG (K : Nat) : List (ByteArray × List RowV) → List (ByteArray × List RowV)
  | [] => []
  | g :: G => (markB K, marksR (K + 1) g.2.length) :: marksG (K + (1 + 3 * g.2.length)) G
theorem marksG_length (K : Nat) (G : List (ByteArray × List RowV)) : (marksG K G).length = G.length := by
  induction G generalizing K with
  | nil => rfl
  | cons g G ih => simp [marksG, ih]
theorem marksRlen (K j : Nat) : (marksR K j).length = j := by simp [marksR]
theorem marksG_get {G : List (ByteArray × List RowV)} {i K : Nat} {g : ByteArray × List RowV} (h : G[i]? = some g) : (marksG K G)[i]? = some (markB (K + sizeG (G.take i)), marksR (K + sizeG (G.take i) + 1) g.2.length) := by
  induction G generalizing i K with
  | nil => simp at h
  | cons x G ih =>
    cases i with
    | zero => simp at h; subst h; simp [marksG, sizeG]
    | succ i =>
      have := ih (i := i) (K := K + (1 + 3 * x.2.length)) (by simpa using h)
      simp only [marksG, List.getElem?_cons_succ, List.take_succ_cons, sizeG]
      rw [this, show K + (1 + 3 * x.2.length) + sizeG (G.take i) = K + (1 + 3 * x.2.length + sizeG (G.take i)) by omega]
/-- The first j are marked. -/
def mixG (G : List (ByteArray × List RowV)) (j : Nat) : List (ByteArray × List RowV) := (marksG 1 G).take j ++ G.drop j
theorem mixG_zero (G : List (ByteArray × List RowV)) : mixG G 0 = G := by simp [mixG]
theorem mixG_all {G : List (ByteArray × List RowV)} {j : Nat} (h : G.length ≤ j) : mixG G j = marksG 1 G := by
  unfold mixG
  rw [List.take_of_length_le (by rw [marksG_length]; exact h), List.drop_of_length_le h, List.append_nil]
theorem mixG_len (G : List (ByteArray × List RowV)) (j : Nat) : (mixG G j).length = G.length := by
  unfold mixG
  rw [List.length_append, List.length_take, List.length_drop, marksG_length]
  omega
theorem mixG_at {G : List (ByteArray × List RowV)} {j : Nat} {g : ByteArray × List RowV} (h : G[j]? = some g) : (mixG G j)[j]? = some g := by
  have hj := (List.getElem?_eq_some_iff.1 h).1
  unfold mixG
  rw [List.getElem?_append_right (by rw [List.length_take]; omega), List.length_take, marksG_length, List.getElem?_drop, show j + (j - min j G.length) = j by omega]
  exact h
theorem mixG_set {G : List (ByteArray × List RowV)} {j : Nat} {g m : ByteArray × List RowV} (h : G[j]? = some g) (hm : (marksG 1 G)[j]? = some m) : (mixG G j).set j m = mixG G (j + 1) := by
  have hj := (List.getElem?_eq_some_iff.1 h).1
  apply List.ext_getElem?
  intro i
  by_cases e : j = i
  · subst e
    rw [List.getElem?_set_self (by rw [mixG_len]; exact hj)]
    unfold mixG
    rw [List.getElem?_append_left (by rw [List.length_take, marksG_length]; omega), List.getElem?_take_of_lt (by omega), hm]
  · rw [List.getElem?_set_ne e]
    unfold mixG
    rcases Nat.lt_or_ge i j with hi | hi
    · rw [List.getElem?_append_left (by rw [List.length_take, marksG_length]; omega), List.getElem?_append_left (by rw [List.length_take, marksG_length]; omega), List.getElem?_take_of_lt hi, List.getElem?_take_of_lt (by omega)]
    · rw [List.getElem?_append_right (by rw [List.length_take]; omega), List.getElem?_append_right (by rw [List.length_take, marksG_length]; omega), List.length_take, List.length_take, marksG_length, List.getElem?_drop, List.getElem?_drop]
      congr 1
      omega
theorem gcells_key : ∀ (gs : List (ByteArray × Value)) (i : Nat) (k k' : ByteArray) (v : Value), gs[i]? = some (k, v) → (gcells gs).set (i * 2) (.string k') = gcells (gs.set i (k', v))
  | [], _, _, _, _, h => by simp at h
  | x :: gs, 0, k, k', v, h => by
    rw [List.getElem?_cons_zero] at h
    injection h with h
    subst h
    rfl
  | x :: gs, i + 1, k, k', v, h => by
    rw [List.getElem?_cons_succ] at h
    have ih := gcells_key gs i k k' v h
    have e : gcells (x :: gs) = .string x.1 :: x.2 :: gcells gs := rfl
    rw [e, show (i + 1) * 2 = (i * 2) + 1 + 1 by omega, List.set_cons_succ, List.set_cons_succ, ih, List.set_cons_succ]
    rfl
theorem set_same {α : Type} {l : List α} {i : Nat} {x : α} (h : l[i]? = some x) : l.set i x = l := by
  apply List.ext_getElem?
  intro k
  by_cases e : i = k
  · subst e; rw [List.getElem?_set_self (List.getElem?_eq_some_iff.1 h).1, h]
  · rw [List.getElem?_set_ne e]
/-- The key of a group is stored. -/
theorem GOwn.setKey {w : World} {lo n c g p : Nat} {gs : List (ByteArray × Value)} {G : List (ByteArray × List RowV)} {k k' : ByteArray} {v : Value} {rs : List RowV} (h : GOwn w lo (some ⟨g, 0, none⟩) n c gs G) (hv : gs[p]? = some (k, v)) (hG : G[p]? = some (k, rs)) : GOwn (w.setCell ⟨g, p * 2, none⟩ (.string k')) lo (some ⟨g, 0, none⟩) n c (gs.set p (k', v)) (G.set p (k', rs)) := by
  have hgo : (Value.slice (some ⟨g, 0, none⟩) n c).ownBlock = some g := rfl
  have e1 : (gs.set p (k', v)).map (·.2) = gs.map (·.2) := by
    rw [List.map_set]
    exact set_same (by rw [List.getElem?_map, hv]; rfl)
  have e2 : (G.set p (k', rs)).map (·.2) = G.map (·.2) := by
    rw [List.map_set]
    exact set_same (by rw [List.getElem?_map, hG]; rfl)
  refine ⟨?_, by rw [List.map_set, List.map_set, h.keys], ?_, by rw [e1]; exact h.out⟩
  · rw [← gcells_key gs p k k' v hv]
    exact (h.outer.stored (p * 2) (.string k')).1
  · rw [e1, e2]
    refine ⟨h.fam.len, fun i u rs hu hr => own_other (h.fam.own i u rs hu hr) (gb_store (World.grownBy.refl w (some g)) (p * 2) (.string k')) (fun g' h1 h2 => ?_), h.fam.sep⟩
    injection h2 with h2
    exact h.out u (List.mem_of_getElem? hu) g' h1 (by rw [hgo, h2])
/-- The rows of a group are written. -/
theorem GOwn.rows {w w1 : World} {lo n c p : Nat} {a : Option Addr} {gs : List (ByteArray × Value)} {G : List (ByteArray × List RowV)} {k : ByteArray} {v : Value} {rs rs' : List RowV} (h : GOwn w lo a n c gs G) (hv : gs[p]? = some (k, v)) (hG : G[p]? = some (k, rs)) (hg : w.grownBy w1 v.ownBlock) (hM : w1.ownsRow lo 77 3 v rs'.length (flat rs')) : GOwn w1 lo a n c gs (G.set p (k, rs')) := by
  have hv1 : (gs.map (·.2))[p]? = some v := by rw [List.getElem?_map, hv]; rfl
  have hF := h.fam.set (rs' := rs') hv1 hg hM (.inl rfl)
  rw [set_same hv1] at hF
  refine ⟨own_other h.outer hg (fun g hg he => h.out _ (List.mem_of_getElem? hv1) g he hg), ?_, ?_, h.out⟩
  · rw [List.map_set, h.keys]
    exact (set_same (by rw [List.getElem?_map, hG]; rfl)).symm
  · rw [List.map_set]
    exact hF
/-- Every block of groups lies below hi. -/
def BndG (hi : Nat) (a : Option Addr) (gs : List (ByteArray × Value)) : Prop := (∀ v ∈ gs.map (·.2), ∀ g, v.ownBlock = some g → g < hi) ∧ ∀ b o, a = some ⟨b, o, none⟩ → b < hi
theorem eqGroup_same (k : ByteArray) (a b : Option Addr) (ca cb : Nat) (rs : List RowV) (w : World) (hm : rs.length ≤ 1048576) (hA : Rd w w.heap.size 3 a rs.length (flat rs)) (hB : Rd w w.heap.size 3 b rs.length (flat rs)) :
    Calls Try.prog 94 #[.agg #[.string k, .slice a rs.length ca], .agg #[.string k, .slice b rs.length cb]] w fun e w' => e = .returned (.bool true) ∧ Below w.heap.size w w' := by
  have hb2 := bl2 w (.cells #[.string k, .slice a rs.length ca] 39) (.cells #[.string k, .slice b rs.length cb] 39)
  go_enter Try.func94, Try.ntmps94
  go_wp2_with fail
  refine (eqRowS_same a b rs.length ca cb rs _ hm ((hA.below hb2 (Nat.le_refl _)).more hb2.size) ((hB.below hb2 (Nat.le_refl _)).more hb2.size)).mono ?_
  rintro e w1 ⟨rfl, hb1⟩
  go_wp2_with fail
  go_ret
  exact ⟨rfl, hb2.trans (hb1.mono hb2.size)⟩
theorem sizeG_at {G : List (ByteArray × List RowV)} {j : Nat} {g : ByteArray × List RowV} (h : G[j]? = some g) : 1 + 3 * g.2.length ≤ sizeG G := by
  have h1 := sizeG_take h
  have h2 := sizeG_le G (j + 1)
  omega
set_option maxRecDepth 100000 in
set_option maxHeartbeats 1000000 in
theorem eqGroupS_same (a b : Option Addr) (n ca cb : Nat) (G : List (ByteArray × List RowV)) (w : World) (hm : n ≤ 1048576) (hr : sizeG G ≤ 1048576) (hA : GRd w w.heap.size a n G) (hB : GRd w w.heap.size b n G) :
    Calls Try.prog 49 #[.slice a n ca, .slice b n cb] w fun e w' => e = .returned (.bool true) ∧ Below w.heap.size w w' := by
  have hl := Lib.hid hA.1
  go_enter Try.func49, Try.ntmps49
  go_wp2
  go_loopw [5] (fun i wr => ∃ k : Nat, k ≤ n ∧ i = .int .i64 k ∧ Below w.heap.size w wr) (fun i _ => n - (intOf i).toNat)
  case atStart => exact ⟨0, Nat.zero_le _, rfl, Below.refl _ _⟩
  case round =>
    obtain ⟨k, hk, rfl, hb⟩ := hrel
    by_cases hlt : k < n
    · obtain ⟨⟨key, rs⟩, hx⟩ : ∃ x, G[k]? = some x := ⟨_, List.getElem?_eq_getElem (by rw [hl.out]; exact hlt)⟩
      obtain ⟨b1, a1, c1, rfl, hB1, d0, d1, R1⟩ := (hA.below hb (Nat.le_refl _)).2 k key rs hx
      obtain ⟨b2, a2, c2, rfl, hB2, e0, e1, R2⟩ := (hB.below hb (Nat.le_refl _)).2 k key rs hx
      have hz := sizeG_at hx
      simp only at hz
      have R1' := (R1.more hb.size)
      have R2' := (R2.more hb.size)
      clear hx R1 R2
      go_wp2_with fail
      refine wp_region_still_tail 8 (by kernel_rfl) (by kernel_rfl) ?_
      simp only [List.take_succ_cons, List.take_zero, List.drop_succ_cons, List.drop_zero]
      change wpStill _ _ wr.drew _ _ _
      repeat still_step
      refine wpStill_nil ?_
      change wpList _ _ _ _ _ wr.drew
      go_wp2_with fail
      refine (eqGroup_same key a1 a2 c1 c2 rs _ (by omega) R1'.drew' R2'.drew').mono ?_
      rintro e w1 ⟨rfl, hb1⟩
      clear d0 d1 e0 e1
      go_wp2_with fail
      go_roundw
      case rel => exact ⟨k + 1, by omega, by go_num, hb.drew.trans (hb1.mono hb.size)⟩
      case measure => simp [intOf]; omega
    · go_wp2_with fail
      go_ret
      exact ⟨rfl, hb⟩
end Go.Proofs.Ytjepmcepgoncnaa

namespace Go.Proofs.Ytjepmcepgoncnaa
open Go.RowKit Go.Shelf
attribute [local go_sem] Oper.semAt_some
/-- The groups of rows: each key with the rows that begin with it; no more than so many. -/
def groupsF : Nat → List RowV → List (ByteArray × List RowV)
  | 0, _ => []
  | _ + 1, [] => []
  | f + 1, r :: l => (r.key, leadL r.key (r :: l)) :: groupsF f ((r :: l).drop (leadN r.key (r :: l)))
def groupsR (l : List RowV) : List (ByteArray × List RowV) := groupsF l.length l
theorem leadN_pos (r : RowV) (l : List RowV) : 1 ≤ leadN r.key (r :: l) := by
  unfold leadN leadL
  rw [List.takeWhile_cons, if_pos (by simp)]
  simp
theorem groupsF_fuel : ∀ (f g : Nat) (l : List RowV), l.length ≤ f → l.length ≤ g → groupsF f l = groupsF g l
  | 0, 0, _, _, _ => rfl
  | 0, g + 1, [], _, _ => rfl
  | 0, g + 1, r :: l, h, _ => by simp at h
  | f + 1, 0, [], _, _ => rfl
  | f + 1, 0, r :: l, _, h => by simp at h
  | f + 1, g + 1, [], _, _ => rfl
  | f + 1, g + 1, r :: l, hf, hg => by
    have hp := leadN_pos r l
    rw [groupsF, groupsF, groupsF_fuel f g _ (by rw [List.length_drop]; omega) (by rw [List.length_drop]; omega)]
theorem groupsR_nil : groupsR [] = [] := rfl
theorem groupsR_next (r : RowV) (l : List RowV) : groupsR (r :: l) = (r.key, leadL r.key (r :: l)) :: groupsR ((r :: l).drop (leadN r.key (r :: l))) := by
  have hp := leadN_pos r l
  unfold groupsR
  rw [List.length_cons, groupsF, groupsF_fuel l.length _ _ (by rw [List.length_drop, List.length_cons]; omega) (Nat.le_refl _)]
theorem groupsF_le : ∀ (f : Nat) (l : List RowV), (groupsF f l).length ≤ l.length
  | 0, _ => Nat.zero_le _
  | _ + 1, [] => Nat.le_refl _
  | f + 1, r :: l => by
    have hp := leadN_pos r l
    have ih := groupsF_le f ((r :: l).drop (leadN r.key (r :: l)))
    rw [List.length_drop] at ih
    rw [groupsF, List.length_cons]
    simp only [List.length_cons] at ih ⊢
    omega
/-- A stretch of rows with its key, where it lies. -/
structure GrpV where
  key : ByteArray
  a : Option Addr
  n : Nat
  c : Nat
  rows : List RowV
/-- One that can be read in a world. -/
def GrpIn (w : World) (B : Nat) : Type := {x : GrpV // Rd w B 3 x.a x.n (flat x.rows) ∧ x.n ≤ x.c ∧ x.n ≤ 1048576 ∧ ∃ b off, x.a = some ⟨b, off, none⟩}
def grpsOf {w : World} {B : Nat} (ys : List (GrpIn w B)) : List (ByteArray × List RowV) := ys.map fun x => (x.1.key, x.1.rows)
def grpV {w : World} {B : Nat} (x : GrpIn w B) : Array Value := #[.string x.1.key, .slice x.1.a x.1.n x.1.c]
set_option maxRecDepth 100000 in
set_option maxHeartbeats 2000000 in
theorem byKey1_in (n l Bl n₀ : Nat) (a : Option Addr) (len cap : Nat) (rs : List RowV) (w0 : World) (hm : len ≤ 1048576) (hlc : len ≤ cap) (J Jx : List (GrpIn w0 n₀) → World → Prop) (W : World) (hn₀ : n₀ ≤ W.heap.size) (hW : Below n₀ w0 W)
    (hY : ∀ pre x W1, J pre W1 → pre.length < rs.length → YieldAt Fence.wide (n - 1) Try.prog l (grpV x) W1 fun e W' =>
      (e = .returned (.bool true) ∧ J (pre ++ [x]) W' ∧ Below n₀ W1 W') ∨ (e = .returned (.bool false) ∧ Jx (pre ++ [x]) W'))
    (hBl : W.cell? ⟨Bl, 0, none⟩ = some (.slice a len cap)) (hR : Rd w0 n₀ 3 a len (flat rs)) (h0 : J [] W) :
    CallsIn Fence.wide n Try.prog 105 #[.func (.yield l) #[] #[], .pointer (some ⟨Bl, 0, none⟩)] W fun e W' => (∃ v, e = .returned v) ∧
      ((∃ ys, grpsOf ys = groupsR rs ∧ J ys W') ∨ (∃ pre, grpsOf pre <+: groupsR rs ∧ Jx pre W')) := by
  have hl := Lib.hid hR.rows_length
  have HR0 := Lib.hid hR
  have HW := Lib.hid hW
  generalize hT : groupsR rs = T
  have HT := Lib.hid hT
  clear hT hR hW
  refine callsIn_of_wp Try.func105 rfl trivial ?_ rfl
  simp only [Try.ntmps105, List.size_toArray, List.length_cons, List.length_nil, Nat.reduceAdd, Nat.reduceSub, Array.replicate_succ, Array.replicate_zero, List.push_toArray, List.append_toArray, List.nil_append, List.cons_append]
  gi_wp2
  gi_loopw [3] (fun v wr => ∃ (m : Nat) (ra : Option Addr) (rc : Nat) (R : List RowV) (ys : List (GrpIn w0 n₀)), v = .slice ra m rc ∧ m ≤ rc ∧ ys.length + m ≤ len ∧ Hid (Rd w0 n₀ 3 ra m (flat R)) ∧ Hid (T = grpsOf ys ++ groupsR R) ∧ J ys wr ∧ Below n₀ W wr)
    (fun v _ => match v with | .slice _ n _ => n | _ => 0)
  case atStart => exact ⟨len, _, _, rs, [], rfl, hlc, by simp, HR0, Lib.hid HT.out.symm, h0, Below.refl _ _⟩
  case round =>
    obtain ⟨m, ra, rc, R, ys, rfl, hmr, hym, HR, HG, hJs, hnx⟩ := hrel
    by_cases hm0 : m = 0
    · subst hm0
      have hRn : R = [] := List.length_eq_zero_iff.1 HR.out.rows_length
      have HG2 := Lib.hid (show grpsOf ys = T by rw [HG.out, hRn, groupsR_nil, List.append_nil])
      clear hRn
      gi_wp2
      go_end0
      exact ⟨⟨_, rfl⟩, .inl ⟨ys, HG2.out, hJs⟩⟩
    · have hRl : R.length = m := HR.out.rows_length
      obtain ⟨r, R', rfl⟩ : ∃ r R', R = r :: R' := by
        cases R with
        | nil => simp at hRl; omega
        | cons r R => exact ⟨r, R, rfl⟩
      have hRr := HR.out.below (HW.out.trans hnx) (Nat.le_refl _)
      obtain ⟨b, off, r', rfl, hB1, hrk, c0, _, _⟩ := hRr.row (show 0 < m by omega)
      obtain rfl : r = r' := by simpa using hrk
      clear hrk
      have hsz : n₀ ≤ wr.heap.size := Nat.le_trans hn₀ hnx.size
      have hq1 := leadN_pos r R'
      have hq2 := leadN_le r.key (r :: R')
      rw [hRl] at hq2
      have CL := leadingRows_any (some ⟨b, off, none⟩) m rc (r :: R') r.key wr (by omega) (hRr.more hsz)
      have HN := Lib.hid (groupsR_next r R')
      have HL := Lib.hid (lead_take (key := r.key) (r :: R'))
      have hm4 : 0 < m := by omega
      have hm5 : (0 : Int) < (m : Int) := by omega
      simp only [Nat.zero_mul, Nat.add_zero] at c0
      generalize hqe : leadN r.key (r :: R') = q at *
      have HQ := Lib.hid hqe
      clear hqe hRl
      have hq3 : (q : Int) ≤ (rc : Int) := by omega
      have hq4 : (0 : Int) ≤ (q : Int) := by omega
      have hq5 : (q : Int) ≤ (m : Int) := by omega
      have hxR : Rd w0 n₀ 3 (some ⟨b, off, none⟩) q (flat (leadL r.key (r :: R'))) := by
        rw [← HL.out]
        exact HR.out.head hq2
      have hxq : q ≤ rc ∧ q ≤ 1048576 ∧ ∃ b' off', some (⟨b, off, none⟩ : Addr) = some ⟨b', off', none⟩ := ⟨by omega, by omega, b, off, rfl⟩
      obtain ⟨x, hx⟩ : ∃ x : GrpIn w0 n₀, x = ⟨⟨r.key, some ⟨b, off, none⟩, q, rc, leadL r.key (r :: R')⟩, hxR, hxq⟩ := ⟨_, rfl⟩
      have hxe : grpsOf (ys ++ [x]) = grpsOf ys ++ [(r.key, leadL r.key (r :: R'))] := by
        unfold grpsOf
        rw [List.map_append, hx]
        rfl
      have HG2 := Lib.hid (show T = grpsOf (ys ++ [x]) ++ groupsR ((r :: R').drop q) by rw [HG.out, HN.out, hxe, List.append_assoc]; rfl)
      have efr : fromA (some ⟨b, off, none⟩) rc q = if rc = q then some ⟨b, off, none⟩ else some ⟨b, off + q * 3, none⟩ := by
        unfold fromA
        split
        · rfl
        · simp [Addr.add_mid]
      have HR2 := Lib.hid (show Rd w0 n₀ 3 (if rc = q then some ⟨b, off, none⟩ else some ⟨b, off + q * 3, none⟩) (m - q) (flat ((r :: R').drop q)) by rw [← efr]; exact HR.out.from_ hq2 hmr)
      clear efr
      obtain ⟨fn, tmps, assign, body, hy, hRd⟩ := hY ys x wr hJs (by rw [hl.out]; omega)
      rw [show grpV x = #[.string r.key, .slice (some ⟨b, off, none⟩) q rc] by rw [hx]; rfl] at hy
      have hlen : (ys ++ [x]).length + (m - q) ≤ len := by rw [List.length_append, List.length_singleton]; omega
      clear hx hxe HN HL HG hJs hY
      clear hxR hxq
      gi_wp2_with fail
      refine ⟨trivial, fun h => (by cases h), ?_⟩
      refine (callsIn_wide.2 CL).mono ?_
      rintro e w2 ⟨rfl, rfl⟩
      clear CL
      gi_wp2_with fail
      refine ⟨fun h => (by cases h), ?_⟩
      refine hRd.mono ?_
      rintro e W3 (⟨rfl, hJ3, hk3⟩ | ⟨rfl, hJx3⟩)
      · have hnx3 := hnx.trans hk3
        clear c0 hk3 hnx hRd hy
        gi_wp2_with fail
        go_roundw
        case rel => exact ⟨m - q, _, rc - q, (r :: R').drop q, ys ++ [x], rfl, by omega, hlen, HR2, HG2, hJ3, hnx3⟩
        case measure => simp; omega
      · clear c0 hnx hRd hy
        gi_wp2_with fail
        refine bodyPost_ret (results_none rfl _ _ _) rfl ?_
        exact ⟨⟨_, rfl⟩, .inr ⟨ys ++ [x], ⟨groupsR ((r :: R').drop q), HG2.out.symm⟩, hJx3⟩⟩
set_option maxRecDepth 100000 in
theorem byKey_any (a : Option Addr) (len cap : Nat) (w : World) :
    Calls Try.prog 68 #[.slice a len cap] w fun e w' => e = .returned (.func (.func 105) #[] #[.pointer (some ⟨w.heap.size, 0, none⟩)]) ∧ w' = w.alloc (.cells #[.slice a len cap] 24) := by
  go_enter Try.func68, Try.ntmps68
  go_wp2_with fail
  go_ret
  exact ⟨rfl, rfl⟩
/-- What byKey yields: the keys with their rows, in their order. -/
theorem byKey_stops (n Bl n₀ : Nat) (a : Option Addr) (len cap : Nat) (rs : List RowV) (hm : len ≤ 1048576) (hlc : len ≤ cap) (w : World) (hn₀ : n₀ ≤ w.heap.size)
    (hBl : w.cell? ⟨Bl, 0, none⟩ = some (.slice a len cap)) (hll : Bl < w.heap.size) (hR : Rd w n₀ 3 a len (flat rs)) :
    SeqStopsK Fence.wide n Try.prog 105 #[.pointer (some ⟨Bl, 0, none⟩)] (fun x : GrpIn w n₀ => grpV x) (Below n₀) (fun ys => grpsOf ys = groupsR rs) (fun pre => grpsOf pre <+: groupsR rs) rs.length w := fun l J Jx W hW _ _ hY h0 =>
  byKey1_in n l Bl n₀ a len cap rs w hm hlc J Jx W (Nat.le_trans hn₀ hW.size) (hW.mono hn₀) hY ((hW.cell (p := ⟨Bl, 0, none⟩) hll).trans hBl) hR h0
end Go.Proofs.Ytjepmcepgoncnaa

namespace Go.Proofs.Ytjepmcepgoncnaa
open Go.RowKit
def gstep (G : List (ByteArray × List RowV)) (r : RowV) : List (ByteArray × List RowV) :=
  match G.getLast? with
  | some g => if g.1 = r.key then G.dropLast ++ [(g.1, g.2 ++ [r])] else G ++ [(r.key, [r])]
  | none => [(r.key, [r])]
theorem gstep_nil (r : RowV) : gstep [] r = [(r.key, [r])] := rfl
theorem gstep_eq (G : List (ByteArray × List RowV)) (k : ByteArray) (l : List RowV) (r : RowV) (h : k = r.key) : gstep (G ++ [(k, l)]) r = G ++ [(k, l ++ [r])] := by
  unfold gstep
  rw [List.getLast?_concat]
  simp [h]
theorem gstep_ne (G : List (ByteArray × List RowV)) (k : ByteArray) (l : List RowV) (r : RowV) (h : ¬ k = r.key) : gstep (G ++ [(k, l)]) r = (G ++ [(k, l)]) ++ [(r.key, [r])] := by
  unfold gstep
  rw [List.getLast?_concat]
  simp [h]
theorem leadL_eq (r : RowV) (l : List RowV) {k : ByteArray} (h : r.key = k) : leadL k (r :: l) = r :: leadL k l := by
  unfold leadL
  rw [List.takeWhile_cons, if_pos (by simp [h])]
theorem leadL_ne (r : RowV) (l : List RowV) {k : ByteArray} (h : ¬ r.key = k) : leadL k (r :: l) = [] := by
  unfold leadL
  rw [List.takeWhile_cons, if_neg (by simp only [beq_iff_eq]; exact fun e => h (by rw [ByteArray.toList_eq, ByteArray.toList_eq] at e; exact ByteArray.ext (Array.toList_inj.1 e)))]
theorem groups_fold : ∀ (rs : List RowV) (G : List (ByteArray × List RowV)) (k : ByteArray) (l : List RowV), rs.foldl gstep (G ++ [(k, l)]) = G ++ (k, l ++ leadL k rs) :: groupsR (rs.drop (leadN k rs))
  | [], G, k, l => by simp [leadL, groupsR_nil]
  | r :: rs, G, k, l => by
    rw [List.foldl_cons]
    by_cases h : k = r.key
    · rw [gstep_eq G k l r h, groups_fold rs G k (l ++ [r])]
      have e := leadL_eq r rs h.symm
      have e2 : leadN k (r :: rs) = leadN k rs + 1 := by unfold leadN; rw [e]; rfl
      rw [e, e2, List.drop_succ_cons, List.append_assoc]
      rfl
    · rw [gstep_ne G k l r h, groups_fold rs (G ++ [(k, l)]) r.key [r]]
      have e := leadL_ne r rs (k := k) (fun x => h x.symm)
      have e2 : leadN k (r :: rs) = 0 := by unfold leadN; rw [e]; rfl
      have e3 := leadL_eq r rs rfl
      have e4 : leadN r.key (r :: rs) = leadN r.key rs + 1 := by unfold leadN; rw [e3]; rfl
      rw [e, e2, List.drop_zero, groupsR_next, e3, e4, List.drop_succ_cons, List.append_nil, List.append_assoc]
      rfl
theorem groups_steps (rs : List RowV) : rs.foldl gstep [] = groupsR rs := by
  cases rs with
  | nil => rfl
  | cons r rs =>
    rw [List.foldl_cons, gstep_nil]
    have := groups_fold rs [] r.key [r]
    rw [List.nil_append] at this
    have e3 := leadL_eq r rs rfl
    have e4 : leadN r.key (r :: rs) = leadN r.key rs + 1 := by unfold leadN; rw [e3]; rfl
    rw [this, groupsR_next, e3, e4, List.drop_succ_cons]
    rfl
/-- The groups of one row more. -/
theorem groups_snoc (rs : List RowV) (r : RowV) : groupsR (rs ++ [r]) = gstep (groupsR rs) r := by
  rw [← groups_steps, ← groups_steps, List.foldl_append]
  rfl
theorem gstep_le (G : List (ByteArray × List RowV)) (r : RowV) : (gstep G r).length ≤ G.length + 1 := by
  rcases List.eq_nil_or_concat G with rfl | ⟨G', g, rfl⟩
  · exact Nat.le_refl _
  · obtain ⟨k, l⟩ := g
    rw [List.concat_eq_append]
    by_cases h : k = r.key
    · rw [gstep_eq _ _ _ _ h]; simp
    · rw [gstep_ne _ _ _ _ h]; simp
end Go.Proofs.Ytjepmcepgoncnaa

namespace Go.Proofs.Ytjepmcepgoncnaa
open Go.RowKit
variable {a : Option Addr} {m : Nat} {l : List RowV}
/-- What stands ready for the second append, in the world W2, with the row at block s. -/
def Ready (w w3 W2 : World) (t : TypeId) (s : Nat) (v : Value) (n : Nat) (xs : List Value) (rk : ByteArray) (rt : Int) (rv : ByteArray) : Prop :=
  Below w.heap.size w w3 ∧ Hid (W2.ownsRow w.heap.size t 3 v n xs) ∧ Hid (∀ j u, [Value.string rk, .int .i64 rt, .string rv][j]? = some u → W2.cell? ((⟨s, 0, none⟩ : Addr).add j) = some u) ∧ Hid (Below w.heap.size w W2)
theorem arm_A (w : World) (rk : ByteArray) (rt : Int) (rv : ByteArray) (t : TypeId) (h : Rd w w.heap.size 3 a m (flat l)) :
    (w.alloc (.cells #[] t)).drew.ownsRow w.heap.size t 3 (.slice (some ⟨w.heap.size, 0, none⟩) 0 0) 0 [] ∧ Rd (w.alloc (.cells #[] t)).drew w.heap.size 3 a m (flat l) ∧ w.heap.size ≤ (w.alloc (.cells #[] t)).drew.heap.size ∧
      ∀ v n w3, w3.ownsRow w.heap.size t 3 v n ([] ++ flat l) → (w.alloc (.cells #[] t)).drew.grownBy w3 (Value.slice (some ⟨w.heap.size, 0, none⟩) 0 0).ownBlock →
        Ready w w3 (w3.alloc (.cells #[.string rk, .int .i64 rt, .string rv] t)) t w3.heap.size v n ([] ++ flat l) rk rt rv := by
  have hb : Below w.heap.size w (w.alloc (.cells #[] t)).drew := ((Below.refl _ w).alloc (Nat.le_refl _) _).drew
  refine ⟨(World.ownsRow_lit (base := w.heap.size) (e := t) (size := 3) w #[] 0 (Nat.le_refl _) (Nat.zero_le _) rfl).drew, h.below hb (Nat.le_refl _), hb.size, fun v n w3 hO hg => ?_⟩
  have hb3 := hb.grown hg hb.size (fun q e => by simp [Value.ownBlock] at e; omega)
  refine ⟨hb3, Lib.hid (hO.alloc _), Lib.hid fun j u hu => ?_, Lib.hid (hb3.alloc hb3.size _)⟩
  rw [Addr.add_mid, Nat.zero_add]
  rcases j with _ | _ | _ | j <;> simp at hu <;> subst hu <;> simp [go_sem]
theorem arm_B (w : World) (rk : ByteArray) (rt : Int) (rv : ByteArray) (t : TypeId) (h : Rd w w.heap.size 3 a m (flat l)) :
    ((w.alloc (.cells #[] t)).alloc (.cells #[.string rk, .int .i64 rt, .string rv] t)).drew.ownsRow w.heap.size t 3 (.slice (some ⟨w.heap.size, 0, none⟩) 0 0) 0 [] ∧ Rd ((w.alloc (.cells #[] t)).alloc (.cells #[.string rk, .int .i64 rt, .string rv] t)).drew w.heap.size 3 a m (flat l) ∧ w.heap.size ≤ ((w.alloc (.cells #[] t)).alloc (.cells #[.string rk, .int .i64 rt, .string rv] t)).drew.heap.size ∧
      ∀ v n w3, w3.ownsRow w.heap.size t 3 v n ([] ++ flat l) → ((w.alloc (.cells #[] t)).alloc (.cells #[.string rk, .int .i64 rt, .string rv] t)).drew.grownBy w3 (Value.slice (some ⟨w.heap.size, 0, none⟩) 0 0).ownBlock →
        Ready w w3 w3 t (w.heap.size + 1) v n ([] ++ flat l) rk rt rv := by
  have hb : Below w.heap.size w ((w.alloc (.cells #[] t)).alloc (.cells #[.string rk, .int .i64 rt, .string rv] t)).drew := (((Below.refl _ w).alloc (Nat.le_refl _) _).alloc (by simp) _).drew
  refine ⟨((World.ownsRow_lit (base := w.heap.size) (e := t) (size := 3) w #[] 0 (Nat.le_refl _) (Nat.zero_le _) rfl).alloc _).drew, h.below hb (Nat.le_refl _), hb.size, fun v n w3 hO hg => ?_⟩
  have hb3 := hb.grown hg hb.size (fun q e => by simp [Value.ownBlock] at e; omega)
  refine ⟨hb3, Lib.hid hO, Lib.hid fun j u hu => ?_, Lib.hid hb3⟩
  rw [Addr.add_mid, Nat.zero_add]
  refine (World.cell?_of_block (a := ⟨w.heap.size + 1, j, none⟩) (hg.block (w.heap.size + 1) (by simp) (fun e => by simp [Value.ownBlock] at e))).trans ?_
  rcases j with _ | _ | _ | j <;> simp at hu <;> subst hu <;> simp [go_sem]
theorem arm_C (w : World) (rk : ByteArray) (rt : Int) (rv : ByteArray) (t : TypeId) (h : Rd w w.heap.size 3 a m (flat l)) :
    ((w.alloc (.cells #[.string rk, .int .i64 rt, .string rv] t)).alloc (.cells #[] t)).drew.ownsRow w.heap.size t 3 (.slice (some ⟨w.heap.size + 1, 0, none⟩) 0 0) 0 [] ∧ Rd ((w.alloc (.cells #[.string rk, .int .i64 rt, .string rv] t)).alloc (.cells #[] t)).drew w.heap.size 3 a m (flat l) ∧ w.heap.size ≤ ((w.alloc (.cells #[.string rk, .int .i64 rt, .string rv] t)).alloc (.cells #[] t)).drew.heap.size ∧
      ∀ v n w3, w3.ownsRow w.heap.size t 3 v n ([] ++ flat l) → ((w.alloc (.cells #[.string rk, .int .i64 rt, .string rv] t)).alloc (.cells #[] t)).drew.grownBy w3 (Value.slice (some ⟨w.heap.size + 1, 0, none⟩) 0 0).ownBlock →
        Ready w w3 w3 t w.heap.size v n ([] ++ flat l) rk rt rv := by
  have hb : Below w.heap.size w ((w.alloc (.cells #[.string rk, .int .i64 rt, .string rv] t)).alloc (.cells #[] t)).drew := (((Below.refl _ w).alloc (Nat.le_refl _) _).alloc (by simp) _).drew
  have hl := (World.ownsRow_lit (base := w.heap.size) (e := t) (size := 3) (w.alloc (.cells #[.string rk, .int .i64 rt, .string rv] t)) #[] 0 (by simp) (Nat.zero_le _) rfl).drew
  rw [World.size_alloc] at hl
  refine ⟨hl, h.below hb (Nat.le_refl _), hb.size, fun v n w3 hO hg => ?_⟩
  have hb3 := hb.grown hg hb.size (fun q e => by simp [Value.ownBlock] at e; omega)
  refine ⟨hb3, Lib.hid hO, Lib.hid fun j u hu => ?_, Lib.hid hb3⟩
  rw [Addr.add_mid, Nat.zero_add]
  refine (World.cell?_of_block (a := ⟨w.heap.size, j, none⟩) (hg.block w.heap.size (by simp; omega) (fun e => by simp [Value.ownBlock] at e))).trans ?_
  rcases j with _ | _ | _ | j <;> simp at hu <;> subst hu <;> simp [go_sem]
end Go.Proofs.Ytjepmcepgoncnaa

namespace Go.Proofs.Ytjepmcepgoncnaa
open Go.RowKit
theorem infoGroup : (Try.prog.info? 39).map (fun i => (i.zero, i.size, i.bytes)) = some (some (.agg #[.string ⟨#[]⟩, .slice none 0 0]), 2, 40) := by kernel_rfl
theorem group_one (k : ByteArray) (a : Option Addr) (n c : Nat) : ∀ u ∈ [Value.string k, .slice a n c], u.oneCell' = true := by
  intro u hu
  simp only [List.mem_cons, List.not_mem_nil, or_false] at hu
  rcases hu with rfl | rfl <;> rfl
theorem group_lit (w : World) (k : ByteArray) (t : Int) (v : ByteArray) (tr tg : TypeId) : ∀ j u, [Value.string k, .slice (some ⟨w.heap.size, 0, none⟩) 1 1][j]? = some u →
    ((w.alloc (.cells #[.string k, .int .i64 t, .string v] tr)).alloc (.cells #[.string k, .slice (some ⟨w.heap.size, 0, none⟩) 1 1] tg)).drew.cell? ((⟨w.heap.size + 1, 0, none⟩ : Addr).add j) = some u := by
  intro j u hu
  rw [Addr.add_mid, Nat.zero_add]
  rcases j with _ | _ | j <;> simp at hu <;> subst hu <;> simp [go_sem]
theorem rows_cells {w wr : World} {lo b o : Nat} {rk rv : ByteArray} {rt : Int} (hb : Below lo w wr) (hB : b < lo) (c0 : wr.cell? ⟨b, o, none⟩ = some (.string rk)) (c1 : wr.cell? ⟨b, o + 1, none⟩ = some (.int .i64 rt)) (c2 : wr.cell? ⟨b, o + 2, none⟩ = some (.string rv)) :
    ∀ W, Below lo w W → W.cell? ⟨b, o, none⟩ = some (.string rk) ∧ W.cell? ⟨b, o + 1, none⟩ = some (.int .i64 rt) ∧ W.cell? ⟨b, o + 2, none⟩ = some (.string rv) := fun _ h =>
  ⟨(h.cell (p := ⟨b, o, none⟩) hB).trans ((hb.cell (p := ⟨b, o, none⟩) hB).symm.trans c0), (h.cell (p := ⟨b, o + 1, none⟩) hB).trans ((hb.cell (p := ⟨b, o + 1, none⟩) hB).symm.trans c1), (h.cell (p := ⟨b, o + 2, none⟩) hB).trans ((hb.cell (p := ⟨b, o + 2, none⟩) hB).symm.trans c2)⟩
theorem groups_len {rs : List RowV} {M p : Nat} {k : ByteArray} {l : List RowV} (hM : rs.length ≤ M) (h : (groupsR rs)[p]? = some (k, l)) : l.length ≤ M := by
  have key : ∀ (f : Nat) (rs : List RowV), ∀ g ∈ groupsF f rs, g.2.length ≤ rs.length := by
    intro f
    induction f with
    | zero => intro rs g hg; cases hg
    | succ f ih =>
      intro rs g hg
      cases rs with
      | nil => cases hg
      | cons r rs =>
        rw [groupsF] at hg
        rcases List.mem_cons.1 hg with rfl | hg
        · exact leadN_le r.key (r :: rs)
        · have := ih _ g hg
          rw [List.length_drop] at this
          omega
  have := key _ rs _ (List.mem_of_getElem? h)
  simp only at this
  omega
theorem flat_oneG (l : List RowV) : ∀ u ∈ flat l, u.oneCell' = true := by
  induction l with
  | nil => simp [flat]
  | cons r l ih =>
    intro u hu
    rw [flat_cons] at hu
    simp only [List.mem_cons] at hu
    rcases hu with rfl | rfl | rfl | hu
    · rfl
    · rfl
    · rfl
    · exact ih u hu
section
variable {w v W' : World} {lo : Nat} {C : World → Prop}
theorem gFirst (hC : ∀ W, Below lo w W → C W) (hb : Below lo w v) : C v.drew ∧ Below lo w v.drew := ⟨hC _ hb.drew, hb.drew⟩
theorem gNew {W : World} {o : Obj} (hC : ∀ W, Below w.heap.size w W → C W) (G : C W ∧ Below w.heap.size w W) : C (W.alloc o) ∧ Below w.heap.size w (W.alloc o) := ⟨hC _ (G.2.alloc G.2.size _), G.2.alloc G.2.size _⟩
theorem gIn (hC : ∀ W, Below lo w W → C W) (H : Below lo v W') (G : Below lo w v) : C W' ∧ Below lo w W' := ⟨hC _ (G.trans H), G.trans H⟩
theorem gSet {W : World} {b j : Nat} {x : Value} (hC : ∀ W, Below lo w W → C W) (hb : lo ≤ b) (G : C W ∧ Below lo w W) : C (W.setCell ⟨b, j, none⟩ x) ∧ Below lo w (W.setCell ⟨b, j, none⟩ x) := ⟨hC _ (G.2.setCell (p := ⟨b, j, none⟩) hb _), G.2.setCell (p := ⟨b, j, none⟩) hb _⟩
end
def GroupsOut (rs : List RowV) (w : World) (e : Ending) (w' : World) : Prop :=
  ∃ b c gs, e = .returned (.slice b (groupsR rs).length c) ∧ Below w.heap.size w w' ∧ GOwn w' w.heap.size b (groupsR rs).length c gs (groupsR rs)
set_option maxRecDepth 100000 in
set_option maxHeartbeats 4000000 in
theorem l4Groups_any (a : Option Addr) (n cap : Nat) (rs : List RowV) (w : World) (hm : n ≤ 1048576) (hR : Rd w w.heap.size 3 a n (flat rs)) :
    Calls Try.prog 66 #[.slice a n cap] w (GroupsOut rs w) := by
  obtain ⟨i0, hi, hz0, hz1, hz2⟩ := info_parts infoRow
  obtain ⟨i1, hj, hy0, hy1, hy2⟩ := info_parts infoGroup
  have hrl := Lib.hid hR.rows_length
  have hb0 := bl1 w (.cells #[] 39)
  have O0 := World.ownsRow_lit (base := w.heap.size) (e := 39) (size := 2) w #[] 0 (Nat.le_refl _) (Nat.zero_le _) rfl
  go_enter Try.func66, Try.ntmps66
  go_wp2_with fail
  generalize w.alloc (.cells #[] 39) = w0 at *
  go_loopw [3, 4] (fun v i wr => ∃ (k q : Nat) (g : Option Addr) (c : Nat) (gs : List (ByteArray × Value)), i = .int .i64 k ∧ v = .slice g q c ∧ k ≤ n ∧ q ≤ k ∧ GOwn wr w.heap.size g q c gs (groupsR (rs.take k)) ∧ Below w.heap.size w wr) (fun _ i _ => n - (intOf i).toNat)
  case atStart => exact ⟨0, 0, _, _, [], rfl, rfl, Nat.zero_le _, Nat.le_refl _, ⟨O0, rfl, Fam.nil _ _, fun v hv => by cases hv⟩, hb0⟩
  case round =>
    obtain ⟨k, q, g, c, gs, rfl, rfl, hk, hqk, hP, hb⟩ := hrel
    clear O0 hb0
    by_cases hlt : k < n
    · obtain ⟨b, off, r, rfl, hB0, hr, c0, c1, c2⟩ := (hR.below hb (Nat.le_refl _)).row hlt
      obtain ⟨rk, rt, rv⟩ := r
      dsimp only at c0 c1 c2
      have hB := Nat.lt_of_lt_of_le hB0 hb.size
      have hCC := rows_cells hb hB0 c0 c1 c2
      have hGle : (rs.take k).length ≤ 1048576 := by rw [List.length_take, hrl.out]; omega
      have hlen := hP.len
      have E := Lib.hid (show groupsR (rs.take (k + 1)) = gstep (groupsR (rs.take k)) ⟨rk, rt, rv⟩ by rw [List.take_add_one, hr, Option.toList_some, groups_snoc])
      clear hr
      by_cases hq0 : q = 0
      · subst hq0
        have hnil : groupsR (rs.take k) = [] := List.eq_nil_of_length_eq_zero hlen.2
        have E2 := Lib.hid (show groupsR (rs.take (k + 1)) = groupsR (rs.take k) ++ [(rk, [⟨rk, rt, rv⟩])] by rw [E.out, hnil]; rfl)
        clear hnil hlen E
        go_wp2_with fail
        go_quiet (fail)
        have hP1 := hP.below (drewN_below wr nq)
        have hb1 := hb.trans ((drewN_below wr nq).mono hb.size)
        have c0' := ((drewN_below wr nq).cell (p := ⟨b, off + k * 3, none⟩) hB).trans c0
        have c1' := ((drewN_below wr nq).cell (p := ⟨b, off + k * 3 + 1, none⟩) hB).trans c1
        have c2' := ((drewN_below wr nq).cell (p := ⟨b, off + k * 3 + 2, none⟩) hB).trans c2
        have hB2 := Nat.lt_of_lt_of_le hB (drewN_below wr nq).size
        clear hP hb c0 c1 c2 hB
        generalize wr.drewN nq = w2 at *
        have HP := Lib.hid hP1
        have HB := Lib.hid hb1
        clear hP1 hb1
        go_wp2_with fail
        have lr := World.ownsRow_lit (base := w2.heap.size) (e := 77) (size := 3) w2 #[.string rk, .int .i64 rt, .string rv] 1 (Nat.le_refl _) (by decide) rfl
        have hbX : Below w2.heap.size w2 ((w2.alloc (.cells #[.string rk, .int .i64 rt, .string rv] 77)).alloc (.cells #[.string rk, .slice (some ⟨w2.heap.size, 0, none⟩) 1 1] 39)).drew := (((Below.refl _ w2).alloc (Nat.le_refl _) _).alloc (by simp) _).drew
        have HLR := Lib.hid ((lr.alloc (.cells #[.string rk, .slice (some ⟨w2.heap.size, 0, none⟩) 1 1] 39)).drew)
        have HO := Lib.hid (own_below HP.out.outer hbX)
        have HBX := Lib.hid hbX
        have HXS := Lib.hid (Nat.le_trans HB.out.size hbX.size)
        have HN := Lib.hid (group_lit w2 rk rt rv 77 39)
        have hlm : 0 + 1 ≤ maxLen := by unfold maxLen; omega
        have hlb : (0 + 1) * 40 ≤ 140737488355328 := by omega
        have d0 : (w2.alloc (.cells #[.string rk, .int .i64 rt, .string rv] 77)).cell? ⟨b, off + k * 3, none⟩ = some (.string rk) := (((Below.refl w2.heap.size w2).alloc (Nat.le_refl _) _).cell (p := ⟨b, off + k * 3, none⟩) hB2).trans c0'
        clear lr hbX
        go_region_law (refine step_append_own_at rfl (.tmp 48) (.tmp 60) 35 rfl w.heap.size 39 i1 (.agg #[.string ⟨#[]⟩, .slice none 0 0]) 2 40 Try.underlying35 hj hy0 hy1 hy2 rfl (by decide) (.slice g 0 c) 0 (gcells gs) rfl HO.out ⟨w2.heap.size + 1, 0, none⟩ 1 1 [.string rk, .slice (some ⟨w2.heap.size, 0, none⟩) 1 1] rfl rfl HN.out (group_one rk _ _ _) hlm hlb HXS.out ?_; intro v' w3 hO3 hg3 hat; obtain ⟨a3, c3, rfl⟩ := own_slice' hO3)
        all_goals
          have hbn := (HB.out.trans (HBX.out.mono HB.out.size)).grown hg3 HXS.out (fun q e => (own_ge HP.out.outer q e).1)
          have hPn := HP.out.snoc (rs := [⟨rk, rt, rv⟩]) HB.out.size HBX.out HLR.out hg3 hO3 hat
          clear hg3 hO3 hat HO HBX HXS HN HLR HP HB
          go_wp2_with fail
          go_roundw
          case rel => exact ⟨k + 1, 0 + 1, a3, c3, _, by go_num, rfl, by omega, by omega, by rw [E2.out]; exact hPn, hbn⟩
          case measure => simp [intOf]; omega

      obtain ⟨p, hp1, hp2⟩ : ∃ p, p < q ∧ q = p + 1 := ⟨q - 1, by omega, by omega⟩
      obtain ⟨bg, rfl, hbgw, hBG⟩ := own_form hP.outer (by omega)
      obtain ⟨⟨lk, ll⟩, hGp⟩ : ∃ x, (groupsR (rs.take k))[p]? = some x := ⟨_, List.getElem?_eq_getElem (by omega)⟩
      obtain ⟨⟨lk', lv⟩, hgp⟩ : ∃ x, gs[p]? = some x := ⟨_, List.getElem?_eq_getElem (by omega)⟩
      obtain rfl : lk' = lk := by
        have h1 : (gs.map (·.1))[p]? = some lk' := by rw [List.getElem?_map, hgp]; rfl
        rw [hP.keys, List.getElem?_map, hGp] at h1
        injection h1 with h1
        exact h1.symm
      have hlast : groupsR (rs.take k) = (groupsR (rs.take k)).take p ++ [(lk', ll)] := by
        have := List.take_add_one (l := groupsR (rs.take k)) (i := p)
        rw [hGp, Option.toList_some, List.take_of_length_le (by omega)] at this
        exact this
      have hlO := hP.fam.own p lv ll (by rw [List.getElem?_map, hgp]; rfl) (by rw [List.getElem?_map, hGp]; rfl)
      obtain ⟨va, vc, rfl⟩ := own_slice' hlO
      obtain ⟨e0, e1⟩ := gcells_at gs p _ hgp
      have hRo := Rd.of_own hP.outer
      obtain ⟨bx, ox, hbx, _, hcx⟩ := hRo.2 (by omega)
      injection hbx with hbx
      injection hbx with hb1x hb2x
      subst hb1x hb2x
      have d0 := hcx _ _ e0
      have d1 := hcx _ _ e1
      have f1 := hP.outer.frozenAt (p * 2 + 1)
      simp only [Nat.zero_add] at d0 d1
      have hW : IntKind.i64.wrap ((q : Int) - 1) = (p : Int) := by rw [IntWalk.i64_in _ (by omega)]; omega
      have hp3 : q < p + 2 := by omega
      have HLO := Lib.hid hlO
      have HE := Lib.hid hp2
      have HGP := Lib.hid hGp
      have Hgp := Lib.hid hgp
      have HLAST := Lib.hid hlast
      clear hp2 hlO hGp hgp hlast e0 e1 hRo hcx
      cases hd : (lk'.toList == rk.toList)
      · have hne : ¬ lk' = rk := fun e => by rw [e] at hd; simp at hd
        have E2 := Lib.hid (show groupsR (rs.take (k + 1)) = groupsR (rs.take k) ++ [(rk, [⟨rk, rt, rv⟩])] by
          rw [E.out, HLAST.out, gstep_ne _ _ _ _ hne])
        clear hne hlen E HLO HGP Hgp HLAST
        go_wp2_with fail
        go_quiet (fail)
        have hP1 := hP.below (drewN_below wr nq)
        have hb1 := hb.trans ((drewN_below wr nq).mono hb.size)
        have c0' := ((drewN_below wr nq).cell (p := ⟨b, off + k * 3, none⟩) hB).trans c0
        have c1' := ((drewN_below wr nq).cell (p := ⟨b, off + k * 3 + 1, none⟩) hB).trans c1
        have c2' := ((drewN_below wr nq).cell (p := ⟨b, off + k * 3 + 2, none⟩) hB).trans c2
        have hB2 := Nat.lt_of_lt_of_le hB (drewN_below wr nq).size
        clear hP hb c0 c1 c2 hB
        generalize wr.drewN nq = w2 at *
        have HP := Lib.hid hP1
        have HB := Lib.hid hb1
        clear hP1 hb1
        go_wp2_with fail
        have lr := World.ownsRow_lit (base := w2.heap.size) (e := 77) (size := 3) w2 #[.string rk, .int .i64 rt, .string rv] 1 (Nat.le_refl _) (by decide) rfl
        have hbX : Below w2.heap.size w2 ((w2.alloc (.cells #[.string rk, .int .i64 rt, .string rv] 77)).alloc (.cells #[.string rk, .slice (some ⟨w2.heap.size, 0, none⟩) 1 1] 39)).drew := (((Below.refl _ w2).alloc (Nat.le_refl _) _).alloc (by simp) _).drew
        have HLR := Lib.hid ((lr.alloc (.cells #[.string rk, .slice (some ⟨w2.heap.size, 0, none⟩) 1 1] 39)).drew)
        have HO := Lib.hid (own_below HP.out.outer hbX)
        have HBX := Lib.hid hbX
        have HXS := Lib.hid (Nat.le_trans HB.out.size hbX.size)
        have HN := Lib.hid (group_lit w2 rk rt rv 77 39)
        have hlm : q + 1 ≤ maxLen := by unfold maxLen; omega
        have hlb : (q + 1) * 40 ≤ 140737488355328 := by omega
        have d0 : (w2.alloc (.cells #[.string rk, .int .i64 rt, .string rv] 77)).cell? ⟨b, off + k * 3, none⟩ = some (.string rk) := (((Below.refl w2.heap.size w2).alloc (Nat.le_refl _) _).cell (p := ⟨b, off + k * 3, none⟩) hB2).trans c0'
        clear lr hbX
        go_region_law (refine step_append_own_at rfl (.tmp 48) (.tmp 60) 35 rfl w.heap.size 39 i1 (.agg #[.string ⟨#[]⟩, .slice none 0 0]) 2 40 Try.underlying35 hj hy0 hy1 hy2 rfl (by decide) (.slice (some ⟨bg, 0, none⟩) q c) q (gcells gs) rfl HO.out ⟨w2.heap.size + 1, 0, none⟩ 1 1 [.string rk, .slice (some ⟨w2.heap.size, 0, none⟩) 1 1] rfl rfl HN.out (group_one rk _ _ _) hlm hlb HXS.out ?_; intro v' w3 hO3 hg3 hat; obtain ⟨a3, c3, rfl⟩ := own_slice' hO3)
        all_goals
          have hbn := (HB.out.trans (HBX.out.mono HB.out.size)).grown hg3 HXS.out (fun q e => (own_ge HP.out.outer q e).1)
          have hPn := HP.out.snoc (rs := [⟨rk, rt, rv⟩]) HB.out.size HBX.out HLR.out hg3 hO3 hat
          clear hg3 hO3 hat HO HBX HXS HN HLR HP HB
          go_wp2_with fail
          go_roundw
          case rel => exact ⟨k + 1, q + 1, a3, c3, _, by go_num, rfl, by omega, by omega, by rw [E2.out]; exact hPn, hbn⟩
          case measure => simp [intOf]; omega

      · have E3 := Lib.hid (show groupsR (rs.take (k + 1)) = (groupsR (rs.take k)).set p (lk', ll ++ [⟨rk, rt, rv⟩]) by
          rw [List.set_eq_take_append_cons_drop, if_pos (by omega), List.drop_eq_nil_of_le (by omega), E.out]
          exact (congrArg (fun l => gstep l _) HLAST.out).trans (gstep_eq _ _ _ _ (ext_toList (eq_of_beq hd))))
        have hll : ll.length ≤ 1048576 := groups_len hGle HGP.out
        clear E HLAST
        go_wp2_with fail
        go_quiet (fail)
        have hP1 := hP.below (drewN_below wr nq)
        have hb1 := hb.trans ((drewN_below wr nq).mono hb.size)
        have hlO1 := own_below HLO.out (drewN_below wr nq)
        have d1' := ((drewN_below wr nq).cell (p := ⟨bg, p * 2 + 1, none⟩) hBG).trans d1
        have hBG2 := Nat.lt_of_lt_of_le hBG (drewN_below wr nq).size
        clear hP hb c0 c1 c2 hB d0 d1 f1 HLO
        generalize wr.drewN nq = w2 at *
        have s2 := hb1.size
        have HP := Lib.hid hP1
        have HB := Lib.hid hb1
        have RL := Rd.of_own hlO1
        have HC := Lib.hid hCC
        have x1 : (w2.alloc (.cells #[] 77)).cell? ⟨bg, p * 2 + 1, none⟩ = some (.slice va ll.length vc) := (((Below.refl w2.heap.size w2).alloc (Nat.le_refl _) _).cell (p := ⟨bg, p * 2 + 1, none⟩) hBG2).trans d1'
        have x2 : (w2.alloc (.cells #[.string rk, .int .i64 rt, .string rv] 77)).cell? ⟨bg, p * 2 + 1, none⟩ = some (.slice va ll.length vc) := (((Below.refl w2.heap.size w2).alloc (Nat.le_refl _) _).cell (p := ⟨bg, p * 2 + 1, none⟩) hBG2).trans d1'
        have x3 : ((w2.alloc (.cells #[] 77)).alloc (.cells #[.string rk, .int .i64 rt, .string rv] 77)).cell? ⟨bg, p * 2 + 1, none⟩ = some (.slice va ll.length vc) := ((((Below.refl w2.heap.size w2).alloc (Nat.le_refl _) _).alloc (by simp) _).cell (p := ⟨bg, p * 2 + 1, none⟩) hBG2).trans d1'
        have x4 : ((w2.alloc (.cells #[.string rk, .int .i64 rt, .string rv] 77)).alloc (.cells #[] 77)).cell? ⟨bg, p * 2 + 1, none⟩ = some (.slice va ll.length vc) := ((((Below.refl w2.heap.size w2).alloc (Nat.le_refl _) _).alloc (by simp) _).cell (p := ⟨bg, p * 2 + 1, none⟩) hBG2).trans d1'
        have HA := Lib.hid (arm_A w2 rk rt rv 77 RL)
        have HBB := Lib.hid (arm_B w2 rk rt rv 77 RL)
        have HCC := Lib.hid (arm_C w2 rk rt rv 77 RL)
        have y1 := hb1.alloc s2 (.cells #[] 77)
        have y2 := hb1.alloc s2 (.cells #[.string rk, .int .i64 rt, .string rv] 77)
        have y3 := y1.alloc (by have := y1.size; omega) (.cells #[.string rk, .int .i64 rt, .string rv] 77)
        have y4 := y2.alloc (by have := y2.size; omega) (.cells #[] 77)
        obtain ⟨z0, z1, z2⟩ := HC.out _ y1
        obtain ⟨z6, z7, z8⟩ := HC.out _ HB.out
        have hl0 : 0 + ll.length ≤ maxLen := by unfold maxLen; omega
        have hl1 : (0 + ll.length) * 40 ≤ 140737488355328 := by omega
        have hl2 : ll.length + 1 ≤ maxLen := by unfold maxLen; omega
        have hl3 : (ll.length + 1) * 40 ≤ 140737488355328 := by omega
        clear RL hP1 hb1 hCC hlO1 hd hGle
        go_wp2_with fail
        go_region_law (first | (refine step_append_rd rfl (.tmp 33) (.tmp 38) 24 rfl w2.heap.size 77 i0 (.agg #[.string ⟨#[]⟩, .int .i64 0, .string ⟨#[]⟩]) 3 40 Try.underlying24 hi hz0 hz1 hz2 rfl (by decide) _ 0 [] rfl HA.out.1 va w2.heap.size ll.length vc (flat ll) rfl HA.out.2.1 (flat_oneG _) hl0 hl1 HA.out.2.2.1 ?_; intro v' w3 hO3 hg3 hat; have hO4 := hO3; rw [Nat.zero_add, List.nil_append] at hO4; obtain ⟨a3, c3, rfl⟩ := own_slice' hO4; obtain ⟨hb3, HV2, HN2, HS2⟩ := HA.out.2.2.2 _ _ _ hO3 hg3; have hb4 := hb3.mono s2; simp only [Nat.zero_add, List.nil_append] at HV2; obtain ⟨z3, z4, z5⟩ := HC.out _ (HB.out.trans hb4)) | (refine step_append_rd rfl (.tmp 33) (.tmp 38) 24 rfl w2.heap.size 77 i0 (.agg #[.string ⟨#[]⟩, .int .i64 0, .string ⟨#[]⟩]) 3 40 Try.underlying24 hi hz0 hz1 hz2 rfl (by decide) _ 0 [] rfl HBB.out.1 va w2.heap.size ll.length vc (flat ll) rfl HBB.out.2.1 (flat_oneG _) hl0 hl1 HBB.out.2.2.1 ?_; intro v' w3 hO3 hg3 hat; have hO4 := hO3; rw [Nat.zero_add, List.nil_append] at hO4; obtain ⟨a3, c3, rfl⟩ := own_slice' hO4; obtain ⟨hb3, HV2, HN2, HS2⟩ := HBB.out.2.2.2 _ _ _ hO3 hg3; have hb4 := hb3.mono s2; simp only [Nat.zero_add, List.nil_append] at HV2; obtain ⟨z3, z4, z5⟩ := HC.out _ (HB.out.trans hb4)) | (refine step_append_rd rfl (.tmp 33) (.tmp 38) 24 rfl w2.heap.size 77 i0 (.agg #[.string ⟨#[]⟩, .int .i64 0, .string ⟨#[]⟩]) 3 40 Try.underlying24 hi hz0 hz1 hz2 rfl (by decide) _ 0 [] rfl HCC.out.1 va w2.heap.size ll.length vc (flat ll) rfl HCC.out.2.1 (flat_oneG _) hl0 hl1 HCC.out.2.2.1 ?_; intro v' w3 hO3 hg3 hat; have hO4 := hO3; rw [Nat.zero_add, List.nil_append] at hO4; obtain ⟨a3, c3, rfl⟩ := own_slice' hO4; obtain ⟨hb3, HV2, HN2, HS2⟩ := HCC.out.2.2.2 _ _ _ hO3 hg3; have hb4 := hb3.mono s2; simp only [Nat.zero_add, List.nil_append] at HV2; obtain ⟨z3, z4, z5⟩ := HC.out _ (HB.out.trans hb4)) | (refine step_append_own_at rfl (.tmp 39) (.tmp 44) 24 rfl w2.heap.size 77 i0 (.agg #[.string ⟨#[]⟩, .int .i64 0, .string ⟨#[]⟩]) 3 40 Try.underlying24 hi hz0 hz1 hz2 rfl (by decide) (.slice a3 ll.length c3) ll.length (flat ll) rfl HV2.out _ 1 1 [.string rk, .int .i64 rt, .string rv] rfl rfl HN2.out (row_one ⟨rk, rt, rv⟩) hl2 hl3 HS2.out.size ?_; intro v5 w5 hO5 hg5 hat5; obtain ⟨a5, c5, rfl⟩ := own_slice' hO5; have hb5 := HS2.out.grown hg5 HS2.out.size (fun q e => (own_ge HV2.out q e).1); have hb6 := hb5.mono s2; have hPo := own_below HP.out.outer hb5; obtain ⟨u0, x5⟩ := own_cell hPo (j := p * 2 + 1) (by omega); have f5 := hPo.frozenAt (p * 2 + 1)))
        all_goals
          have hO6 := Lib.hid (show w5.ownsRow w2.heap.size 77 3 (.slice a5 (ll.length + 1) c5) (ll ++ [(⟨rk, rt, rv⟩ : RowV)]).length (flat (ll ++ [(⟨rk, rt, rv⟩ : RowV)])) by rw [List.length_append, flat_append]; exact hO5)
          have hPn := HP.out.put (rs' := ll ++ [(⟨rk, rt, rv⟩ : RowV)]) HB.out.size Hgp.out hb5 hO6.out
          have hbn := (HB.out.trans hb6).setCell (p := ⟨bg, p * 2 + 1, none⟩) hbgw (.slice a5 (ll.length + 1) c5)
          clear hO3 hg3 hat hO4 hb3 HV2 HN2 HS2 hb4 hO5 hg5 hat5 hb5 hb6 hPo x5 f5 hO6 HP HB HC HA HBB HCC x1 x2 x3 x4 y1 y2 y3 y4 HGP Hgp
          go_wp2_with fail
          go_roundw
          case rel => exact ⟨k + 1, q, _, c, _, by go_num, rfl, by omega, by omega, by rw [E3.out]; exact hPn, hbn⟩
          case measure => simp [intOf]; omega
    · obtain rfl : k = n := by omega
      have e : rs.take k = rs := List.take_of_length_le (by rw [hrl.out]; omega)
      rw [e] at hP
      have HL := Lib.hid hP.len.2
      clear e
      go_wp2_with fail
      go_ret
      rw [← HL.out] at hP
      exact ⟨g, c, gs, by rw [HL.out]; rfl, hb, hP⟩
end Go.Proofs.Ytjepmcepgoncnaa

namespace Go.Proofs.Ytjepmcepgoncnaa
open Go.RowKit
def noDefer (o : Oper) : Bool := match o.op with | .defer _ => false | _ => true
theorem noDefer_out {o : Oper} (h : noDefer o = true) : ∀ c, o.op ≠ .defer c := by
  intro c e
  unfold noDefer at h
  rw [e] at h
  cases h
theorem wpIn_round {P : Program} {l n : Nat} {o : Oper} {a : Act} {w : World} {K : Act → World → Prop} {Q : Exit → Act → World → Prop} (hd : noDefer o = true) (h : o.wp P a w K Q) : o.wpIn (Fence.wide.inRound l) n P a w K Q := by
  refine ⟨fun _ _ => trivial, ?_⟩
  rw [Oper.semAt_plain _ _ _ (noDefer_out hd)]
  unfold Oper.wp at h
  revert h
  generalize (execOp a.eval o).run P w = r
  intro h
  cases r with
  | ok x w' =>
    cases x with
    | value v => exact h
    | skip => exact h
    | defer d => exact h
    | enter f args => exact ⟨fun h => (by cases h), (callsIn_wide (n := n - 1)).2 h⟩
    | row r args => exact ⟨fun h => (by cases h), fun c cs _ => let ⟨v, w2, h1, h2⟩ := h c cs; ⟨v, w2, h1, stepsIn_wide.2 h2⟩⟩
    | _ => exact h.elim
  | halt x w' => cases x <;> first | exact h | exact h.elim
theorem wpOpsIn_round {P : Program} {l n : Nat} {ops : Array Oper} {Q : Exit → Act → World → Prop} (hd : ∀ o ∈ ops.toList, noDefer o = true) (hQ : ¬ LetsOut Q) : ∀ (is : List Nat) (a : Act) (w : World), wpOps P ops Q is a w → wpOpsIn (Fence.wide.inRound l) n P ops Q is a w := by
  intro is
  induction is with
  | nil => exact fun a w h => h
  | cons i is ih =>
    intro a w h
    unfold wpOps at h
    unfold wpOpsIn
    cases ho : ops[i]? with
    | none => rw [ho] at h; exact ih _ _ h
    | some o =>
      rw [ho] at h
      have hm : o ∈ ops.toList := by
        obtain ⟨hi, rfl⟩ := Array.getElem?_eq_some_iff.1 ho
        simp
      simp only at h ⊢
      split
      · rename_i hw
        rw [if_pos hw] at h
        rcases h with h | ⟨_, h⟩
        · exact wpIn_round (hd o hm) (Oper.wp_mono (fun a w h => ih a w h) h)
        · exact absurd h hQ
      · rename_i hw
        rw [if_neg hw] at h
        exact ⟨fun _ _ => trivial, ih _ _ h⟩
theorem wpIn_region_round {P : Program} {l n id : Nat} {ops : List Oper} {Q : Exit → Act → World → Prop} {a : Act} {w : World} (hm : P.follows .mixedOrders = true) (hd : ops.all noDefer = true) (hQ : ¬ LetsOut Q)
    (h : wpAny P .any ops.toArray Q ops.length (Array.replicate ops.length false) a w.drew) : (Code.region id ops.toArray true).wpIn (Fence.wide.inRound l) n P Q a w := by
  refine wpIn_region_draw fun t => ?_
  refine wpOpsIn_round (fun o ho => List.all_eq_true.1 hd o (by simpa using ho)) hQ _ _ _ ?_
  simp only [Region.schedule, hm, Bool.true_or, if_true]
  have := wpAny_sound ops.length t _ a _ h
  simpa [Region.linearise] using this
end Go.Proofs.Ytjepmcepgoncnaa

namespace Go.Proofs.Ytjepmcepgoncnaa
open Go.RowKit Go.Shelf
attribute [local go_sem] Oper.semAt_some
theorem GOwn.bnd {w : World} {lo n c : Nat} {a : Option Addr} {gs : List (ByteArray × Value)} {G : List (ByteArray × List RowV)} (h : GOwn w lo a n c gs G) : BndG w.heap.size a gs := by
  constructor
  · intro v hv g hg
    obtain ⟨i, hi, e⟩ := List.mem_iff_getElem.1 hv
    have h1 : (gs.map (·.2))[i]? = some v := by rw [List.getElem?_eq_getElem hi, e]
    have h2 : (G.map (·.2))[i]? = some ((G.map (·.2))[i]'(by rw [← h.fam.len]; exact hi)) := List.getElem?_eq_getElem _
    exact (own_ge (h.fam.own i v _ h1 h2) g hg).2
  · rintro b o rfl
    rcases h.outer.2 with ⟨hv, _⟩ | ⟨g, cap, cur, hv, _, hgb, _⟩
    · cases hv
    · injection hv with hv
      injection hv with hv
      injection hv with h1
      subst h1
      exact (Array.getElem?_eq_some_iff.1 hgb).1
def groupsOfB (rs : List RowV) : Bool := sortedOk rs
def groupsOfS (rs : List RowV) : List (ByteArray × List RowV) := if groupsOfB rs = true then groupsR rs else []
theorem sizeG_flat : ∀ G : List (ByteArray × List RowV), sizeG G = G.length + 3 * (G.flatMap (·.2)).length
  | [] => rfl
  | g :: G => by
    rw [sizeG, sizeG_flat G, List.flatMap_cons, List.length_append, List.length_cons]
    omega
theorem groups_flatG : ∀ (n : Nat) (l : List RowV), l.length ≤ n → (groupsR l).flatMap (·.2) = l
  | _, [], _ => rfl
  | 0, _ :: _, h => by simp at h
  | n + 1, r :: l, h => by
    have hp := leadN_pos r l
    rw [groupsR_next, List.flatMap_cons, groups_flatG n _ (by rw [List.length_drop]; rw [List.length_cons] at h ⊢; omega)]
    show leadL r.key (r :: l) ++ _ = _
    rw [← lead_take, List.take_append_drop]
theorem sorted_few {rs : List RowV} (h : sortedOk rs = true) : rs.length ≤ 120 := by
  unfold sortedOk at h
  rw [Bool.and_eq_true] at h
  have h1 := h.1
  unfold rowsOk at h1
  rw [Bool.and_eq_true] at h1
  exact of_decide_eq_true h1.1
theorem groupsOfS_le (rs : List RowV) : (groupsOfS rs).length ≤ 1048576 ∧ sizeG (groupsOfS rs) ≤ 1048576 := by
  unfold groupsOfS
  split
  · rename_i h
    have h1 := sorted_few h
    have h2 := groupsF_le rs.length rs
    have h3 := sizeG_flat (groupsR rs)
    rw [groups_flatG _ rs (Nat.le_refl _)] at h3
    have h4 : (groupsR rs).length ≤ rs.length := h2
    exact ⟨by omega, by omega⟩
  · exact ⟨Nat.zero_le _, Nat.zero_le _⟩
theorem GOwn.nilG (w : World) (lo : Nat) : GOwn w lo none 0 0 [] [] := ⟨World.ownsRow_nil _ _ _ _, rfl, Fam.nil _ _, fun v hv => by cases hv⟩
theorem kept_rowG {X Y : World} {row : Option Nat} {n₀ e size n : Nat} {v : Value} {xs : List Value} (hr : X.ownsRow n₀ e size v n xs) (hg : X.grownBy Y row) (hrow : ∀ r, row = some r → ∃ o : Obj, X.heap[r]? = some o ∧ o.isCells = false) : Y.ownsRow n₀ e size v n xs := by
  refine hr.kept hg ?_
  rcases hr.2 with ⟨rfl, _⟩ | ⟨g, cap, cur, rfl, _, hgb, _⟩
  · exact .inl rfl
  · refine .inr fun e' => ?_
    obtain ⟨o, ho, hc⟩ := hrow g (by simpa [Value.ownBlock] using e'.symm)
    rw [hgb] at ho; cases ho; cases hc
theorem GOwn.keptRow {X Y : World} {row : Option Nat} {lo n c : Nat} {a : Option Addr} {gs : List (ByteArray × Value)} {G : List (ByteArray × List RowV)} (h : GOwn X lo a n c gs G) (hg : X.grownBy Y row) (hrow : ∀ r, row = some r → ∃ o : Obj, X.heap[r]? = some o ∧ o.isCells = false) : GOwn Y lo a n c gs G :=
  ⟨kept_rowG h.outer hg hrow, h.keys, ⟨h.fam.len, fun i v rs hv hr => kept_rowG (h.fam.own i v rs hv hr) hg hrow, h.fam.sep⟩, h.out⟩
theorem GOwn.setBox {W : World} {B lo n c : Nat} {t : TypeId} {u x : Value} {a : Option Addr} {gs : List (ByteArray × Value)} {G : List (ByteArray × List RowV)} (h : GOwn W lo a n c gs G) (hv : Boxed W B t u) (h1 : t ≠ 39) (h2 : t ≠ 77) : GOwn (W.setCell ⟨B, 0, none⟩ x) lo a n c gs G :=
  ⟨h.outer.kept (grownBy_setCell' W B x) (.inr (hv.not_row h1 h.outer).symm), h.keys, ⟨h.fam.len, fun i v rs hw hr => (h.fam.own i v rs hw hr).kept (grownBy_setCell' W B x) (.inr (hv.not_row h2 (h.fam.own i v rs hw hr)).symm), h.fam.sep⟩, h.out⟩
/-- A box holds a slice of groups. -/
def BoxGroups (B n₀ : Nat) (W : World) (G : List (ByteArray × List RowV)) : Prop := ∃ a c gs, Boxed W B 35 (.slice a G.length c) ∧ GOwn W n₀ a G.length c gs G
theorem boxGroups_own {β : Type} (B n₀ : Nat) (f : β → List (ByteArray × List RowV)) : Own (fun s W => BoxGroups B n₀ W (f s)) := by
  rintro s X Y row ⟨a, c, gs, hv, hP⟩ hg hrow
  refine ⟨a, c, gs, hv.kept hg (fun e' => ?_), hP.keptRow hg hrow⟩
  obtain ⟨o, ho, hc⟩ := hrow B e'.symm
  rw [show X.heap[B]? = _ from hv] at ho; cases ho; cases hc
theorem keeps_of_belowG {W W' : World} (h : Below W.heap.size W W') : KeepsOthers W W' := ⟨h.size, fun i _ hi _ => (h.block i (Array.getElem?_eq_some_iff.1 hi).1).trans hi⟩
theorem keeps_rowG {X Y : World} {n₀ e size n : Nat} {v : Value} {xs : List Value} (hr : X.ownsRow n₀ e size v n xs) (hg : X.grownBy Y v.ownBlock) : KeepsOthers X Y := by
  refine KeepsOthers.of_grownBy hg fun j o ej hj => ?_
  rcases hr.2 with ⟨rfl, _⟩ | ⟨g, cap, cur, rfl, _, hgb, _⟩
  · simp [Value.ownBlock] at ej
  · obtain rfl : g = j := by simpa [Value.ownBlock] using ej
    rw [hgb] at hj; cases hj; rfl
/-- One more group at the end of the list in the box: a call that copies its rows, an append, a store. -/
theorem round_groups {W w2 w4 : World} {B n₀ c c' : Nat} {b a' : Option Addr} {k : ByteArray} {v : Value} {gs : List (ByteArray × Value)} {D : List (ByteArray × List RowV)} {rs : List RowV} {o : Obj} (hv : Boxed W B 35 (.slice b D.length c)) (hP : GOwn W n₀ b D.length c gs D) (hn : n₀ ≤ W.heap.size) (hB : n₀ ≤ B)
    (hb : Below W.heap.size W w2) (hO : w2.ownsRow W.heap.size 77 3 v rs.length (flat rs))
    (hg4 : (w2.alloc o).grownBy w4 (Value.slice b D.length c).ownBlock) (hO4 : w4.ownsRow n₀ 39 2 (.slice a' (D.length + 1) c') (D.length + 1) (gcells gs ++ [.string k, v])) (hat : (Value.slice a' (D.length + 1) c').ownBlock = (Value.slice b D.length c).ownBlock ∨ (Value.slice a' (D.length + 1) c').ownBlock = some (w2.alloc o).heap.size) :
    Boxed w4 B 35 (.slice b D.length c) ∧ BoxGroups B n₀ (w4.setCell ⟨B, 0, none⟩ (.slice a' (D.length + 1) c')) (D ++ [(k, rs)]) ∧ Below n₀ W (w4.setCell ⟨B, 0, none⟩ (.slice a' (D.length + 1) c')) ∧ KeepsOthers W (w4.setCell ⟨B, 0, none⟩ (.slice a' (D.length + 1) c')) := by
  have hv2 : Boxed w2 B 35 (.slice b D.length c) := (hb.block _ hv.lt).trans hv
  have hP2 := hP.below hb
  have hb3 : Below W.heap.size W (w2.alloc o) := hb.alloc hb.size o
  have hv4 : Boxed w4 B 35 (.slice b D.length c) := (hv2.alloc o).kept hg4 (hv2.not_row (by decide) hP2.outer)
  have hP4 := hP.snoc hn hb3 (hO.alloc o) hg4 hO4 hat
  have hl : (D ++ [(k, rs)]).length = D.length + 1 := by rw [List.length_append, List.length_singleton]
  have hb4 : Below n₀ W w4 := ((hb.mono hn).alloc (Nat.le_trans hn hb.size) o).grown hg4 (by have := hb.size; simp; omega) (fun q e => (own_ge hP2.outer q e).1)
  refine ⟨hv4, ⟨a', c', gs ++ [(k, v)], by rw [hl]; exact hv4.set _, by rw [hl]; exact hP4.setBox hv4 (by decide) (by decide)⟩, hb4.setCell (p := ⟨B, 0, none⟩) hB _, ?_⟩
  exact (((keeps_of_belowG hb).trans (KeepsOthers.alloc _ _)).trans (keeps_rowG (hP2.outer.alloc o) hg4)).trans (KeepsOthers.setCell _ _ _)
theorem grps_snocG {w : World} {B : Nat} (l : List (GrpIn w B)) (x : GrpIn w B) : grpsOf (l ++ [x]) = grpsOf l ++ [(x.1.key, x.1.rows)] := by
  unfold grpsOf
  rw [List.map_append]
  rfl
theorem cell_grp_new (w : World) (k : ByteArray) (v : Value) (t : TypeId) (_h1 : v.oneCell' = true) : ∀ j u, [Value.string k, v][j]? = some u → (w.alloc (.cells #[.string k, v] t)).cell? (Addr.add ⟨w.heap.size, 0, none⟩ j) = some u := by
  intro j u hu
  rw [Addr.add_mid, Nat.zero_add]
  rcases j with _ | _ | j <;> simp at hu <;> subst hu <;> simp [go_sem]
set_option maxRecDepth 100000 in
set_option maxHeartbeats 4000000 in
theorem implGroupsOf_yes (a : Option Addr) (n cap : Nat) (rs : List RowV) (w : World) (hm : n ≤ 1048576) (hnc : n ≤ cap) (hok : ∀ r ∈ rs, r.Ok) (hR : Rd w w.heap.size 3 a n (flat rs)) (hs : sortedOk rs = true) :
    Calls Try.prog 25 #[.slice a n cap] w fun e w' => ∃ b c gs, e = .returned (.tuple #[.slice b (groupsR rs).length c, .bool true]) ∧ Below w.heap.size w w' ∧ GOwn w' w.heap.size b (groupsR rs).length c gs (groupsR rs) := by
  obtain ⟨i1, hi, hz0, hz1, hz2⟩ := info_parts infoGroup
  have C0 := implSortedOk_any a n cap rs w hm hok hR
  rw [hs] at C0
  have hn120 := sorted_few hs
  have HRL := Lib.hid hR.rows_length
  have CB := fun w => byKey_any a n cap w
  clear hok hs
  refine (callsIn_wide (n := 5)).1 ?_
  refine callsIn_of_wp_marks Try.func25 rfl trivial ?_ rfl
  simp only [Try.ntmps25, List.size_toArray, List.length_cons, List.length_nil, Nat.reduceAdd, Nat.reduceSub, Array.replicate_succ, Array.replicate_zero, List.push_toArray, List.append_toArray, List.nil_append, List.cons_append]
  gi_wp2_with fail
  refine ⟨trivial, ?_⟩
  refine (callsIn_wide.2 C0).mono ?_
  rintro e w1 ⟨rfl, hb1⟩
  have bF := Boxed.new w1 35 (.slice none 0 0)
  have bF2 := bl1 w1 (.cells #[.slice none 0 0] 35)
  have hR1 := hR.below hb1 (Nat.le_refl _)
  clear C0
  gi_wp2_with fail
  refine ⟨trivial, ?_⟩
  refine (callsIn_wide.2 (CB _)).mono ?_
  rintro e w2 ⟨rfl, rfl⟩
  gi_wp2_with fail
  have hW1 := bF2.alloc (by have := bF2.size; omega) (.cells #[.slice a n cap] 24)
  have bF3 := bF.alloc (.cells #[.slice a n cap] 24)
  have bC := Boxed.new (w1.alloc (.cells #[.slice none 0 0] 35)) 24 (.slice a n cap)
  rw [World.size_alloc] at bC
  have hR0 := hR1.below (hW1.mono hb1.size) (Nat.le_refl _)
  have hW0 := hb1.trans (hW1.mono hb1.size)
  generalize hWe : ((w1.alloc (.cells #[.slice none 0 0] 35)).alloc (.cells #[.slice a n cap] 24)) = W0 at *
  have hsz : w.heap.size ≤ W0.heap.size := hW0.size
  have hl2 : w.heap.size ≤ w1.heap.size := hb1.size
  clear hWe
  refine wpIn_rangeFunc_ownF rfl (by omega) (gf := 105) (lb := #[.pointer (some ⟨w1.heap.size + 1, 0, none⟩)]) rfl trivial (enters_of Try.func105 (by kernel_rfl) rfl)
    (byKey_stops _ (w1.heap.size + 1) w.heap.size a n cap rs hm hnc W0 hsz bC.cell bC.lt hR0) belowK_t (belowK_b hsz) (Below.refl _ _) (fun _ => rfl)
    (fun (pre : List (GrpIn W0 w.heap.size)) W => BoxGroups w1.heap.size w.heap.size W (grpsOf pre) ∧ Below w.heap.size W0 W)
    (fun _ _ _ => False)
    (OwnFrom.and (Own.from (boxGroups_own _ _ _) _) (ownFrom_below hsz hsz))
    (fun _ _ _ _ _ hs _ _ => hs)
    ⟨⟨_, _, [], bF3, GOwn.nilG _ _⟩, Below.refl _ _⟩
    (fun x => { tmps := #[.slice a n cap, undef, .slice none 0 0, .bool false, .pointer (some ⟨w1.heap.size, 0, none⟩), .string x.1.key, .slice x.1.a x.1.n x.1.c, .slice a n cap, .bool true, .bool false, .slice a n cap, .func (.func 105) #[] #[.pointer (some ⟨w1.heap.size + 1, 0, none⟩)], .string x.1.key, .slice x.1.a x.1.n x.1.c, undef, undef, undef, undef, undef, undef, undef, undef], defers := [] })
    ?assign ?body ?done ?stop
  case assign =>
    intro l x W K hK
    simp only [grpV] at *
    gi_wp2_with fail
    exact hK
  case body =>
    rintro l pre x W ⟨⟨b, c, gs, hv, hP⟩, hB⟩ hlt
    have hEq0 := grps_snocG pre x
    have hxR := x.2.1
    have hxm := x.2.2.2.1
    obtain ⟨⟨key, xa, xn, xc, rows⟩, hxp⟩ := x
    dsimp only at hxR hxm hEq0 ⊢
    have hxl : rows.length = xn := hxR.rows_length
    have hc := hv.cell
    have hDl : (grpsOf pre).length ≤ 120 := by rw [show (grpsOf pre).length = pre.length from List.length_map _]; omega
    have hsW : w.heap.size ≤ W.heap.size := Nat.le_trans hsz hB.size
    generalize grpsOf pre = D at *
    have HEQ := Lib.hid hEq0
    clear hEq0
    have RX : Rd W.drew W.drew.heap.size 3 xa xn (flat rows) := (hxR.below hB.drew (Nat.le_refl _)).more hsW
    refine wpIn_block ?_
    refine wpIn_region_round (by kernel_rfl) (by rfl) (by rintro ⟨a, w, h⟩; exact h) ?_
    refine wpAny_take (i := 1) (v := .string key) rfl (by kernel_rfl) (by kernel_rfl) (by kernel_rfl) (fun _ _ _ h => h) (Or.inl ⟨by rfl, fun w => by go_simp⟩) ?_
    refine wpAny_take (i := 2) (v := .slice xa xn xc) rfl (by kernel_rfl) (by kernel_rfl) (by kernel_rfl) (fun _ _ _ h => h) (Or.inl ⟨by rfl, fun w => by go_simp⟩) ?_
    refine wpAny_ready (rs := [0, 3]) (by kernel_rfl) (by simp) ?_
    refine AllReady.cons rfl (fun K hK => ?_) ?_
    · go_simp
      refine hK _ _ ?_
      clear hK K
      refine wpAny_ready (rs := [3]) (by kernel_rfl) (by simp) ?_
      refine AllReady.cons rfl (fun K hK => ?_) AllReady.nil
      go_simp
      refine (clone_any xa xn xc rows W.drew hxm RX).mono ?_
      rintro e w2 ⟨b2, c2, rfl, hO2, hb2x⟩
      refine hK _ _ ?_
      clear hK K
      refine wpAny_take (i := 4) (v := .agg #[.string key, .slice b2 xn c2]) rfl (by kernel_rfl) (by kernel_rfl) (by kernel_rfl) (fun _ _ _ h => h) (Or.inl ⟨by rfl, fun w => by go_simp⟩) ?_
      have hb2 : Below W.heap.size W w2 := (Below.refl W.heap.size W).drew.trans hb2x
      have hO2' : w2.ownsRow W.heap.size 77 3 (.slice b2 xn c2) rows.length (flat rows) := by rw [hxl]; exact hO2
      have hv2 : Boxed w2 w1.heap.size 35 (.slice b D.length c) := (hb2.block _ hv.lt).trans hv
      have hc2 := hv2.cell
      have hc2a := (hv2.alloc (.cells #[.string key, .slice b2 xn c2] 39)).cell
      refine wpAny_ready (rs := [5]) (by kernel_rfl) (by simp) ?_
      refine AllReady.cons rfl (fun K hK => ?_) AllReady.nil
      go_simp
      refine hK _ _ ?_
      clear hK K
      refine wpAny_ready (rs := [6]) (by kernel_rfl) (by simp) ?_
      refine AllReady.cons rfl (fun K hK => ?_) AllReady.nil
      refine step_append_one rfl _ _ 35 rfl w.heap.size 39 i1 (.agg #[.string ⟨#[]⟩, .slice none 0 0]) 2 40 Try.underlying35 hi hz0 hz1 hz2 rfl (by decide) (.slice b D.length c) _ _ rfl ((hP.below hb2).outer.alloc _) ⟨w2.heap.size, 0, none⟩ 1 1 [.string key, .slice b2 xn c2] rfl rfl (cell_grp_new _ _ _ _ rfl) (by intro u hu; simp at hu; rcases hu with rfl | rfl <;> rfl) (by unfold maxLen; omega) (by omega) (by have := hb2.size; simp; omega) ?_
      intro v' w4 hO4 hg4 hat
      obtain ⟨a4, c4, rfl⟩ := own_slice' hO4
      obtain ⟨hv4, hf1, hf2, hf3⟩ := round_groups hv hP hsW hl2 hb2 hO2' hg4 hO4 hat
      have hc4 := hv4.cell
      have hz4 := hv4.frozen
      refine hK _ _ ?_
      clear hK K
      refine wpAny_ready (rs := [7]) (by kernel_rfl) (by simp) ?_
      refine AllReady.cons rfl (fun K hK => ?_) AllReady.nil
      go_simp
      refine hK _ _ ?_
      clear hK K
      refine wpAny_done (by kernel_rfl) ?_ _
      exact ⟨hf3, hf2, by rw [HEQ.out]; exact hf1, hB.trans hf2⟩
    · refine AllReady.cons rfl (fun K hK => ?_) AllReady.nil
      go_simp
      refine (clone_any xa xn xc rows W.drew hxm RX).mono ?_
      rintro e w2 ⟨b2, c2, rfl, hO2, hb2x⟩
      refine hK _ _ ?_
      clear hK K
      refine wpAny_take (i := 4) (v := .agg #[.string key, .slice b2 xn c2]) rfl (by kernel_rfl) (by kernel_rfl) (by kernel_rfl) (fun _ _ _ h => h) (Or.inl ⟨by rfl, fun w => by go_simp⟩) ?_
      have hb2 : Below W.heap.size W w2 := (Below.refl W.heap.size W).drew.trans hb2x
      have hO2' : w2.ownsRow W.heap.size 77 3 (.slice b2 xn c2) rows.length (flat rows) := by rw [hxl]; exact hO2
      have hv2 : Boxed w2 w1.heap.size 35 (.slice b D.length c) := (hb2.block _ hv.lt).trans hv
      have hc2 := hv2.cell
      have hc2a := (hv2.alloc (.cells #[.string key, .slice b2 xn c2] 39)).cell
      refine wpAny_ready (rs := [0, 5]) (by kernel_rfl) (by simp) ?_
      refine AllReady.cons rfl (fun K hK => ?_) ?_
      · go_simp
        refine hK _ _ ?_
        clear hK K
        refine wpAny_ready (rs := [5]) (by kernel_rfl) (by simp) ?_
        refine AllReady.cons rfl (fun K hK => ?_) AllReady.nil
        go_simp
        refine hK _ _ ?_
        clear hK K
        refine wpAny_ready (rs := [6]) (by kernel_rfl) (by simp) ?_
        refine AllReady.cons rfl (fun K hK => ?_) AllReady.nil
        refine step_append_one rfl _ _ 35 rfl w.heap.size 39 i1 (.agg #[.string ⟨#[]⟩, .slice none 0 0]) 2 40 Try.underlying35 hi hz0 hz1 hz2 rfl (by decide) (.slice b D.length c) _ _ rfl ((hP.below hb2).outer.alloc _) ⟨w2.heap.size, 0, none⟩ 1 1 [.string key, .slice b2 xn c2] rfl rfl (cell_grp_new _ _ _ _ rfl) (by intro u hu; simp at hu; rcases hu with rfl | rfl <;> rfl) (by unfold maxLen; omega) (by omega) (by have := hb2.size; simp; omega) ?_
        intro v' w4 hO4 hg4 hat
        obtain ⟨a4, c4, rfl⟩ := own_slice' hO4
        obtain ⟨hv4, hf1, hf2, hf3⟩ := round_groups hv hP hsW hl2 hb2 hO2' hg4 hO4 hat
        have hc4 := hv4.cell
        have hz4 := hv4.frozen
        refine hK _ _ ?_
        clear hK K
        refine wpAny_ready (rs := [7]) (by kernel_rfl) (by simp) ?_
        refine AllReady.cons rfl (fun K hK => ?_) AllReady.nil
        go_simp
        refine hK _ _ ?_
        clear hK K
        refine wpAny_done (by kernel_rfl) ?_ _
        exact ⟨hf3, hf2, by rw [HEQ.out]; exact hf1, hB.trans hf2⟩
      · refine AllReady.cons rfl (fun K hK => ?_) AllReady.nil
        go_simp
        refine hK _ _ ?_
        clear hK K
        refine wpAny_ready (rs := [0]) (by kernel_rfl) (by simp) ?_
        refine AllReady.cons rfl (fun K hK => ?_) AllReady.nil
        go_simp
        refine hK _ _ ?_
        clear hK K
        refine wpAny_ready (rs := [6]) (by kernel_rfl) (by simp) ?_
        refine AllReady.cons rfl (fun K hK => ?_) AllReady.nil
        refine step_append_one rfl _ _ 35 rfl w.heap.size 39 i1 (.agg #[.string ⟨#[]⟩, .slice none 0 0]) 2 40 Try.underlying35 hi hz0 hz1 hz2 rfl (by decide) (.slice b D.length c) _ _ rfl ((hP.below hb2).outer.alloc _) ⟨w2.heap.size, 0, none⟩ 1 1 [.string key, .slice b2 xn c2] rfl rfl (cell_grp_new _ _ _ _ rfl) (by intro u hu; simp at hu; rcases hu with rfl | rfl <;> rfl) (by unfold maxLen; omega) (by omega) (by have := hb2.size; simp; omega) ?_
        intro v' w4 hO4 hg4 hat
        obtain ⟨a4, c4, rfl⟩ := own_slice' hO4
        obtain ⟨hv4, hf1, hf2, hf3⟩ := round_groups hv hP hsW hl2 hb2 hO2' hg4 hO4 hat
        have hc4 := hv4.cell
        have hz4 := hv4.frozen
        refine hK _ _ ?_
        clear hK K
        refine wpAny_ready (rs := [7]) (by kernel_rfl) (by simp) ?_
        refine AllReady.cons rfl (fun K hK => ?_) AllReady.nil
        go_simp
        refine hK _ _ ?_
        clear hK K
        refine wpAny_done (by kernel_rfl) ?_ _
        exact ⟨hf3, hf2, by rw [HEQ.out]; exact hf1, hB.trans hf2⟩
  case done =>
    rintro D ys W hD hys ⟨⟨b, c, gs, hv, hP⟩, hB⟩ hK
    rw [hys] at hv hP
    have hc := hv.cell
    gi_wp2_with fail
    refine ⟨by simp, .inl ⟨_, _, rfl, run_takeDeferred hK, ?_⟩⟩
    exact ⟨_, results_tmp2 rfl _ _ _, b, c, gs, by simp, (hW0.trans hB).trans (belowK_b (w := w) (Nat.le_refl _) W D _ _ (by omega) hK rfl rfl), hP.keptRow (grownBy_putObj' W D _) (fun r e => by cases e; exact ⟨_, hK, rfl⟩)⟩
  case stop =>
    rintro D c pre W _ _ h _
    exact h.elim
set_option maxRecDepth 100000 in
set_option maxHeartbeats 1000000 in
theorem implGroupsOf_any (a : Option Addr) (n cap : Nat) (rs : List RowV) (w : World) (hm : n ≤ 1048576) (hnc : n ≤ cap) (hok : ∀ r ∈ rs, r.Ok) (hR : Rd w w.heap.size 3 a n (flat rs)) :
    Calls Try.prog 25 #[.slice a n cap] w fun e w' => ∃ b c gs, e = .returned (.tuple #[.slice b (groupsOfS rs).length c, .bool (groupsOfB rs)]) ∧ Below w.heap.size w w' ∧ GOwn w' w.heap.size b (groupsOfS rs).length c gs (groupsOfS rs) := by
  unfold groupsOfS groupsOfB
  cases hs : sortedOk rs
  · rw [if_neg (by decide)]
    have C0 := implSortedOk_any a n cap rs w hm hok hR
    rw [hs] at C0
    clear hs
    go_enter Try.func25, Try.ntmps25
    go_wp2_with fail
    refine C0.mono ?_
    rintro e w1 ⟨rfl, hb⟩
    go_wp2_with fail
    go_ret2
    exact ⟨none, 0, [], rfl, hb, GOwn.nilG _ _⟩
  · rw [if_pos rfl]
    exact implGroupsOf_yes a n cap rs w hm hnc hok hR hs
set_option maxRecDepth 100000 in
set_option maxHeartbeats 1000000 in
theorem specGroupsOf_any (a : Option Addr) (n cap : Nat) (rs : List RowV) (w : World) (hm : n ≤ 1048576) (hok : ∀ r ∈ rs, r.Ok) (hR : Rd w w.heap.size 3 a n (flat rs)) :
    Calls Try.prog 48 #[.slice a n cap] w fun e w' => ∃ b c gs, e = .returned (.tuple #[.slice b (groupsOfS rs).length c, .bool (groupsOfB rs)]) ∧ Below w.heap.size w w' ∧ GOwn w' w.heap.size b (groupsOfS rs).length c gs (groupsOfS rs) := by
  have C0 := specSortedOk_any a n cap rs w hm hok hR
  unfold groupsOfS groupsOfB
  cases hs : sortedOk rs
  · rw [if_neg (by decide)]
    rw [hs] at C0
    clear hs
    go_enter Try.func48, Try.ntmps48
    go_wp2_with fail
    refine C0.mono ?_
    rintro e w1 ⟨rfl, hb⟩
    go_wp2_with fail
    go_ret2
    exact ⟨none, 0, [], rfl, hb, GOwn.nilG _ _⟩
  · rw [if_pos rfl]
    rw [hs] at C0
    clear hs
    have CG := fun w h => l4Groups_any a n cap rs w hm h
    unfold GroupsOut at CG
    generalize groupsR rs = T at *
    go_enter Try.func48, Try.ntmps48
    go_wp2_with fail
    refine C0.mono ?_
    rintro e w1 ⟨rfl, hb⟩
    have C1 := CG w1 ((hR.below hb (Nat.le_refl _)).more hb.size)
    clear C0 CG
    go_wp2_with fail
    refine C1.mono ?_
    rintro e w2 ⟨b, c, gs, rfl, hb2, hG⟩
    have B2 := hb.trans (hb2.mono hb.size)
    have hG2 : GOwn w2 w.heap.size b T.length c gs T := ⟨own_base' hG.outer hb.size, hG.keys, ⟨hG.fam.len, fun i v r h1 h2 => own_base' (hG.fam.own i v r h1 h2) hb.size, hG.fam.sep⟩, hG.out⟩
    go_wp2_with fail
    go_ret2
    exact ⟨b, c, gs, rfl, B2, hG2⟩
end Go.Proofs.Ytjepmcepgoncnaa

namespace Go.Proofs.Ytjepmcepgoncnaa
open Go.RowKit
set_option maxRecDepth 100000 in
set_option maxHeartbeats 2000000 in
theorem markGroupS_any (a : Option Addr) (n cap lo hi : Nat) (gs : List (ByteArray × Value)) (G : List (ByteArray × List RowV)) (w : World) (hm : n ≤ 1048576) (hr : sizeG G ≤ 1048576) (hO : GOwn w lo a n cap gs G) (hB : BndG hi a gs) :
    Calls Try.prog 50 #[.slice a n cap, .int .i64 1] w fun e w' => e = .returned (.int .i64 (1 + sizeG G : Nat)) ∧ (∃ gs', GOwn w' lo a n cap gs' (marksG 1 G)) ∧ Since lo hi w w' := by
  have hl := Lib.hid hO.len.2
  obtain ⟨vs, hvs⟩ : ∃ vs, gs.map (·.2) = vs := ⟨_, rfl⟩
  obtain ⟨hB1, hB2⟩ := hB
  rw [hvs] at hB1
  have HB := Lib.hid hB1
  have HA := Lib.hid hB2
  clear hB1 hB2
  have hmk : ∀ j K : Nat, K = 1 + sizeG (G.take j) → K ≤ 1048577 := fun j K h => by have := sizeG_le G j; omega
  go_enter Try.func50, Try.ntmps50
  go_wp2
  go_loopw [1, 5] (fun q i wr => ∃ (j K : Nat) (gs1 : List (ByteArray × Value)), j ≤ n ∧ i = .int .i64 j ∧ q = .int .i64 K ∧ 1 ≤ K ∧ K ≤ 4194304 ∧ Hid (K = 1 + sizeG (G.take j)) ∧ Hid (gs1.map (·.2) = vs) ∧ GOwn wr lo a n cap gs1 (mixG G j) ∧ Since lo hi w wr) (fun _ i _ => n - (intOf i).toNat)
  case atStart => exact ⟨0, 1, gs, Nat.zero_le _, rfl, rfl, by omega, by omega, Lib.hid (by simp [sizeG]), Lib.hid hvs, by rw [mixG_zero]; exact hO, Since.refl _ _ _⟩
  case round =>
    obtain ⟨j, K, gs1, hj, rfl, rfl, hK1, hK2, HK, HV, hP, hS⟩ := hrel
    clear hO
    by_cases hlt : j < n
    · obtain ⟨⟨key, rs⟩, hx⟩ : ∃ x, G[j]? = some x := ⟨_, List.getElem?_eq_getElem (by rw [hl.out]; exact hlt)⟩
      have hz := sizeG_at hx
      simp only at hz
      have hxm := mixG_at hx
      obtain ⟨l1, l2⟩ := hP.len
      obtain ⟨⟨k1, v1⟩, hg1⟩ : ∃ x, gs1[j]? = some x := ⟨_, List.getElem?_eq_getElem (by omega)⟩
      have hv1 := hP.fam.own j v1 rs (by rw [List.getElem?_map, hg1]; rfl) (by rw [List.getElem?_map, hxm]; rfl)
      obtain ⟨va, vc, rfl, _⟩ := own_slice2 hv1
      have hk1 : k1 = key := by
        have e1 : (gs1.map (·.1))[j]? = some k1 := by rw [List.getElem?_map, hg1]; rfl
        have e2 : ((mixG G j).map (·.1))[j]? = some key := by rw [List.getElem?_map, hxm]; rfl
        rw [hP.keys, e2] at e1
        injection e1 with e1
        exact e1.symm
      subst hk1
      obtain ⟨g, hga, hgb, hgs⟩ := own_form hP.outer (show 0 < n by omega)
      subst hga
      have hgh := HA.out g 0 rfl
      have HG := Lib.hid (marksG_get (K := 1) hx)
      have HK2 := Lib.hid (show K + 1 + 3 * rs.length = 1 + sizeG (G.take (j + 1)) by rw [sizeG_take hx, HK.out]; simp only; omega)
      have hle : K + 1 + 3 * rs.length ≤ 4194304 := by have h1 := sizeG_le G (j + 1); have h2 := HK2.out; omega
      rw [← HK.out] at HG
      go_wp2_with fail
      refine (markText_any K _ (by omega) (by omega)).mono ?_
      rintro e w1 ⟨rfl, hb1⟩
      have hP1 := hP.below hb1
      have hS1 := hS.trans (Since.of_gb (gb_of_below hb1 none) (fun g e => by cases e))
      have f0 := hP1.outer.frozenAt (j * 2)
      obtain ⟨u0, e0⟩ := own_cell hP1.outer (j := j * 2) (by omega)
      have hP2 := hP1.setKey (k' := markB K) hg1 hxm
      have hS2 : Since lo hi w (w1.setCell ⟨g, j * 2, none⟩ (.string (markB K))) := hS1.trans (Since.of_gb (gb_store (World.grownBy.refl w1 (some g)) (j * 2) _) (fun q e => by injection e with e; subst e; exact ⟨hgb, hgh⟩))
      have hj1 := (List.getElem?_eq_some_iff.1 hg1).1
      have hj2 := (List.getElem?_eq_some_iff.1 hxm).1
      have hg2 : (gs1.set j (markB K, Value.slice va rs.length vc))[j]? = some (markB K, .slice va rs.length vc) := List.getElem?_set_self hj1
      have hx2 : ((mixG G j).set j (markB K, rs))[j]? = some (markB K, rs) := List.getElem?_set_self hj2
      have hv2 := hP2.fam.own j (.slice va rs.length vc) rs (by rw [List.getElem?_map, hg2]; rfl) (by rw [List.getElem?_map, hx2]; rfl)
      obtain ⟨_, d1⟩ := gcells_at _ j _ hg2
      have d1' : (w1.setCell ⟨g, j * 2, none⟩ (.string (markB K))).cell? ⟨g, j * 2 + 1, none⟩ = some (.slice va rs.length vc) := by rw [hP2.outer.cellAt (j * 2 + 1) (by omega)]; exact d1
      have HV2 := Lib.hid (show (gs1.set j (markB K, Value.slice va rs.length vc)).map (·.2) = vs by rw [List.map_set, set_same (by rw [List.getElem?_map, hg1]; rfl)]; exact HV.out)
      have HGm := Lib.hid (show ∀ w9, GOwn w9 lo (some ⟨g, 0, none⟩) n cap (gs1.set j (markB K, Value.slice va rs.length vc)) (((mixG G j).set j (markB K, rs)).set j (markB K, marksR (K + 1) rs.length)) → GOwn w9 lo (some ⟨g, 0, none⟩) n cap (gs1.set j (markB K, Value.slice va rs.length vc)) (mixG G (j + 1)) from fun w9 h => by rw [List.set_set, mixG_set hx HG.out] at h; exact h)
      have hvb : ∀ q, (Value.slice va rs.length vc).ownBlock = some q → lo ≤ q ∧ q < hi := fun q e => ⟨(own_ge hv2 q e).1, HB.out _ (by rw [← HV2.out]; exact List.mem_of_getElem? (by rw [List.getElem?_map, hg2]; rfl)) q e⟩
      have hwK : IntKind.i64.wrap ((K : Int) + 1) = ((K + 1 : Nat) : Int) := by rw [IntWalk.i64_in _ (by omega)]; omega
      clear hP hS hb1 hP1 hS1 hx hxm hg1 hv1
      have HP2 := Lib.hid hP2
      have HS2 := Lib.hid hS2
      have HV9 := Lib.hid hv2
      clear hP2 hS2 hv2 d1
      go_wp2_with fail
      rw [show ((K : Int) + 1) = ((K + 1 : Nat) : Int) by omega]
      refine (markRowS_any va rs.length vc (K + 1) lo _ _ (by omega) (by omega) (by omega) HV9.out).mono ?_
      rintro e w2 ⟨rfl, hM, hg3⟩
      have hP3 := HGm.out _ (HP2.out.rows hg2 hx2 hg3 (by rw [marksRlen]; exact hM))
      have hS3 := HS2.out.trans (Since.of_gb hg3 hvb)
      clear hM hg3 d1' f0 e0 HP2 HS2 HV9 HGm
      go_wp2_with fail
      go_roundw
      case rel => exact ⟨j + 1, K + 1 + 3 * rs.length, _, by omega, by go_num, by go_num, by omega, hle, HK2, HV2, hP3, hS3⟩
      case measure => simp [intOf]; omega
    · obtain rfl : j = n := by omega
      rw [mixG_all (by rw [hl.out]; omega)] at hP
      have hK := HK.out
      rw [List.take_of_length_le (Nat.le_of_eq hl.out)] at hK
      have HK' := Lib.hid hK
      clear hK HK
      go_wp2_with fail
      go_ret
      exact ⟨by rw [HK'.out]; rfl, ⟨gs1, hP⟩, hS⟩
set_option maxRecDepth 100000 in
set_option maxHeartbeats 2000000 in
theorem heldGroupS_any (a : Option Addr) (n cap : Nat) (G : List (ByteArray × List RowV)) (w : World) (hm : n ≤ 1048576) (hr : sizeG G ≤ 1048576) (hR : GRd w w.heap.size a n (marksG 1 G)) :
    Calls Try.prog 51 #[.slice a n cap, .int .i64 1] w fun e w' => e = .returned (.int .i64 (1 + sizeG G : Nat)) ∧ Below w.heap.size w w' := by
  have hl := Lib.hid ((marksG_length 1 G).symm.trans hR.1)
  go_enter Try.func51, Try.ntmps51
  go_wp2
  go_loopw [1, 5] (fun q i wr => ∃ (j K : Nat), j ≤ n ∧ i = .int .i64 j ∧ q = .int .i64 K ∧ 1 ≤ K ∧ K ≤ 4194304 ∧ Hid (K = 1 + sizeG (G.take j)) ∧ Below w.heap.size w wr) (fun _ i _ => n - (intOf i).toNat)
  case atStart => exact ⟨0, 1, Nat.zero_le _, rfl, rfl, by omega, by omega, Lib.hid (by simp [sizeG]), Below.refl _ _⟩
  case round =>
    obtain ⟨j, K, hj, rfl, rfl, hK1, hK2, HK, hb⟩ := hrel
    by_cases hlt : j < n
    · obtain ⟨⟨key, rs⟩, hx⟩ : ∃ x, G[j]? = some x := ⟨_, List.getElem?_eq_getElem (by rw [hl.out]; exact hlt)⟩
      have hz := sizeG_at hx
      simp only at hz
      have hxm := marksG_get (K := 1) hx
      rw [← HK.out] at hxm
      obtain ⟨b, a', c', rfl, hB1, d0, d1, R1⟩ := (hR.below hb (Nat.le_refl _)).2 j _ _ hxm
      simp only [marksRlen] at d1 R1
      have HK2 := Lib.hid (show K + 1 + 3 * rs.length = 1 + sizeG (G.take (j + 1)) by rw [sizeG_take hx, HK.out]; simp only; omega)
      have hle : K + 1 + 3 * rs.length ≤ 4194304 := by have h1 := sizeG_le G (j + 1); have h2 := HK2.out; omega
      have hn1 : ¬ ((K : Int) + 1 + 3 * (rs.length : Int) < 0) := by omega
      have R1d : Rd wr.drew w.heap.size 3 a' rs.length (flat (marksR (K + 1) rs.length)) := R1.below (Below.refl wr.heap.size wr).drew hb.size
      clear hx hxm
      go_wp2_with fail
      go_region_held3 (fun w' => w'.cell? ⟨b, j * 2, none⟩ = some (.string (markB K)) ∧ w'.cell? ⟨b, j * 2 + 1, none⟩ = some (.slice a' rs.length c') ∧ Hid (Rd w' w.heap.size 3 a' rs.length (flat (marksR (K + 1) rs.length))) ∧ Below w.heap.size w w')
        (first | exact ⟨d0, d1, Lib.hid R1d, hb.drew⟩ | exact ⟨(hb'.cell (p := ⟨b, j * 2, none⟩) (Nat.lt_of_lt_of_le hB1 hb.size)).trans d0, (hb'.cell (p := ⟨b, j * 2 + 1, none⟩) (Nat.lt_of_lt_of_le hB1 hb.size)).trans d1, Lib.hid (R1d.below hb' hb.size), hb.drew.trans (hb'.mono hb.size)⟩)
        (first | (go_at_call 70; refine (markText_any K _ (by omega) (by omega)).mono ?_; rintro e w' ⟨rfl, hb'⟩))
      rename_i hH
      obtain ⟨_, d1', R1', hB2⟩ := hH
      have R2 := R1'.out.more hB2.size
      clear d0 d1 R1 R1d R1' hb'
      go_wp2_with fail
      rw [show ((K : Int) + 1) = ((K + 1 : Nat) : Int) by omega]
      refine (heldRowS_any a' rs.length c' (K + 1) _ (by omega) (by omega) (by omega) R2).mono ?_
      rintro e w2 ⟨rfl, hb2⟩
      have hb3 := hB2.trans (hb2.mono hB2.size)
      clear d1' hb2 R2
      go_wp2_with fail
      go_roundw
      case rel => exact ⟨j + 1, K + 1 + 3 * rs.length, by omega, by go_num, by go_num, by omega, hle, HK2, hb3⟩
      case measure => simp [intOf]; omega
    · obtain rfl : j = n := by omega
      have hK := HK.out
      rw [List.take_of_length_le (Nat.le_of_eq hl.out)] at hK
      have HK' := Lib.hid hK
      clear hK HK
      go_wp2_with fail
      go_ret
      exact ⟨by rw [HK'.out]; rfl, hb⟩
end Go.Proofs.Ytjepmcepgoncnaa

namespace Go.Proofs.Ytjepmcepgoncnaa
open Go.RowKit

set_option maxRecDepth 100000 in
set_option maxHeartbeats 4000000 in
theorem walk_ExactGroupsOf (a0 : Option Addr) (len0 cap0 : Nat) (x0 : List RowV) (w : World) (hI0 : IsRows w a0 len0 cap0 x0) :
    Calls Try.prog 11 #[.slice a0 len0 cap0] w fun e w' => e = .returned (.bool true) ∧ Below w.heap.size w w' := by
  obtain ⟨hlc0, hcm0, hok0, hR0⟩ := hI0
  have CS : ∀ (b0 : Option Addr) (c0 : Nat) (w : World), len0 ≤ 1048576 → Rd w w.heap.size 3 b0 len0 (flat x0) → Calls Try.prog 48 #[.slice b0 len0 c0] w fun e w' => ∃ a c vs, e = .returned (.tuple #[.slice a (groupsOfS x0).length c, .bool (groupsOfB x0)]) ∧ Below w.heap.size w w' ∧ GOwn w' w.heap.size a (groupsOfS x0).length c vs (groupsOfS x0) := fun b0 c0 w m0 d0 => specGroupsOf_any b0 len0 c0 x0 w  m0 hok0 d0
  have CI : ∀ (b0 : Option Addr) (c0 : Nat) (w : World), len0 ≤ c0 → len0 ≤ 1048576 → Rd w w.heap.size 3 b0 len0 (flat x0) → Calls Try.prog 25 #[.slice b0 len0 c0] w fun e w' => ∃ a c vs, e = .returned (.tuple #[.slice a (groupsOfS x0).length c, .bool (groupsOfB x0)]) ∧ Below w.heap.size w w' ∧ GOwn w' w.heap.size a (groupsOfS x0).length c vs (groupsOfS x0) := fun b0 c0 w g0 m0 d0 => implGroupsOf_any b0 len0 c0 x0 w  m0 g0 hok0 d0
  have hsl := groupsOfS_le x0
  generalize (groupsOfB x0) = ok at CS CI
  generalize groupsOfS x0 = ss at CS CI hsl
  obtain ⟨hsm, hsr⟩ := hsl
  generalize hln : ss.length = m at CS CI hsm
  clear hln
  go_enter Try.func11, Try.ntmps11
  have B0 := Below.refl w.heap.size w
  go_wp2_with fail
  refine (szRowS_any a0 len0 cap0 x0 _ _ (by omega) hok0 ((hR0.below B0 (Nat.le_refl _)).more B0.size) (by omega) (by omega)).mono ?_
  rintro e w1 ⟨z1, rfl, hb, hz⟩
  rcases hz with rfl | ⟨hz0_0, hz1_0, hz2_0⟩
  · go_wp2_with fail
    go_ret
    exact ⟨rfl, B0.trans (hb.mono B0.size)⟩
  have B1 := B0.trans (hb.mono B0.size)
  have s1 : w.heap.size ≤ w1.heap.size := hb.size
  clear hb B0
  have hm0 : len0 ≤ 1048576 := by omega
  go_wp2_with fail
  refine (toRowS_any a0 len0 cap0 x0 _ hm0 ((hR0.below B1 (Nat.le_refl _)).more B1.size)).mono ?_
  rintro e w2 ⟨rfl, hb, hO⟩
  have B2 := B1.trans (hb.mono B1.size)
  have s2 : w1.heap.size ≤ w2.heap.size := hb.size
  clear hb B1
  have S0_2 := hO
  clear hO
  go_wp2_with fail
  refine (CS _ len0 _ hm0 (Rd.of_own S0_2)).mono ?_
  rintro e w3 ⟨aW, cW, vW, rfl, hb, hO⟩
  have B3 := B2.trans (hb.mono B2.size)
  have s3 : w2.heap.size ≤ w3.heap.size := hb.size
  have S0_3 := own_below S0_2 hb
  clear S0_2
  clear hb B2
  have V_3 := hO.rd
  clear hO CS
  clear S0_3
  go_wp2_with fail
  refine (toRowS_any a0 len0 cap0 x0 _ hm0 ((hR0.below B3 (Nat.le_refl _)).more B3.size)).mono ?_
  rintro e w4 ⟨rfl, hb, hO⟩
  have B4 := B3.trans (hb.mono B3.size)
  have s4 : w3.heap.size ≤ w4.heap.size := hb.size
  have V_4 := V_3.below hb (by omega)
  clear V_3
  clear hb B3
  have X0_4 := hO
  clear hO
  have hX0 : w3.heap.size < w4.heap.size := (own_ge X0_4 w3.heap.size rfl).2
  go_wp2_with fail
  refine (CI _ len0 _ (Nat.le_refl _) hm0 (Rd.of_own X0_4)).mono ?_
  rintro e w5 ⟨aG, cG, vG, rfl, hb, hO⟩
  have B5 := B4.trans (hb.mono B4.size)
  have s5 : w4.heap.size ≤ w5.heap.size := hb.size
  have V_5 := V_4.below hb (by omega)
  clear V_4
  have X0_5 := own_below X0_4 hb
  clear X0_4
  clear hb B4
  have G_5 := hO
  clear hO
  have hBnd := G_5.bnd
  go_wp2_with fail
  refine (eqGroupS_same aG aW m cG cW ss _ (by omega) hsr G_5.rd (V_5.more (by omega))).mono ?_
  rintro e w6 ⟨rfl, hb⟩
  have B6 := B5.trans (hb.mono B5.size)
  have s6 : w5.heap.size ≤ w6.heap.size := hb.size
  have V_6 := V_5.below hb (by omega)
  clear V_5
  have X0_6 := own_below X0_5 hb
  clear X0_5
  have G_6 := G_5.below hb
  clear G_5
  clear hb B5
  go_wp2_with fail
  refine (toRowS_any a0 len0 cap0 x0 _ hm0 ((hR0.below B6 (Nat.le_refl _)).more B6.size)).mono ?_
  rintro e w7 ⟨rfl, hb, hO⟩
  have B7 := B6.trans (hb.mono B6.size)
  have s7 : w6.heap.size ≤ w7.heap.size := hb.size
  have V_7 := V_6.below hb (by omega)
  clear V_6
  have X0_7 := own_below X0_6 hb
  clear X0_6
  have G_7 := G_6.below hb
  clear G_6
  clear hb B6
  have Y0_7 := hO
  clear hO
  go_wp2_with fail
  refine (eqRowS_same _ _ len0 len0 len0 x0 _ hm0 (Rd.of_own X0_7) (Rd.of_own Y0_7)).mono ?_
  rintro e w8 ⟨rfl, hb⟩
  have B8 := B7.trans (hb.mono B7.size)
  have s8 : w7.heap.size ≤ w8.heap.size := hb.size
  have V_8 := V_7.below hb (by omega)
  clear V_7
  have X0_8 := own_below X0_7 hb
  clear X0_7
  have G_8 := G_7.below hb
  clear G_7
  have Y0_8 := own_below Y0_7 hb
  clear Y0_7
  clear hb B7
  clear Y0_8
  go_wp2_with fail
  refine (markRowS_any _ len0 len0 1 w3.heap.size _ _ hm0 (by omega) (by omega) X0_8).mono ?_
  rintro e w9 ⟨rfl, _, hg⟩
  have hS : Since w3.heap.size w4.heap.size w8 w9 := Since.of_gb hg (fun g e => by
    have e1 : w3.heap.size = g := by injection e
    omega)
  clear hg
  clear X0_8
  have s9 : w8.heap.size ≤ w9.heap.size := hS.size
  have B9 := B8.trans (hS.below (B := w.heap.size) (by have := B8.size; omega) B8.size)
  have V_9 := V_8.below (hS.below (B := w3.heap.size) (by omega) (by omega)) (Nat.le_refl _)
  clear V_8
  have G_9 := G_8.since hS (by omega)
  clear G_8
  clear hS B8
  go_wp2_with fail
  refine (eqGroupS_same aG aW m cG cW ss _ (by omega) hsr G_9.rd (V_9.more (by omega))).mono ?_
  rintro e w10 ⟨rfl, hb⟩
  have B10 := B9.trans (hb.mono B9.size)
  have s10 : w9.heap.size ≤ w10.heap.size := hb.size
  have V_10 := V_9.below hb (by omega)
  clear V_9
  have G_10 := G_9.below hb
  clear G_9
  clear hb B9
  go_wp2_with fail
  refine (markGroupS_any aG m cG w4.heap.size w5.heap.size vG ss _ (by omega) hsr G_10 hBnd).mono ?_
  rintro e w11 ⟨rfl, ⟨vZ, hG2⟩, hS⟩
  clear G_10
  have s11 : w10.heap.size ≤ w11.heap.size := hS.size
  have B11 := B10.trans (hS.below (B := w.heap.size) (by have := B10.size; omega) B10.size)
  have V_11 := V_10.below (hS.below (B := w3.heap.size) (by omega) (by omega)) (Nat.le_refl _)
  clear V_10
  clear hS B10
  have Z_11 := hG2.rd
  clear hG2
  go_wp2_with fail
  refine (heldGroupS_any aG m cG ss _ (by omega) hsr (Z_11.more (by omega))).mono ?_
  rintro e w12 ⟨rfl, hb⟩
  have B12 := B11.trans (hb.mono B11.size)
  have s12 : w11.heap.size ≤ w12.heap.size := hb.size
  have V_12 := V_11.below hb (by omega)
  clear V_11
  have Z_12 := Z_11.below hb (by omega)
  clear Z_11
  clear hb B11
  go_wp2_with fail
  refine (toRowS_any a0 len0 cap0 x0 _ hm0 ((hR0.below B12 (Nat.le_refl _)).more B12.size)).mono ?_
  rintro e w13 ⟨rfl, hb, hO⟩
  have B13 := B12.trans (hb.mono B12.size)
  have s13 : w12.heap.size ≤ w13.heap.size := hb.size
  have V_13 := V_12.below hb (by omega)
  clear V_12
  have Z_13 := Z_12.below hb (by omega)
  clear Z_12
  clear hb B12
  have Q0_13 := hO
  clear hO
  go_wp2_with fail
  refine (CI _ len0 _ (Nat.le_refl _) hm0 (Rd.of_own Q0_13)).mono ?_
  rintro e w14 ⟨aH, cH, vH, rfl, hb, hO⟩
  have B14 := B13.trans (hb.mono B13.size)
  have s14 : w13.heap.size ≤ w14.heap.size := hb.size
  have V_14 := V_13.below hb (by omega)
  clear V_13
  have Z_14 := Z_13.below hb (by omega)
  clear Z_13
  have Q0_14 := own_below Q0_13 hb
  clear Q0_13
  clear hb B13
  have H_14 := hO
  clear hO
  clear Q0_14
  go_wp2_with fail
  refine (eqGroupS_same aH aW m cH cW ss _ (by omega) hsr H_14.rd (V_14.more (by omega))).mono ?_
  rintro e w15 ⟨rfl, hb⟩
  have B15 := B14.trans (hb.mono B14.size)
  have s15 : w14.heap.size ≤ w15.heap.size := hb.size
  have V_15 := V_14.below hb (by omega)
  clear V_14
  have Z_15 := Z_14.below hb (by omega)
  clear Z_14
  have H_15 := H_14.below hb
  clear H_14
  clear hb B14
  clear H_15
  clear V_15
  go_wp2_with fail
  refine (heldGroupS_any aG m cG ss _ (by omega) hsr (Z_15.more (by omega))).mono ?_
  rintro e w16 ⟨rfl, hb⟩
  have B16 := B15.trans (hb.mono B15.size)
  have s16 : w15.heap.size ≤ w16.heap.size := hb.size
  have Z_16 := Z_15.below hb (by omega)
  clear Z_15
  clear hb B15
  go_wp2_with fail
  go_ret
  exact ⟨rfl, B16⟩
end Go.Proofs.Ytjepmcepgoncnaa

namespace Go.Proofs.Ytjepmcepgoncnaa
open Go.ChangeShapes Go.WideShapes Go.ChangeAt Go.RowKit Go.Joins
open Go.ChangeMaps (open_string shut_string)
namespace ExactGroupsOf

set_option maxRecDepth 100000 in
theorem lifted (os : Os) (started : os.Started) (H : Type) (enc : TypeId × Value → H) :
    ReturnsInHanded {} Try.checked os 11 .any (Rows.fnExactGroupsOfSpec.pre6 enc Try.prog Try.f11 Rows.fnExactGroupsOfRow.domain false) (Rows.fnExactGroupsOfSpec.post enc Try.prog Try.f11 false true false false) := by
  refine returnsInHanded_of_change (C := Try.checked) own started (by kernel_rfl) Try.func11
    (ChangeSpec.witness6 (enc := enc) (C := Try.checked) false ⟨#[], #[.slice none 0 0], []⟩ 8 (by kernel_rfl) (by kernel_rfl) (by kernel_rfl) (by kernel_rfl)) ?_
  intro W base args ds gs before hval0 hW _ _
  have hval : ∀ (j : Nat) t v, Try.f11.params[j]? = some t → args[j]? = some v → Value.okWide Try.prog W .any base t v := hval0
  have hW' := hW
  obtain ⟨p, q, hA0, hV, rfl, _, _⟩ := hW
  have hA : DataW.TrodAll enc Try.prog W 0 (fun _ => true) true Try.f11.params.toList args.toList ds p := hA0
  rw [Try.params11] at hA hval
  obtain ⟨v0, vs0, d0, ds0, p0, q0, hargs, rfl, rfl, h0, r0⟩ := trodAll_cons hA
  obtain ⟨rfl, rfl, rfl⟩ := trodAll_nil r0
  obtain rfl : args = #[v0] := by cases args; simp_all
  obtain ⟨rfl, rfl⟩ := trodVars_none hV
  have k0 := h0
  have lt0 : ∀ x ∈ p0, x.block < W.heap.size := by obtain ⟨m, hm⟩ := k0; exact DataW.trod_lt m _ _ _ hm
  obtain ⟨a0, len0, cap0, z0, rfl, w0⟩ := open_Rows (hval 0 22 v0 rfl rfl) h0
  clear hA0 hval0
  refine (walk_ExactGroupsOf a0 len0 cap0 z0 W w0).mono fun e W' ⟨he, bel⟩ => ?_
  subst he
  exact ⟨_, rfl, _, _, _, [], _, [], hW', trodAll_mk1 (shut_bool Try.underlying4 _), (trodAll_cons_mk (Below.trod laidOut (by kernel_rfl) (of_decide_eq_true (by kernel_rfl)) k0 bel lt0) trodAll_mk0), rfl, bel.frame _, fun h => by cases h⟩

theorem over : Rows.fnExactGroupsOfRow.holds Try.pinned (OpenSpec.ofChange Rows.fnExactGroupsOfSpec) :=
  OpenClaim.holds_of_wide 11 Try.f11 rfl rfl rfl rfl rfl rfl rfl ⟨rfl, rfl, rfl, rfl, rfl⟩ rfl rfl rfl rfl rfl (by kernel_rfl) Try.func11 (by kernel_rfl)
    (of_decide_eq_true (by kernel_rfl)) (by unfold Func.isWrapper; first | (rw [if_pos (by decide +kernel)]; kernel_rfl) | (rw [if_neg (by decide +kernel)]; exact ⟨rfl, rfl⟩))
    (fun os started H enc _ => lifted os started H enc)
end ExactGroupsOf
theorem fnExactGroupsOf_holds : Rows.FnExactGroupsOfSaid := ExactGroupsOf.over
end Go.Proofs.Ytjepmcepgoncnaa
