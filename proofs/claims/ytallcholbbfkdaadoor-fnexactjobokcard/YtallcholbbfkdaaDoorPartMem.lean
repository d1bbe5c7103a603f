/-
  Lists of parts in memory: each part's rows in a block of their own. Conditions: those of each statement.
-/
import Derived.Test.YtallcholbbfkdaaDoorSort
import Derived.Test.YtallcholbbfkdaaDoorSwapMath
import Derived.Test.YtallcholbbfkdaaDoorSince
namespace Go.Proofs.YtallcholbbfkdaaDoor
open Go.RowKit

/-- Slices of rows, each in memory of its own. -/
structure Fam (w : World) (lo : Nat) (vs : List Value) (ps : List (List RowV)) : Prop where
  len : vs.length = ps.length
  own : ∀ (i : Nat) (v : Value) (rs : List RowV), vs[i]? = some v → ps[i]? = some rs → w.ownsRow lo 68 3 v rs.length (flat rs)
  sep : ∀ (i j : Nat) (v u : Value) (g : Nat), i ≠ j → vs[i]? = some v → vs[j]? = some u → v.ownBlock = some g → u.ownBlock ≠ some g
theorem Fam.nil (w : World) (lo : Nat) : Fam w lo [] [] := ⟨rfl, fun i v rs h => by simp at h, fun i j v u g _ h => by simp at h⟩
theorem Fam.at_ {w : World} {lo : Nat} {vs : List Value} {ps : List (List RowV)} (h : Fam w lo vs ps) {i : Nat} (hi : i < ps.length) : ∃ a c rs, vs[i]? = some (.slice a rs.length c) ∧ ps[i]? = some rs ∧ w.ownsRow lo 68 3 (.slice a rs.length c) rs.length (flat rs) := by
  have h1 : vs[i]? = some (vs[i]'(by rw [h.len]; exact hi)) := List.getElem?_eq_getElem _
  have h2 : ps[i]? = some ps[i] := List.getElem?_eq_getElem hi
  have h3 := h.own i _ _ h1 h2
  obtain ⟨a, c, e⟩ := own_slice' h3
  rw [e] at h1 h3
  exact ⟨a, c, _, h1, h2, h3⟩
theorem Fam.below {w w' : World} {lo : Nat} {vs : List Value} {ps : List (List RowV)} (h : Fam w lo vs ps) (hb : Below w.heap.size w w') : Fam w' lo vs ps := ⟨h.len, fun i v rs h1 h2 => own_below (h.own i v rs h1 h2) hb, h.sep⟩
theorem Fam.base {w : World} {lo lo' : Nat} {vs : List Value} {ps : List (List RowV)} (h : Fam w lo vs ps) (hl : lo' ≤ lo) : Fam w lo' vs ps := ⟨h.len, fun i v rs h1 h2 => own_base' (h.own i v rs h1 h2) hl, h.sep⟩
/-- The block of a value lies at or behind a number, and one changes only another block. -/
theorem own_other {w w' : World} {base e s n : Nat} {v : Value} {xs : List Value} {row : Option Nat} (h : w.ownsRow base e s v n xs) (hg : w.grownBy w' row) (hne : ∀ g, v.ownBlock = some g → row ≠ some g) : w'.ownsRow base e s v n xs :=
  h.kept hg (by
    cases hv : v.ownBlock with
    | none => exact .inl rfl
    | some g => exact .inr (fun he => hne g hv he.symm))
/-- One of the slices is written anew, in its block or in a new one. -/
theorem Fam.set {w w' : World} {lo i : Nat} {vs : List Value} {ps : List (List RowV)} {v v' : Value} {rs' : List RowV} (h : Fam w lo vs ps) (hv : vs[i]? = some v) (hg : w.grownBy w' v.ownBlock) (hO : w'.ownsRow lo 68 3 v' rs'.length (flat rs')) (hat : v'.ownBlock = v.ownBlock ∨ ∀ g, v'.ownBlock = some g → w.heap.size ≤ g) : Fam w' lo (vs.set i v') (ps.set i rs') := by
  have hi := (List.getElem?_eq_some_iff.1 hv).1
  have fresh : ∀ (j : Nat) (u : Value) (g : Nat), j ≠ i → vs[j]? = some u → u.ownBlock = some g → v'.ownBlock ≠ some g := by
    intro j u g hj hu hug hvg
    rcases hat with e | e
    · exact h.sep j i u v g hj hu hv hug (e ▸ hvg)
    · have hj' := (List.getElem?_eq_some_iff.1 hu).1
      obtain ⟨a, c, rs, h1, _, h3⟩ := h.at_ (i := j) (by rw [← h.len]; exact hj')
      rw [h1] at hu; injection hu with hu
      rw [← hu] at hug
      have := (own_ge h3 g hug).2
      have := e g hvg
      omega
  refine ⟨by simp [h.len], ?_, ?_⟩
  · intro j u rs hu hr
    by_cases e : i = j
    · subst e
      rw [List.getElem?_set_self hi] at hu
      rw [List.getElem?_set_self (by rw [← h.len]; exact hi)] at hr
      injection hu with hu; injection hr with hr
      subst hu hr
      exact hO
    · rw [List.getElem?_set_ne e] at hu hr
      exact own_other (h.own j u rs hu hr) hg (fun g hg' he => h.sep j i u v g (Ne.symm e) hu hv hg' he)
  · intro j k u z g hjk hu hz hg'
    by_cases e : i = j
    · subst e
      rw [List.getElem?_set_self hi] at hu
      injection hu with hu
      subst hu
      rw [List.getElem?_set_ne hjk] at hz
      intro hzg
      exact fresh k z g (Ne.symm hjk) hz hzg hg'
    · rw [List.getElem?_set_ne e] at hu
      by_cases e2 : i = k
      · subst e2
        rw [List.getElem?_set_self hi] at hz
        injection hz with hz
        subst hz
        exact fresh j u g (Ne.symm e) hu hg'
      · rw [List.getElem?_set_ne e2] at hz
        exact h.sep j k u z g hjk hu hz hg'
/-- One more slice, in a new block. -/
theorem Fam.snoc {w w' : World} {lo : Nat} {vs : List Value} {ps : List (List RowV)} {v : Value} {rs : List RowV} (h : Fam w lo vs ps) (hb : Below w.heap.size w w') (hO : w'.ownsRow lo 68 3 v rs.length (flat rs)) (hat : ∀ g, v.ownBlock = some g → w.heap.size ≤ g) : Fam w' lo (vs ++ [v]) (ps ++ [rs]) := by
  have old : ∀ (j : Nat) (u : Value) (g : Nat), vs[j]? = some u → u.ownBlock = some g → g < w.heap.size := by
    intro j u g hu hug
    have hj' := (List.getElem?_eq_some_iff.1 hu).1
    obtain ⟨a, c, rs, h1, _, h3⟩ := h.at_ (i := j) (by rw [← h.len]; exact hj')
    rw [h1] at hu; injection hu with hu
    rw [← hu] at hug
    exact (own_ge h3 g hug).2
  have idx : ∀ {β : Type} (l : List β) (x y : β) (j : Nat), (l ++ [x])[j]? = some y → l[j]? = some y ∨ j = l.length ∧ y = x := by
    intro β l x y j hy
    rcases Nat.lt_or_ge j l.length with hj | hj
    · rw [List.getElem?_append_left hj] at hy; exact .inl hy
    · rw [List.getElem?_append_right hj] at hy
      have hj2 := (List.getElem?_eq_some_iff.1 hy).1
      have : j - l.length = 0 := by simpa using hj2
      rw [this] at hy
      exact .inr ⟨by omega, by simpa using hy.symm⟩
  refine ⟨by simp [h.len], ?_, ?_⟩
  · intro j u r hu hr
    rcases idx _ _ _ _ hu with hu | ⟨hj, rfl⟩ <;> rcases idx _ _ _ _ hr with hr | ⟨hj', rfl⟩
    · exact own_below (h.own j u r hu hr) hb
    · have := (List.getElem?_eq_some_iff.1 hu).1
      rw [h.len] at this; omega
    · have := (List.getElem?_eq_some_iff.1 hr).1
      rw [← h.len] at this; omega
    · exact hO
  · intro j k u z g hjk hu hz hg'
    rcases idx _ _ _ _ hu with hu1 | ⟨hj, hju⟩ <;> rcases idx _ _ _ _ hz with hz1 | ⟨hk, hkz⟩
    · exact h.sep j k u z g hjk hu1 hz1 hg'
    · intro e
      have := old j u g hu1 hg'
      have := hat g (hkz ▸ e)
      omega
    · intro e
      have := old k z g hz1 e
      have := hat g (hju ▸ hg')
      omega
    · omega
/-- A list of parts that owns its memory. -/
structure POwn (w : World) (lo : Nat) (a : Option Addr) (n c : Nat) (vs : List Value) (ps : List (List RowV)) : Prop where
  outer : w.ownsRow lo 39 1 (.slice a n c) n vs
  fam : Fam w lo vs ps
  out : ∀ v ∈ vs, ∀ g, v.ownBlock = some g → (Value.slice a n c).ownBlock ≠ some g
/-- A list of parts that can be read below block B. -/
def PRd (w : World) (B : Nat) (a : Option Addr) (n : Nat) (ps : List (List RowV)) : Prop :=
  ∃ vs, Rd w B 1 a n vs ∧ vs.length = ps.length ∧ ∀ (i : Nat) (v : Value) (rs : List RowV), vs[i]? = some v → ps[i]? = some rs → ∃ a' c', v = .slice a' rs.length c' ∧ Rd w B 3 a' rs.length (flat rs)
theorem PRd.len {w : World} {B n : Nat} {a : Option Addr} {ps : List (List RowV)} (h : PRd w B a n ps) : ps.length = n := by
  obtain ⟨vs, h1, h2, _⟩ := h
  have := h1.1
  omega
theorem POwn.len {w : World} {lo n c : Nat} {a : Option Addr} {vs : List Value} {ps : List (List RowV)} (h : POwn w lo a n c vs ps) : ps.length = n := by
  have := h.outer.1
  have := h.fam.len
  omega
theorem PRd.keep {w w' : World} {B n : Nat} {a : Option Addr} {ps : List (List RowV)} (h : PRd w B a n ps) (hk : ∀ b o, b < B → w'.cell? ⟨b, o, none⟩ = w.cell? ⟨b, o, none⟩) : PRd w' B a n ps := by
  obtain ⟨vs, h1, h2, h3⟩ := h
  refine ⟨vs, h1.keep hk, h2, fun i v rs hv hr => ?_⟩
  obtain ⟨a', c', e, h4⟩ := h3 i v rs hv hr
  exact ⟨a', c', e, h4.keep hk⟩
theorem PRd.below {w w' : World} {B B' n : Nat} {a : Option Addr} {ps : List (List RowV)} (h : PRd w B a n ps) (hb : Below B' w w') (hB : B ≤ B') : PRd w' B a n ps := h.keep fun _ _ hp => hb.cell (Nat.lt_of_lt_of_le hp hB)
theorem PRd.more {w : World} {B B' n : Nat} {a : Option Addr} {ps : List (List RowV)} (h : PRd w B a n ps) (hB : B ≤ B') : PRd w B' a n ps := by
  obtain ⟨vs, h1, h2, h3⟩ := h
  refine ⟨vs, h1.more hB, h2, fun i v rs hv hr => ?_⟩
  obtain ⟨a', c', e, h4⟩ := h3 i v rs hv hr
  exact ⟨a', c', e, h4.more hB⟩
theorem PRd.at_ {w : World} {B n i : Nat} {a : Option Addr} {ps : List (List RowV)} (h : PRd w B a n ps) (hi : i < n) : ∃ b off a' c' rs, a = some ⟨b, off, none⟩ ∧ b < B ∧ ps[i]? = some rs ∧ w.cell? ⟨b, off + i, none⟩ = some (.slice a' rs.length c') ∧ Rd w B 3 a' rs.length (flat rs) := by
  have hl := h.len
  obtain ⟨vs, h1, h2, h3⟩ := h
  have hr : ps[i]? = some ps[i] := List.getElem?_eq_getElem (by omega)
  have hv : vs[i]? = some (vs[i]'(by omega)) := List.getElem?_eq_getElem _
  obtain ⟨a', c', e, h4⟩ := h3 i _ _ hv hr
  obtain ⟨b, off, ea, hb, hc⟩ := h1.2 (by omega)
  have := hc i _ hv
  rw [e] at this
  exact ⟨b, off, a', c', _, ea, hb, hr, this, h4⟩
theorem POwn.rd {w : World} {lo n c : Nat} {a : Option Addr} {vs : List Value} {ps : List (List RowV)} (h : POwn w lo a n c vs ps) : PRd w w.heap.size a n ps := by
  refine ⟨vs, Rd.of_own h.outer, h.fam.len, fun i v rs hv hr => ?_⟩
  have := h.fam.own i v rs hv hr
  obtain ⟨a', c', e⟩ := own_slice' this
  subst e
  exact ⟨a', c', rfl, Rd.of_own this⟩
theorem POwn.below {w w' : World} {lo n c : Nat} {a : Option Addr} {vs : List Value} {ps : List (List RowV)} (h : POwn w lo a n c vs ps) (hb : Below w.heap.size w w') : POwn w' lo a n c vs ps := ⟨own_below h.outer hb, h.fam.below hb, h.out⟩
/-- How many rows the parts have. -/
def rowsIn : List (List RowV) → Nat
  | [] => 0
  | r :: ps => r.length + rowsIn ps
theorem rowsIn_take_succ {ps : List (List RowV)} {i : Nat} {rs : List RowV} (h : ps[i]? = some rs) : rowsIn (ps.take (i + 1)) = rowsIn (ps.take i) + rs.length := by
  induction ps generalizing i with
  | nil => simp at h
  | cons r ps ih =>
    cases i with
    | zero => simp at h; subst h; simp [rowsIn]
    | succ i =>
      have := ih (i := i) (by simpa using h)
      simp only [List.take_succ_cons, rowsIn]
      omega
theorem rowsIn_take_le (ps : List (List RowV)) (i : Nat) : rowsIn (ps.take i) ≤ rowsIn ps := by
  induction ps generalizing i with
  | nil => simp [rowsIn]
  | cons r ps ih =>
    cases i with
    | zero => simp [rowsIn]
    | succ i =>
      have := ih i
      simp only [List.take_succ_cons, rowsIn]
      omega
theorem rowsIn_at {ps : List (List RowV)} {i : Nat} {rs : List RowV} (h : ps[i]? = some rs) : rs.length ≤ rowsIn ps := by
  have h1 := rowsIn_take_succ h
  have h2 := rowsIn_take_le ps (i + 1)
  omega
theorem Rd.drew' {w : World} {B size n : Nat} {a : Option Addr} {xs : List Value} (h : Rd w B size a n xs) : Rd w.drew B size a n xs := h.keep fun _ _ _ => rfl
theorem POwn.since {lo hi base n c : Nat} {w w' : World} {a : Option Addr} {vs : List Value} {ps : List (List RowV)} (h : POwn w base a n c vs ps) (hs : Since lo hi w w') (hb : hi ≤ base) : POwn w' base a n c vs ps :=
  ⟨Since.own h.outer hs hb, ⟨h.fam.len, fun i v rs h1 h2 => Since.own (h.fam.own i v rs h1 h2) hs hb, h.fam.sep⟩, h.out⟩
/-- The blocks of parts lie below hi. -/
def Bnd (hi : Nat) (vs : List Value) : Prop := ∀ v ∈ vs, ∀ g, v.ownBlock = some g → g < hi
theorem POwn.bnd {w : World} {lo n c : Nat} {a : Option Addr} {vs : List Value} {ps : List (List RowV)} (h : POwn w lo a n c vs ps) : Bnd w.heap.size vs := fun v hv g hg => by
  obtain ⟨i, hi, e⟩ := List.mem_iff_getElem.1 hv
  have h1 : vs[i]? = some v := by rw [List.getElem?_eq_getElem hi, e]
  have h2 : ps[i]? = some (ps[i]'(by rw [← h.fam.len]; exact hi)) := List.getElem?_eq_getElem _
  exact (own_ge (h.fam.own i v _ h1 h2) g hg).2
end Go.Proofs.YtallcholbbfkdaaDoor
