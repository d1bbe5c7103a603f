/-
  Lists of parts in memory: each part's rows in a block of their own. laws.eqPartS, laws.markPartS and laws.heldPartS by their contracts. Conditions: at most 1048576 rows in all.
-/
import Derived.Test.YtjnljobncdpkkaaMarkRows
import Derived.Test.YtjnljobncdpkkaaSort
import Derived.Test.YtjnljobncdpkkaaSwapMath
namespace Go.Proofs.Ytjnljobncdpkkaa
open Go.RowKit

/-- Slices of rows, each in memory of its own. -/
structure Fam (w : World) (lo : Nat) (vs : List Value) (ps : List (List RowV)) : Prop where
  len : vs.length = ps.length
  own : ∀ (i : Nat) (v : Value) (rs : List RowV), vs[i]? = some v → ps[i]? = some rs → w.ownsRow lo 69 3 v rs.length (flat rs)
  sep : ∀ (i j : Nat) (v u : Value) (g : Nat), i ≠ j → vs[i]? = some v → vs[j]? = some u → v.ownBlock = some g → u.ownBlock ≠ some g
theorem Fam.nil (w : World) (lo : Nat) : Fam w lo [] [] := ⟨rfl, fun i v rs h => by simp at h, fun i j v u g _ h => by simp at h⟩
theorem Fam.at_ {w : World} {lo : Nat} {vs : List Value} {ps : List (List RowV)} (h : Fam w lo vs ps) {i : Nat} (hi : i < ps.length) : ∃ a c rs, vs[i]? = some (.slice a rs.length c) ∧ ps[i]? = some rs ∧ w.ownsRow lo 69 3 (.slice a rs.length c) rs.length (flat rs) := by
  have h1 : vs[i]? = some (vs[i]'(by rw [h.len]; exact hi)) := List.getElem?_eq_getElem _
  have h2 : ps[i]? = some ps[i] := List.getElem?_eq_getElem hi
  have h3 := h.own i _ _ h1 h2
  obtain ⟨a, c, e⟩ := own_slice' h3
  rw [e] at h1 h3
  exact ⟨a, c, _, h1, h2, h3⟩
theorem Fam.below {w w' : World} {lo : Nat} {vs : List Value} {ps : List (List RowV)} (h : Fam w lo vs ps) (hb : Below w.heap.size w w') : Fam w' lo vs ps := ⟨h.len, fun i v rs h1 h2 => own_below (h.own i v rs h1 h2) hb, h.sep⟩
theorem Fam.base {w : World} {lo lo' : Nat} {vs : List Value} {ps : List (List RowV)} (h : Fam w lo vs ps) (hl : lo' ≤ lo) : Fam w lo' vs ps := ⟨h.len, fun i v rs h1 h2 => own_base' (h.own i v rs h1 h2) hl, h.sep⟩
/-- The block of a value lies at or behind a number, and one changes only another block. -/
theorem own_other {w w' : World} {base e s n : Nat} {v : Value} {xs : List Value} {row : Option Nat} (h : w.ownsRow base e s v n xs) (hg : w.grownBy w' row) (hne : ∀ g, v.ownBlock = some g → row ≠ some g) : w'.ownsRow base e s v n xs :=
  h.kept hg (by
    cases hv : v.ownBlock with
    | none => exact .inl rfl
    | some g => exact .inr (fun he => hne g hv he.symm))
/-- One of the slices is written anew, in its block or in a new one. -/
theorem Fam.set {w w' : World} {lo i : Nat} {vs : List Value} {ps : List (List RowV)} {v v' : Value} {rs' : List RowV} (h : Fam w lo vs ps) (hv : vs[i]? = some v) (hg : w.grownBy w' v.ownBlock) (hO : w'.ownsRow lo 69 3 v' rs'.length (flat rs')) (hat : v'.ownBlock = v.ownBlock ∨ ∀ g, v'.ownBlock = some g → w.heap.size ≤ g) : Fam w' lo (vs.set i v') (ps.set i rs') := by
  have hi := (List.getElem?_eq_some_iff.1 hv).1
  have fresh : ∀ (j : Nat) (u : Value) (g : Nat), j ≠ i → vs[j]? = some u → u.ownBlock = some g → v'.ownBlock ≠ some g := by
    intro j u g hj hu hug hvg
    rcases hat with e | e
    · exact h.sep j i u v g hj hu hv hug (e ▸ hvg)
    · have hj' := (List.getElem?_eq_some_iff.1 hu).1
      obtain ⟨a, c, rs, h1, _, h3⟩ := h.at_ (i := j) (by rw [← h.len]; exact hj')
      rw [h1] at hu; injection hu with hu
      rw [← hu] at hug
      have := (own_ge h3 g hug).2
      have := e g hvg
      omega
  refine ⟨by simp [h.len], ?_, ?_⟩
  · intro j u rs hu hr
    by_cases e : i = j
    · subst e
      rw [List.getElem?_set_self hi] at hu
      rw [List.getElem?_set_self (by rw [← h.len]; exact hi)] at hr
      injection hu with hu; injection hr with hr
      subst hu hr
      exact hO
    · rw [List.getElem?_set_ne e] at hu hr
      exact own_other (h.own j u rs hu hr) hg (fun g hg' he => h.sep j i u v g (Ne.symm e) hu hv hg' he)
  · intro j k u z g hjk hu hz hg'
    by_cases e : i = j
    · subst e
      rw [List.getElem?_set_self hi] at hu
      injection hu with hu
      subst hu
      rw [List.getElem?_set_ne hjk] at hz
      intro hzg
      exact fresh k z g (Ne.symm hjk) hz hzg hg'
    · rw [List.getElem?_set_ne e] at hu
      by_cases e2 : i = k
      · subst e2
        rw [List.getElem?_set_self hi] at hz
        injection hz with hz
        subst hz
        exact fresh j u g (Ne.symm e) hu hg'
      · rw [List.getElem?_set_ne e2] at hz
        exact h.sep j k u z g hjk hu hz hg'
/-- One more slice, in a new block. -/
theorem Fam.snoc {w w' : World} {lo : Nat} {vs : List Value} {ps : List (List RowV)} {v : Value} {rs : List RowV} (h : Fam w lo vs ps) (hb : Below w.heap.size w w') (hO : w'.ownsRow lo 69 3 v rs.length (flat rs)) (hat : ∀ g, v.ownBlock = some g → w.heap.size ≤ g) : Fam w' lo (vs ++ [v]) (ps ++ [rs]) := by
  have old : ∀ (j : Nat) (u : Value) (g : Nat), vs[j]? = some u → u.ownBlock = some g → g < w.heap.size := by
    intro j u g hu hug
    have hj' := (List.getElem?_eq_some_iff.1 hu).1
    obtain ⟨a, c, rs, h1, _, h3⟩ := h.at_ (i := j) (by rw [← h.len]; exact hj')
    rw [h1] at hu; injection hu with hu
    rw [← hu] at hug
    exact (own_ge h3 g hug).2
  have idx : ∀ {β : Type} (l : List β) (x y : β) (j : Nat), (l ++ [x])[j]? = some y → l[j]? = some y ∨ j = l.length ∧ y = x := by
    intro β l x y j hy
    rcases Nat.lt_or_ge j l.length with hj | hj
    · rw [List.getElem?_append_left hj] at hy; exact .inl hy
    · rw [List.getElem?_append_right hj] at hy
      have hj2 := (List.getElem?_eq_some_iff.1 hy).1
      have : j - l.length = 0 := by simpa using hj2
      rw [this] at hy
      exact .inr ⟨by omega, by simpa using hy.symm⟩
  refine ⟨by simp [h.len], ?_, ?_⟩
  · intro j u r hu hr
    rcases idx _ _ _ _ hu with hu | ⟨hj, rfl⟩ <;> rcases idx _ _ _ _ hr with hr | ⟨hj', rfl⟩
    · exact own_below (h.own j u r hu hr) hb
    · have := (List.getElem?_eq_some_iff.1 hu).1
      rw [h.len] at this; omega
    · have := (List.getElem?_eq_some_iff.1 hr).1
      rw [← h.len] at this; omega
    · exact hO
  · intro j k u z g hjk hu hz hg'
    rcases idx _ _ _ _ hu with hu1 | ⟨hj, hju⟩ <;> rcases idx _ _ _ _ hz with hz1 | ⟨hk, hkz⟩
    · exact h.sep j k u z g hjk hu1 hz1 hg'
    · intro e
      have := old j u g hu1 hg'
      have := hat g (hkz ▸ e)
      omega
    · intro e
      have := old k z g hz1 e
      have := hat g (hju ▸ hg')
      omega
    · omega
/-- A list of parts that owns its memory. -/
structure POwn (w : World) (lo : Nat) (a : Option Addr) (n c : Nat) (vs : List Value) (ps : List (List RowV)) : Prop where
  outer : w.ownsRow lo 86 1 (.slice a n c) n vs
  fam : Fam w lo vs ps
  out : ∀ v ∈ vs, ∀ g, v.ownBlock = some g → (Value.slice a n c).ownBlock ≠ some g
/-- A list of parts that can be read below block B. -/
def PRd (w : World) (B : Nat) (a : Option Addr) (n : Nat) (ps : List (List RowV)) : Prop :=
  ∃ vs, Rd w B 1 a n vs ∧ vs.length = ps.length ∧ ∀ (i : Nat) (v : Value) (rs : List RowV), vs[i]? = some v → ps[i]? = some rs → ∃ a' c', v = .slice a' rs.length c' ∧ Rd w B 3 a' rs.length (flat rs)
theorem PRd.len {w : World} {B n : Nat} {a : Option Addr} {ps : List (List RowV)} (h : PRd w B a n ps) : ps.length = n := by
  obtain ⟨vs, h1, h2, _⟩ := h
  have := h1.1
  omega
theorem POwn.len {w : World} {lo n c : Nat} {a : Option Addr} {vs : List Value} {ps : List (List RowV)} (h : POwn w lo a n c vs ps) : ps.length = n := by
  have := h.outer.1
  have := h.fam.len
  omega
theorem PRd.keep {w w' : World} {B n : Nat} {a : Option Addr} {ps : List (List RowV)} (h : PRd w B a n ps) (hk : ∀ b o, b < B → w'.cell? ⟨b, o, none⟩ = w.cell? ⟨b, o, none⟩) : PRd w' B a n ps := by
  obtain ⟨vs, h1, h2, h3⟩ := h
  refine ⟨vs, h1.keep hk, h2, fun i v rs hv hr => ?_⟩
  obtain ⟨a', c', e, h4⟩ := h3 i v rs hv hr
  exact ⟨a', c', e, h4.keep hk⟩
theorem PRd.below {w w' : World} {B B' n : Nat} {a : Option Addr} {ps : List (List RowV)} (h : PRd w B a n ps) (hb : Below B' w w') (hB : B ≤ B') : PRd w' B a n ps := h.keep fun _ _ hp => hb.cell (Nat.lt_of_lt_of_le hp hB)
theorem PRd.more {w : World} {B B' n : Nat} {a : Option Addr} {ps : List (List RowV)} (h : PRd w B a n ps) (hB : B ≤ B') : PRd w B' a n ps := by
  obtain ⟨vs, h1, h2, h3⟩ := h
  refine ⟨vs, h1.more hB, h2, fun i v rs hv hr => ?_⟩
  obtain ⟨a', c', e, h4⟩ := h3 i v rs hv hr
  exact ⟨a', c', e, h4.more hB⟩
theorem PRd.at_ {w : World} {B n i : Nat} {a : Option Addr} {ps : List (List RowV)} (h : PRd w B a n ps) (hi : i < n) : ∃ b off a' c' rs, a = some ⟨b, off, none⟩ ∧ b < B ∧ ps[i]? = some rs ∧ w.cell? ⟨b, off + i, none⟩ = some (.slice a' rs.length c') ∧ Rd w B 3 a' rs.length (flat rs) := by
  have hl := h.len
  obtain ⟨vs, h1, h2, h3⟩ := h
  have hr : ps[i]? = some ps[i] := List.getElem?_eq_getElem (by omega)
  have hv : vs[i]? = some (vs[i]'(by omega)) := List.getElem?_eq_getElem _
  obtain ⟨a', c', e, h4⟩ := h3 i _ _ hv hr
  obtain ⟨b, off, ea, hb, hc⟩ := h1.2 (by omega)
  have := hc i _ hv
  rw [e] at this
  exact ⟨b, off, a', c', _, ea, hb, hr, this, h4⟩
theorem POwn.rd {w : World} {lo n c : Nat} {a : Option Addr} {vs : List Value} {ps : List (List RowV)} (h : POwn w lo a n c vs ps) : PRd w w.heap.size a n ps := by
  refine ⟨vs, Rd.of_own h.outer, h.fam.len, fun i v rs hv hr => ?_⟩
  have := h.fam.own i v rs hv hr
  obtain ⟨a', c', e⟩ := own_slice' this
  subst e
  exact ⟨a', c', rfl, Rd.of_own this⟩
theorem POwn.below {w w' : World} {lo n c : Nat} {a : Option Addr} {vs : List Value} {ps : List (List RowV)} (h : POwn w lo a n c vs ps) (hb : Below w.heap.size w w') : POwn w' lo a n c vs ps := ⟨own_below h.outer hb, h.fam.below hb, h.out⟩
/-- How many rows the parts have. -/
def rowsIn : List (List RowV) → Nat
  | [] => 0
  | r :: ps => r.length + rowsIn ps
theorem rowsIn_take_succ {ps : List (List RowV)} {i : Nat} {rs : List RowV} (h : ps[i]? = some rs) : rowsIn (ps.take (i + 1)) = rowsIn (ps.take i) + rs.length := by
  induction ps generalizing i with
  | nil => simp at h
  | cons r ps ih =>
    cases i with
    | zero => simp at h; subst h; simp [rowsIn]
    | succ i =>
      have := ih (i := i) (by simpa using h)
      simp only [List.take_succ_cons, rowsIn]
      omega
theorem rowsIn_take_le (ps : List (List RowV)) (i : Nat) : rowsIn (ps.take i) ≤ rowsIn ps := by
  induction ps generalizing i with
  | nil => simp [rowsIn]
  | cons r ps ih =>
    cases i with
    | zero => simp [rowsIn]
    | succ i =>
      have := ih i
      simp only [List.take_succ_cons, rowsIn]
      omega
theorem rowsIn_at {ps : List (List RowV)} {i : Nat} {rs : List RowV} (h : ps[i]? = some rs) : rs.length ≤ rowsIn ps := by
  have h1 := rowsIn_take_succ h
  have h2 := rowsIn_take_le ps (i + 1)
  omega
/-- The marks of parts, the first of them K. -/
def marksP (K : Nat) : List (List RowV) → List (List RowV)
  | [] => []
  | r :: ps => marksR K r.length :: marksP (K + 3 * r.length) ps
theorem marksP_length (K : Nat) (ps : List (List RowV)) : (marksP K ps).length = ps.length := by
  induction ps generalizing K with
  | nil => rfl
  | cons r ps ih => simp [marksP, ih]
theorem marksR_length (K j : Nat) : (marksR K j).length = j := by simp [marksR]
theorem marksP_get {ps : List (List RowV)} {i K : Nat} {rs : List RowV} (h : ps[i]? = some rs) : (marksP K ps)[i]? = some (marksR (K + 3 * rowsIn (ps.take i)) rs.length) := by
  induction ps generalizing i K with
  | nil => simp at h
  | cons r ps ih =>
    cases i with
    | zero => simp at h; subst h; simp [marksP, rowsIn]
    | succ i =>
      have := ih (i := i) (K := K + 3 * r.length) (by simpa using h)
      simp only [marksP, List.getElem?_cons_succ, List.take_succ_cons, rowsIn]
      rw [this]
      congr 2
      omega
theorem marksP_rowsIn (K : Nat) (ps : List (List RowV)) : rowsIn (marksP K ps) = rowsIn ps := by
  induction ps generalizing K with
  | nil => rfl
  | cons r ps ih => simp [marksP, rowsIn, ih, marksR_length]

theorem Rd.drew' {w : World} {B size n : Nat} {a : Option Addr} {xs : List Value} (h : Rd w B size a n xs) : Rd w.drew B size a n xs := h.keep fun _ _ _ => rfl
theorem eqPart_same (a b : Option Addr) (ca cb : Nat) (rs : List RowV) (w : World) (hm : rs.length ≤ 1048576) (hA : Rd w w.heap.size 3 a rs.length (flat rs)) (hB : Rd w w.heap.size 3 b rs.length (flat rs)) :
    Calls Try.prog 77 #[.agg #[.slice a rs.length ca], .agg #[.slice b rs.length cb]] w fun e w' => e = .returned (.bool true) ∧ Below w.heap.size w w' := by
  have hb2 := bl2 w (.cells #[.slice a rs.length ca] 86) (.cells #[.slice b rs.length cb] 86)
  go_enter Try.func77, Try.ntmps77
  go_wp2_with fail
  refine (eqRowS_same a b rs.length ca cb rs _ hm ((hA.below hb2 (Nat.le_refl _)).more hb2.size) ((hB.below hb2 (Nat.le_refl _)).more hb2.size)).mono ?_
  rintro e w1 ⟨rfl, hb1⟩
  go_wp2_with fail
  go_ret
  exact ⟨rfl, hb2.trans (hb1.mono hb2.size)⟩
set_option maxRecDepth 100000 in
set_option maxHeartbeats 1000000 in
theorem eqPartS_same (a b : Option Addr) (n ca cb : Nat) (ps : List (List RowV)) (w : World) (hm : n ≤ 1048576) (hr : rowsIn ps ≤ 1048576) (hA : PRd w w.heap.size a n ps) (hB : PRd w w.heap.size b n ps) :
    Calls Try.prog 33 #[.slice a n ca, .slice b n cb] w fun e w' => e = .returned (.bool true) ∧ Below w.heap.size w w' := by
  go_enter Try.func33, Try.ntmps33
  go_wp2
  go_loopw [5] (fun i wr => ∃ k : Nat, k ≤ n ∧ i = .int .i64 k ∧ Below w.heap.size w wr) (fun i _ => n - (intOf i).toNat)
  case atStart => exact ⟨0, Nat.zero_le _, rfl, Below.refl _ _⟩
  case round =>
    obtain ⟨k, hk, rfl, hb⟩ := hrel
    by_cases hlt : k < n
    · obtain ⟨b1, o1, a1, c1, rs, rfl, hB1, hr1, d1, R1⟩ := (hA.below hb (Nat.le_refl _)).at_ hlt
      obtain ⟨b2, o2, a2, c2, rs', rfl, hB2, hr2, d2, R2⟩ := (hB.below hb (Nat.le_refl _)).at_ hlt
      obtain rfl : rs = rs' := by rw [hr1] at hr2; injection hr2
      have hl := rowsIn_at hr1
      have R1' := (R1.more hb.size)
      have R2' := (R2.more hb.size)
      clear hr1 hr2 R1 R2
      go_wp2_with fail
      refine wp_region_still_tail 8 (by kernel_rfl) (by kernel_rfl) ?_
      simp only [List.take_succ_cons, List.take_zero, List.drop_succ_cons, List.drop_zero]
      change wpStill _ _ wr.drew _ _ _
      repeat still_step
      refine wpStill_nil ?_
      change wpList _ _ _ _ _ wr.drew
      go_wp2_with fail
      refine (eqPart_same a1 a2 c1 c2 rs _ (by omega) R1'.drew' R2'.drew').mono ?_
      rintro e w1 ⟨rfl, hb1⟩
      clear d1 d2
      go_wp2_with fail
      go_roundw
      case rel => exact ⟨k + 1, by omega, by go_num, hb.drew.trans (hb1.mono hb.size)⟩
      case measure => simp [intOf]; omega
    · go_wp2_with fail
      go_ret
      exact ⟨rfl, hb⟩
/-- Worlds that differ in the blocks from lo up to hi and in new ones alone. -/
structure Since (lo hi : Nat) (w w' : World) : Prop where
  os : w'.os = w.os
  tape : w'.tape = w.tape
  output : w'.output = w.output
  size : w.heap.size ≤ w'.heap.size
  block : ∀ k, k < w.heap.size → (k < lo ∨ hi ≤ k) → w'.heap[k]? = w.heap[k]?
theorem Since.refl (lo hi : Nat) (w : World) : Since lo hi w w := ⟨rfl, rfl, rfl, Nat.le_refl _, fun _ _ _ => rfl⟩
theorem Since.trans {lo hi : Nat} {a b c : World} (h : Since lo hi a b) (k : Since lo hi b c) : Since lo hi a c :=
  ⟨k.os.trans h.os, k.tape.trans h.tape, k.output.trans h.output, Nat.le_trans h.size k.size, fun i hi' hne => (k.block i (Nat.lt_of_lt_of_le hi' h.size) hne).trans (h.block i hi' hne)⟩
theorem Since.of_gb {lo hi : Nat} {w w' : World} {row : Option Nat} (h : w.grownBy w' row) (hr : ∀ g, row = some g → lo ≤ g ∧ g < hi) : Since lo hi w w' :=
  ⟨h.os, h.tape, h.output, h.size, fun k hk hne => h.block k hk (fun e => by have := hr k e.symm; omega)⟩
theorem Since.below {lo hi B : Nat} {w w' : World} (h : Since lo hi w w') (hB : B ≤ lo) (hBw : B ≤ w.heap.size) : Below B w w' :=
  ⟨h.os, h.tape, h.output, h.size, fun k hk => h.block k (by omega) (.inl (by omega))⟩
theorem Since.own {lo hi base e s n : Nat} {w w' : World} {v : Value} {xs : List Value} (h : w.ownsRow base e s v n xs) (hs : Since lo hi w w') (hb : hi ≤ base) : w'.ownsRow base e s v n xs := by
  refine ⟨h.1, ?_⟩
  rcases h.2 with h0 | ⟨g, c, cur, hv, hg, hh, h1, h2, h3, h4⟩
  · exact .inl h0
  · have hlt : g < w.heap.size := by
      rcases Nat.lt_or_ge g w.heap.size with hlt | hge
      · exact hlt
      · rw [Array.getElem?_eq_none hge] at hh; cases hh
    exact .inr ⟨g, c, cur, hv, hg, (hs.block g hlt (.inr (by omega))).trans hh, h1, h2, h3, h4⟩
theorem POwn.since {lo hi base n c : Nat} {w w' : World} {a : Option Addr} {vs : List Value} {ps : List (List RowV)} (h : POwn w base a n c vs ps) (hs : Since lo hi w w') (hb : hi ≤ base) : POwn w' base a n c vs ps :=
  ⟨Since.own h.outer hs hb, ⟨h.fam.len, fun i v rs h1 h2 => Since.own (h.fam.own i v rs h1 h2) hs hb, h.fam.sep⟩, h.out⟩
/-- The blocks of parts lie below hi. -/
def Bnd (hi : Nat) (vs : List Value) : Prop := ∀ v ∈ vs, ∀ g, v.ownBlock = some g → g < hi
theorem POwn.bnd {w : World} {lo n c : Nat} {a : Option Addr} {vs : List Value} {ps : List (List RowV)} (h : POwn w lo a n c vs ps) : Bnd w.heap.size vs := fun v hv g hg => by
  obtain ⟨i, hi, e⟩ := List.mem_iff_getElem.1 hv
  have h1 : vs[i]? = some v := by rw [List.getElem?_eq_getElem hi, e]
  have h2 : ps[i]? = some (ps[i]'(by rw [← h.fam.len]; exact hi)) := List.getElem?_eq_getElem _
  exact (own_ge (h.fam.own i v _ h1 h2) g hg).2
set_option maxRecDepth 100000 in
set_option maxHeartbeats 1000000 in
theorem markPartS_any (a : Option Addr) (n cap lo hi : Nat) (vs : List Value) (ps : List (List RowV)) (w : World) (hm : n ≤ 1048576) (hr : rowsIn ps ≤ 1048576) (hO : POwn w lo a n cap vs ps) (hB : Bnd hi vs) :
    Calls Try.prog 34 #[.slice a n cap, .int .i64 1] w fun e w' => e = .returned (.int .i64 (1 + 3 * rowsIn ps : Nat)) ∧ POwn w' lo a n cap vs (marksP 1 ps) ∧ Since lo hi w w' := by
  have hl := Lib.hid hO.len
  have HM := Lib.hid (marksP_length 1 ps)
  go_enter Try.func34, Try.ntmps34
  go_wp2
  go_loopw [1, 5] (fun q i wr => ∃ (j K : Nat), j ≤ n ∧ i = .int .i64 j ∧ q = .int .i64 K ∧ 1 ≤ K ∧ K ≤ 4194304 ∧ Hid (K = 1 + 3 * rowsIn (ps.take j)) ∧ POwn wr lo a n cap vs (part2 (marksP 1 ps) ps j) ∧ Since lo hi w wr) (fun _ i _ => n - (intOf i).toNat)
  case atStart => exact ⟨0, 1, Nat.zero_le _, rfl, rfl, by omega, by omega, Lib.hid (by simp [rowsIn]), by rw [part2_zero]; exact hO, Since.refl _ _ _⟩
  case round =>
    obtain ⟨j, K, hj, rfl, rfl, hK1, hK2, HK, hP, hS⟩ := hrel
    clear hO
    by_cases hlt : j < n
    · obtain ⟨b, off, a', c', rs, rfl, hB1, hr1, d1, _⟩ := hP.rd.at_ hlt
      have hpj : ps[j]? = some rs := by
        have := part2_get (P := []) (S := []) (A := marksP 1 ps) (B := ps) (n := n) (i := j) (a := 0) (x := ps[j]'(by rw [hl.out]; exact hlt)) (HM.out.trans hl.out) hlt (List.getElem?_eq_getElem _) rfl
        simp only [List.nil_append, List.append_nil, Nat.zero_add] at this
        rw [hr1] at this
        injection this with this
        rw [List.getElem?_eq_getElem (by rw [hl.out]; exact hlt), this]
      have hrl := rowsIn_at hpj
      obtain ⟨va, vc, rs2, hv1, hv2, hv3⟩ := hP.fam.at_ (i := j) (by rw [part2_length (HM.out.trans hl.out) hl.out (by omega)]; exact hlt)
      obtain rfl : rs = rs2 := by rw [hr1] at hv2; injection hv2
      obtain ⟨g0, hg0, hga, hgb⟩ := own_form hP.outer (show 0 < n by omega)
      obtain ⟨rfl, rfl⟩ : b = g0 ∧ off = 0 := by injection hg0 with e; injection e with e1 e2; exact ⟨e1, e2⟩
      rw [Nat.zero_add] at d1
      have hvv : Value.slice va rs.length vc = .slice a' rs.length c' := by
        have h1 := hP.outer.cellAt j (by omega)
        rw [hv1, d1] at h1
        injection h1 with h1; exact h1.symm
      rw [hvv] at hv1 hv3
      have HP := Lib.hid hpj
      have HK2 := Lib.hid (show K + 3 * rs.length = 1 + 3 * rowsIn (ps.take (j + 1)) by rw [rowsIn_take_succ hpj, HK.out]; omega)
      have hle : K + 3 * rs.length ≤ 4194304 := by
        have h1 := rowsIn_take_le ps (j + 1)
        have h2 := HK2.out
        omega
      have HG := Lib.hid (marksP_get (K := 1) hpj)
      rw [← HK.out] at HG
      clear hr1 hpj hv2 hvv hg0
      go_wp2_with fail
      refine (markRowS_any a' rs.length c' K lo _ _ (by omega) hK1 (by omega) hv3).mono ?_
      rintro e w1 ⟨rfl, hM, hg1⟩
      have hF := hP.fam.set (rs' := marksR K rs.length) hv1 hg1 (by rw [marksR_length]; exact hM) (.inl rfl)
      have hself : vs.set j (.slice a' rs.length c') = vs := by
        apply List.ext_getElem?
        intro i
        by_cases e : j = i
        · subst e; rw [List.getElem?_set_self (List.getElem?_eq_some_iff.1 hv1).1, hv1]
        · rw [List.getElem?_set_ne e]
      have hset : (part2 (marksP 1 ps) ps j).set j (marksR K rs.length) = part2 (marksP 1 ps) ps (j + 1) := by
        have := part2_set (P := []) (S := []) (A := marksP 1 ps) (B := ps) (n := n) (i := j) (a := 0) (HM.out.trans hl.out) hl.out hlt HG.out rfl
        simpa using this
      rw [hself, hset] at hF
      have hP2 : POwn w1 lo (some ⟨b, 0, none⟩) n cap vs (part2 (marksP 1 ps) ps (j + 1)) := ⟨own_other hP.outer hg1 (fun g hg he => hP.out _ (List.mem_of_getElem? hv1) g he hg), hF, hP.out⟩
      have hS2 := hS.trans (Since.of_gb hg1 (fun g e => ⟨(own_ge hv3 g e).1, hB _ (List.mem_of_getElem? hv1) g e⟩))
      clear hF hself hset hM hg1 hP hS hv1 hv3 d1
      go_wp2_with fail
      go_roundw
      case rel => exact ⟨j + 1, K + 3 * rs.length, by omega, by go_num, by go_num, by omega, hle, HK2, hP2, hS2⟩
      case measure => simp [intOf]; omega
    · obtain rfl : j = n := by omega
      rw [part2_all (HM.out.trans hl.out) hl.out] at hP
      have hK := HK.out
      rw [List.take_of_length_le (Nat.le_of_eq hl.out)] at hK
      have HK' := Lib.hid hK
      clear hK HK
      go_wp2_with fail
      go_ret
      exact ⟨ret_int (by rw [HK'.out]), hP, hS⟩
set_option maxRecDepth 100000 in
set_option maxHeartbeats 1000000 in
theorem heldPartS_any (a : Option Addr) (n cap : Nat) (ps : List (List RowV)) (w : World) (hm : n ≤ 1048576) (hr : rowsIn ps ≤ 1048576) (hR : PRd w w.heap.size a n (marksP 1 ps)) :
    Calls Try.prog 35 #[.slice a n cap, .int .i64 1] w fun e w' => e = .returned (.int .i64 (1 + 3 * rowsIn ps : Nat)) ∧ Below w.heap.size w w' := by
  have hl := Lib.hid ((marksP_length 1 ps).symm.trans hR.len)
  go_enter Try.func35, Try.ntmps35
  go_wp2
  go_loopw [1, 5] (fun q i wr => ∃ (j K : Nat), j ≤ n ∧ i = .int .i64 j ∧ q = .int .i64 K ∧ 1 ≤ K ∧ K ≤ 4194304 ∧ Hid (K = 1 + 3 * rowsIn (ps.take j)) ∧ Below w.heap.size w wr) (fun _ i _ => n - (intOf i).toNat)
  case atStart => exact ⟨0, 1, Nat.zero_le _, rfl, rfl, by omega, by omega, Lib.hid (by simp [rowsIn]), Below.refl _ _⟩
  case round =>
    obtain ⟨j, K, hj, rfl, rfl, hK1, hK2, HK, hb⟩ := hrel
    by_cases hlt : j < n
    · obtain ⟨b, off, a', c', ms, rfl, hB1, hr1, d1, R1⟩ := (hR.below hb (Nat.le_refl _)).at_ hlt
      have hpj : ps[j]? = some (ps[j]'(by rw [hl.out]; exact hlt)) := List.getElem?_eq_getElem _
      generalize ps[j]'(by rw [hl.out]; exact hlt) = rs at hpj
      have hms : ms = marksR K rs.length := by
        have := marksP_get (K := 1) hpj
        rw [hr1, ← HK.out] at this
        injection this
      subst hms
      rw [marksR_length] at d1 R1
      have hrl := rowsIn_at hpj
      have HK2 := Lib.hid (show K + 3 * rs.length = 1 + 3 * rowsIn (ps.take (j + 1)) by rw [rowsIn_take_succ hpj, HK.out]; omega)
      have hle : K + 3 * rs.length ≤ 4194304 := by
        have h1 := rowsIn_take_le ps (j + 1)
        have h2 := HK2.out
        omega
      have R1' := R1.more hb.size
      clear hr1 hpj R1
      go_wp2_with fail
      refine (heldRowS_any a' rs.length c' K _ (by omega) hK1 (by omega) R1').mono ?_
      rintro e w1 ⟨rfl, hb1⟩
      clear d1
      go_wp2_with fail
      go_roundw
      case rel => exact ⟨j + 1, K + 3 * rs.length, by omega, by go_num, by go_num, by omega, hle, HK2, hb.trans (hb1.mono hb.size)⟩
      case measure => simp [intOf]; omega
    · obtain rfl : j = n := by omega
      have hK := HK.out
      rw [List.take_of_length_le (Nat.le_of_eq hl.out)] at hK
      have HK' := Lib.hid hK
      clear hK HK
      go_wp2_with fail
      go_ret
      exact ⟨ret_int (by rw [HK'.out]), hb⟩
end Go.Proofs.Ytjnljobncdpkkaa
