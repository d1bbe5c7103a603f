
/-
  Rows that are dealt to lists: what lies in memory while it goes on, and spec.l2Parted and spec.Parted by their contracts. Condition: at most 1048576 rows.
-/
import Derived.Test.YtjepmcepgoncnaaPartMem
import Derived.Test.YtjepmcepgoncnaaHashImpl
import Derived.Test.YtjepmcepgoncnaaCutsImpl
import Derived.Maps.AppendAt
import Derived.Deep.RegionLaw
namespace Go.Proofs.Ytjepmcepgoncnaa
open Go.RowKit

/-- The rows by their lists: list i has the rows whose number is i, in order. -/
def partsL (f : RowV → Nat) (n : Nat) (l : List RowV) : List (List RowV) := (List.range n).map fun i => l.filter fun r => f r == i
theorem partsL_length (f : RowV → Nat) (n : Nat) (l : List RowV) : (partsL f n l).length = n := by simp [partsL]
theorem partsL_get {f : RowV → Nat} {n i : Nat} {l : List RowV} (h : i < n) : (partsL f n l)[i]? = some (l.filter fun r => f r == i) := by simp [partsL, h]
theorem partsL_step {f : RowV → Nat} {n : Nat} {l : List RowV} {r : RowV} (h : f r < n) : (partsL f n l).set (f r) ((l.filter fun x => f x == f r) ++ [r]) = partsL f n (l ++ [r]) := by
  apply List.ext_getElem?
  intro i
  by_cases e : f r = i
  · subst e
    rw [List.getElem?_set_self (by rw [partsL_length]; exact h), partsL_get h]
    simp
  · rw [List.getElem?_set_ne e]
    rcases Nat.lt_or_ge i n with hi | hi
    · rw [partsL_get hi, partsL_get hi]
      simp [e]
    · rw [List.getElem?_eq_none (by rw [partsL_length]; exact hi), List.getElem?_eq_none (by rw [partsL_length]; exact hi)]
theorem partsL_nil (f : RowV → Nat) (n : Nat) : partsL f n [] = List.replicate n [] := by
  unfold partsL
  simp only [List.filter_nil]
  rw [List.map_const']
  simp
theorem filter_le_take {f : RowV → Nat} {i k : Nat} {l : List RowV} : ((l.take k).filter fun r => f r == i).length ≤ k := Nat.le_trans (List.length_filter_le _ _) (by simp; omega)
theorem rowsIn_replicate (n : Nat) : rowsIn (List.replicate n []) = 0 := by
  induction n with
  | zero => rfl
  | succ n ih => rw [List.replicate_succ, rowsIn, ih]; rfl
theorem rowsIn_set {ps : List (List RowV)} {i : Nat} {a b : List RowV} (h : ps[i]? = some a) : rowsIn (ps.set i b) + a.length = rowsIn ps + b.length := by
  induction ps generalizing i with
  | nil => simp at h
  | cons r ps ih =>
    cases i with
    | zero => simp at h; subst h; simp only [List.set_cons_zero, rowsIn]; omega
    | succ i =>
      have := ih (i := i) (by simpa using h)
      simp only [List.set_cons_succ, rowsIn]
      omega
theorem rowsIn_partsL (f : RowV → Nat) (n : Nat) (l : List RowV) (h : ∀ r ∈ l, f r < n) : rowsIn (partsL f n l) = l.length := by
  rcases List.eq_nil_or_concat l with rfl | ⟨l', r, rfl⟩
  · rw [partsL_nil, rowsIn_replicate]; rfl
  · rw [List.concat_eq_append] at h ⊢
    have hr := h r (by simp)
    have ih := rowsIn_partsL f n l' (fun x hx => h x (by simp [hx]))
    have h1 := rowsIn_set (b := (l'.filter fun x => f x == f r) ++ [r]) (partsL_get (f := f) (l := l') hr)
    rw [partsL_step hr, ih] at h1
    simp at h1 ⊢
    omega
termination_by l.length
decreasing_by simp_all
theorem Fam.nils (w : World) (lo n : Nat) : Fam w lo (List.replicate n (.slice none 0 0)) (List.replicate n []) := by
  refine ⟨by simp, ?_, ?_⟩
  · intro i v rs hv hr
    have e1 : v = .slice none 0 0 := by
      have := List.mem_of_getElem? hv
      exact (List.mem_replicate.1 this).2
    have e2 : rs = [] := by
      have := List.mem_of_getElem? hr
      exact (List.mem_replicate.1 this).2
    subst e1 e2
    exact World.ownsRow_nil w lo _ _
  · intro i j v u g _ hv _ hg
    have e1 : v = .slice none 0 0 := (List.mem_replicate.1 (List.mem_of_getElem? hv)).2
    subst e1
    cases hg
/-- The list p is written anew; its slice is stored into the outer list. -/
theorem POwn.put {w w' : World} {lo g n c p : Nat} {vs : List Value} {ps : List (List RowV)} {v v' : Value} {rs' : List RowV} (h : POwn w lo (some ⟨g, 0, none⟩) n c vs ps) (hv : vs[p]? = some v) (hg : w.grownBy w' v.ownBlock) (hO : w'.ownsRow lo 77 3 v' rs'.length (flat rs')) (hat : v'.ownBlock = v.ownBlock ∨ v'.ownBlock = some w.heap.size) : POwn (w'.setCell ⟨g, p, none⟩ v') lo (some ⟨g, 0, none⟩) n c (vs.set p v') (ps.set p rs') := by
  have hmem := List.mem_of_getElem? hv
  have hgo : (Value.slice (some ⟨g, 0, none⟩) n c).ownBlock = some g := rfl
  have hgw := (own_ge h.outer g hgo).2
  have F := h.fam.set hv hg hO (hat.imp id fun e g' hg' => by rw [e] at hg'; injection hg' with e'; omega)
  have ho : w'.ownsRow lo 103 1 (.slice (some ⟨g, 0, none⟩) n c) n vs := own_other h.outer hg (fun g' h1 h2 => h.out v hmem g' h2 h1)
  have hout : ∀ u ∈ vs.set p v', ∀ g', u.ownBlock = some g' → (Value.slice (some ⟨g, 0, none⟩) n c).ownBlock ≠ some g' := by
    intro u hu g' hg' he
    rw [hgo] at he
    injection he with he
    rcases List.mem_or_eq_of_mem_set hu with hu | rfl
    · exact h.out u hu g' hg' (by rw [hgo, he])
    · rcases hat with e | e
      · exact h.out v hmem g' (e ▸ hg') (by rw [hgo, he])
      · rw [e] at hg'; injection hg' with e'; omega
  refine ⟨(ho.stored p v').1, ⟨F.len, fun i u rs hu hr => ?_, F.sep⟩, hout⟩
  refine own_other (F.own i u rs hu hr) (gb_store (World.grownBy.refl w' (some g)) p v') (fun g' h1 h2 => ?_)
  injection h2 with h2
  exact hout u (List.mem_of_getElem? hu) g' h1 (by rw [hgo, h2])
theorem infoPart : (Try.prog.info? 103).map (fun i => (i.zero, i.size, i.bytes)) = some (some (.agg #[.slice none 0 0]), 1, 24) := by kernel_rfl
theorem made_parts (n : Nat) : (madeCells (Value.agg #[.slice none 0 0]).cells (n * 1)).toList = List.replicate n (.slice none 0 0) := by
  have h : ∀ x : Nat, [Value.slice none 0 0][x % 1]?.getD default = Value.slice none 0 0 := fun x => by rw [Nat.mod_one]; rfl
  simp [madeCells, Value.cells, h]
  exact (List.map_const' ..).trans (by rw [List.length_range])
/-- append to an owned slice, as one step of a region that draws its order. -/
theorem step_append_own_at {P : Program} {ops : Array Oper} {o : Oper} {a : Act} {w : World} {K : Act → World → Prop} {Q : Exit → Act → World → Prop} {E : Prop}
    (hgd : o.guard = none) (s x : Operand) (t : TypeId) (hop : o.op = Op.call { callee := Callee.builtin Builtin.append, args := #[s, x], argTypes := #[t, t] })
    (base : Nat) (e : TypeId) (i : TypeInfo) (z : Value) (size bytes : Nat) (ht : P.underlying t = some (.slice e)) (hi : P.info? e = some i) (hz : i.zero = some z)
    (hsize : i.size = size) (hby : i.bytes = bytes) (hzs : z.cells.size = size) (hsz : 0 < size)
    (v : Value) (n : Nat) (xs : List Value) (hs : a.eval s = v) (hown : w.ownsRow base e size v n xs)
    (ad : Addr) (m c : Nat) (news : List Value) (hx : a.eval x = .slice (some ad) m c) (hl : news.length = m * size) (hnews : ∀ j u, news[j]? = some u → w.cell? (ad.add j) = some u) (h1 : ∀ u ∈ news, u.oneCell' = true)
    (h63 : n + m ≤ maxLen) (hbytes : (n + m) * bytes ≤ 140737488355328) (hbase : base ≤ w.heap.size)
    (h : ∀ v' w', w'.ownsRow base e size v' (n + m) (xs ++ news) → w.grownBy w' v.ownBlock → (v'.ownBlock = v.ownBlock ∨ v'.ownBlock = some w.heap.size) → K (a.put o.dst v') w') :
    if Region.wanted o (yielded ops a.tmps) = true then Oper.wp P o a w K Q else E := by
  have hw : Region.wanted o (yielded ops a.tmps) = true := by simp [Region.wanted, hgd]
  rw [if_pos hw]
  obtain ⟨v', w', hr, h2, h3, h4, h5⟩ := run_append_own_at (P := P) w base t o.type e i z size bytes ht hi hz hsize hby hzs hsz v n xs hown ad m c news hl hnews h1 h63 hbytes hbase
  unfold Oper.wp
  simp [execOp, hop, resolve, invoke, builtin, hs, hx, hr, Result.andThen]
  exact h v' w' h2 h3 h5
theorem row_new (w : World) (r : RowV) (t : TypeId) : ∀ j u, [Value.string r.key, .int .i64 r.tag, .string r.val][j]? = some u → (w.alloc (.cells #[.string r.key, .int .i64 r.tag, .string r.val] t)).cell? ((⟨w.heap.size, 0, none⟩ : Addr).add j) = some u := by
  intro j u hj
  match j, hj with
  | 0, hj => simp at hj; subst hj; simp [Addr.add, go_sem]
  | 1, hj => simp at hj; subst hj; simp [Addr.add, go_sem]
  | 2, hj => simp at hj; subst hj; simp [Addr.add, go_sem]
theorem row_one (r : RowV) : ∀ u ∈ [Value.string r.key, .int .i64 r.tag, .string r.val], u.oneCell' = true := by
  intro u hu
  simp at hu
  rcases hu with rfl | rfl | rfl <;> rfl
/-- The number of a row's part. -/
def partF (M : Nat) (r : RowV) : Nat := (fnv r.key.data.toList).toNat % M
theorem partF_int {M : Nat} (hM : 0 < M) (r : RowV) : fnv r.key.data.toList % (M : Int) = (partF M r : Int) ∧ partF M r < M := by
  have := fnv_bd r.key.data.toList
  refine ⟨?_, Nat.mod_lt _ hM⟩
  unfold partF
  generalize fnv r.key.data.toList = z at *
  obtain ⟨k, rfl⟩ : ∃ k : Nat, z = k := ⟨z.toNat, by omega⟩
  simp
end Go.Proofs.Ytjepmcepgoncnaa
