/-
  spec.l4Groups by its contract: rows in groups of equal neighbours. Conditions: at most 1048576 rows.
-/
import Derived.Test.YtgdbpckobngmjaaHash
import Derived.Test.YtgdbpckobngmjaaRowOrd
import Derived.Test.YtgdbpckobngmjaaLowD
import Derived.Sort.OwnSorted
import Derived.Lib.SlicesCompact
import Derived.Test.YtgdbpckobngmjaaCutsMath
import Derived.Test.YtgdbpckobngmjaaSortedList
import Derived.Deep.QuietTactic
import Derived.Lib.RowBridge
import Derived.Test.YtgdbpckobngmjaaPartMem
import Derived.Maps.AppendAt
import Derived.Deep.RegionLaw
import Derived.Test.YtgdbpckobngmjaaRdIn
import Derived.Test.YtgdbpckobngmjaaAppendAny
import Derived.Test.YtgdbpckobngmjaaIterRows
namespace Go.Proofs.Ytgdbpckobngmjaa
open Go.RowKit

/-- What PartOf returns. -/
def partOf (s : ByteArray) (n : Int) : Int := if s.size ≤ 12 ∧ 1 ≤ n ∧ n ≤ 8 then fnv s.data.toList % n else -1
end Go.Proofs.Ytgdbpckobngmjaa

namespace Go.Proofs.Ytgdbpckobngmjaa
open Go.RowKit

/-- The bytes of strings. -/
def bytesL (ss : List ByteArray) : List (List UInt8) := ss.map fun s => s.data.toList
def keysB (rs : List RowV) : List ByteArray := rs.map RowV.key
theorem bytesL_enc (ss : List ByteArray) : (bytesL ss).map Go.Proofs.encStr = strC ss := by simp [bytesL, strC, Go.Proofs.encStr]
/-- The keys of the sorted rows. -/
def sortedK (rs : List RowV) : List (List UInt8) := bytesL (keysB (sortL rs))
theorem sortedK_length (rs : List RowV) : (sortedK rs).length = rs.length := by simp [sortedK, bytesL, keysB, sortL_length]
theorem notLess_key {r x : RowV} (h : r.less x = false) : x.key.data.toList ≤ r.key.data.toList := by
  rcases (notLess_iff r x).1 h with h | ⟨h, _⟩
  · exact List.le_of_lt h
  · rw [h]; exact List.le_refl _
theorem sortedK_sorted (rs : List RowV) : (sortedK rs).Pairwise (· ≤ ·) := by
  rw [sortedK, bytesL, keysB, List.map_map, List.pairwise_map]
  exact (sortL_asc rs).imp fun h => notLess_key h
theorem sortedK_get {rs : List RowV} {k : Nat} {r : RowV} (h : (sortL rs)[k]? = some r) : (sortedK rs)[k]? = some r.key.data.toList := by simp [sortedK, bytesL, keysB, h]
end Go.Proofs.Ytgdbpckobngmjaa

namespace Go.Proofs.Ytgdbpckobngmjaa
open Go.RowKit

/-- What is picked of the sorted keys. -/
def cutsL (K : List (List UInt8)) (n : Nat) : List (List UInt8) := (List.range (n - 1)).map fun j => K[(j + 1) * K.length / n]!
theorem cutsL_length (K : List (List UInt8)) (n : Nat) : (cutsL K n).length = n - 1 := by simp [cutsL]
theorem cutsL_get {K : List (List UInt8)} {n j : Nat} (h : j < n - 1) : (cutsL K n).toArray[j]! = K[(j + 1) * K.length / n]! := by
  rw [getElem!_pos _ j (by simpa [cutsL] using h)]; simp [cutsL]
theorem pick_lt {len n i : Nat} (hl : 0 < len) (hi : i < n) : i * len / n < len := by
  rw [Nat.div_lt_iff_lt_mul (by omega), Nat.mul_comm]
  exact Nat.mul_lt_mul_of_pos_left hi hl
/-- One pick is at most the next. -/
theorem cutsL_le {K : List (List UInt8)} {n j : Nat} (hK : K.Pairwise (· ≤ ·)) (hl : 0 < K.length) (h : j + 1 < n - 1) : (cutsL K n).toArray[j]! ≤ (cutsL K n).toArray[j + 1]! := by
  rw [cutsL_get (by omega), cutsL_get h]
  have h1 := pick_lt (i := j + 1) (n := n) hl (by omega)
  have h2 := pick_lt (i := j + 1 + 1) (n := n) hl (by omega)
  rw [getElem!_pos K _ h1, getElem!_pos K _ h2]
  have hle : (j + 1) * K.length / n ≤ (j + 1 + 1) * K.length / n := Nat.div_le_div_right (Nat.mul_le_mul_right _ (by omega))
  rcases Nat.lt_or_ge ((j + 1) * K.length / n) ((j + 1 + 1) * K.length / n) with hlt | hge
  · exact (List.pairwise_iff_getElem.1 hK) _ _ h1 h2 hlt
  · have e : (j + 1) * K.length / n = (j + 1 + 1) * K.length / n := by omega
    simp only [e]; exact List.le_refl _
theorem compact_last (d : Array (List UInt8)) : ∀ q, 0 < q → ∃ ys, Lib.compactUpTo d q = ys ++ [d[q - 1]!]
  | 0, h => absurd h (by omega)
  | q + 1, _ => by
    rw [Lib.compactUpTo_succ]
    by_cases hk : Lib.keeps d q = true
    · rw [if_pos hk]; exact ⟨_, rfl⟩
    · rw [if_neg hk, List.append_nil]
      have : ¬ (q = 0 ∨ d[q]! ≠ d[q - 1]!) := by simpa [Lib.keeps] using hk
      obtain ⟨h0, h1⟩ := not_or.1 this
      obtain ⟨ys, hy⟩ := compact_last d q (by omega)
      exact ⟨ys, by rw [hy, Nat.add_sub_cancel, Classical.not_not.1 h1]⟩
theorem compact_zero (d : Array (List UInt8)) : Lib.compactUpTo d 0 = [] := rfl
/-- What is kept is what is greater than the last. -/
theorem keeps_lt {d : Array (List UInt8)} {q : Nat} (hq : 0 < q) (hle : d[q - 1]! ≤ d[q]!) : Lib.keeps d q = Op.bytesLess d[q - 1]! d[q]! := by
  rw [bytesLess_eq, Bool.eq_iff_iff]
  simp only [Lib.keeps, decide_eq_true_eq]
  constructor
  · rintro (h | h)
    · omega
    · by_cases h' : d[q - 1]! < d[q]!
      · exact h'
      · exact absurd (List.le_antisymm (List.not_lt.1 h') hle) h
  · intro h
    right
    intro e
    rw [e] at h
    exact List.lt_irrefl _ h
/-- The cuts. -/
def cutsR (rs : List RowV) (n : Nat) : List (List UInt8) := if rs.length = 0 then [] else Lib.compact (cutsL (sortedK rs) n)
end Go.Proofs.Ytgdbpckobngmjaa

namespace Go.Proofs.Ytgdbpckobngmjaa
open Go.RowKit

def inP (N : Int) : Bool := decide (1 ≤ N) && decide (N ≤ 8)
theorem l1In_b (N : Int) (b : Bool) (w : World) (h : inP N = b) : Calls Try.prog 66 #[.int .i64 N, .int .i64 1, .int .i64 8] w fun e w' => e = .returned (.bool b) ∧ Below w.heap.size w w' := by
  unfold inP at h
  have E := Lib.hid h
  clear h
  by_cases h1 : 1 ≤ N
  · have d1 : decide (1 ≤ N) = true := by simp [h1]
    go_enter Try.func66, Try.ntmps66
    go_wp2
    go_ret
    exact ⟨ret_bool (by rw [← E.out, d1, Bool.true_and]), Below.refl _ _⟩
  · have d1 : decide (1 ≤ N) = false := by simp [h1]
    go_enter Try.func66, Try.ntmps66
    go_wp2
    go_ret
    exact ⟨ret_bool (by rw [← E.out, d1, Bool.false_and]), Below.refl _ _⟩
/-- What CutsOf returns: nil and false, or the cuts in memory of its own. -/
def CutsOut (rs : List RowV) (N : Int) (w : World) (e : Ending) (w' : World) : Prop :=
  ∃ a m c, e = .returned (.tuple #[.slice a m c, .bool (rowsOk rs && inP N)]) ∧ Below w.heap.size w w' ∧ w'.ownsRow w.heap.size 9 1 (.slice a m c) m ((if (rowsOk rs && inP N) = true then cutsR rs N.toNat else []).map encStr)
theorem own_none (w : World) (base : Nat) : w.ownsRow base 9 1 (.slice none 0 0) 0 (([] : List (List UInt8)).map encStr) := World.ownsRow_nil w base _ _
/-- The place of a pick, as the program reckons it. -/
theorem pick_facts {K : List (List UInt8)} {k n M : Nat} (hk : k + 1 < M) (hM : M ≤ 8) (hn : 0 < n) (hm : n ≤ 1048576) (hl : K.length = n) :
    ∃ (Q : Nat) (s : List UInt8), Q < n ∧ (wrap64 (((k : Int) + 1) * (n : Int)) = ((k : Int) + 1) * (n : Int) ∧ wrap64 ((((k : Int) + 1) * (n : Int)).tdiv (M : Int)) = (Q : Int)) ∧ Q = (k + 1) * n / M ∧ K[(k + 1) * n / M]? = some s := by
  have hQ : (k + 1) * n / M < n := pick_lt hn hk
  have e1 : ((k : Int) + 1) * (n : Int) = (((k + 1) * n : Nat) : Int) := by push_cast; rfl
  have hb : (k + 1) * n ≤ 8 * 1048576 := Nat.mul_le_mul (by omega) hm
  have e2 : (((k + 1) * n : Nat) : Int).tdiv (M : Int) = (((k + 1) * n / M : Nat) : Int) := rfl
  refine ⟨(k + 1) * n / M, K[(k + 1) * n / M]'(by omega), hQ, ⟨?_, ?_⟩, rfl, List.getElem?_eq_getElem (by omega)⟩
  · rw [e1]; generalize (k + 1) * n = P at *; unfold wrap64; omega
  · rw [e1, e2]; generalize (k + 1) * n / M = P at *; unfold wrap64; omega
theorem keyAt {K : List (List UInt8)} {Q : Nat} {s : List UInt8} (h : K[Q]? = some s) : (K.map encStr)[Q]? = some (.string ⟨s.toArray⟩) := by simp [h]
theorem cuts_take_succ {K : List (List UInt8)} {k n M : Nat} {s : List UInt8} (hk : k < M - 1) (h : K[(k + 1) * n / M]? = some s) (hl : K.length = n) : ((cutsL K M).take k).map encStr ++ [.string ⟨s.toArray⟩] = ((cutsL K M).take (k + 1)).map encStr := by
  have hkl : k < (cutsL K M).length := by rw [cutsL_length]; exact hk
  rw [List.take_succ_eq_append_getElem hkl, List.map_append]
  have : (cutsL K M)[k] = s := by
    have h1 := (List.getElem?_eq_some_iff.1 h).1
    simp only [cutsL, List.getElem_map, List.getElem_range, hl]
    rw [getElem!_pos K _ h1]
    rw [List.getElem?_eq_getElem h1] at h; injection h
  rw [this]; rfl
theorem own_compact {w : World} {base e g cap q : Nat} {zs ts rest : List (List UInt8)} (h : w.ownsRow base e 1 (.slice (some ⟨g, 0, none⟩) zs.length cap) zs.length (zs.map encStr)) (hl : (ts ++ rest).length = zs.length) :
    (Sort.putRow encStr (Sort.ahead w q) g 0 (ts ++ rest).toArray).ownsRow base e 1 (.slice (some ⟨g, 0, none⟩) ts.length cap) ts.length (ts.map encStr) ∧ w.grownBy (Sort.putRow encStr (Sort.ahead w q) g 0 (ts ++ rest).toArray) (some g) := by
  rcases h.2 with ⟨h0, _⟩ | ⟨g', cap', cur, hv, hgb, hbk, h1, h2, h3, h4⟩
  · cases h0
  obtain ⟨rfl, rfl⟩ : g = g' ∧ cap = cap' := by injection hv with e1 _ e3; injection e1 with e1; injection e1 with e1; exact ⟨e1, e3⟩
  have hh := heap_sorted (n := q) (os := #[]) (ts ++ rest).toArray hbk
  have hg := grownBy_sorted (w := w) (g := g) (n := q) (os := #[]) (ts ++ rest).toArray
  rw [Sort.grow_empty] at hh hg
  refine ⟨⟨by simp, .inr ⟨g, cap, _, rfl, hgb, hh, ?_, h2, by simp [Sort.putCells, h3], ?_⟩⟩, hg⟩
  · have : ts.length ≤ (ts ++ rest).length := by simp
    omega
  · have ht := take_putCells cur (ts ++ rest) (by omega)
    rw [Nat.mul_one]
    have e : ((Sort.putCells encStr 0 (ts ++ rest).toArray cur).toList.take (ts ++ rest).length).take ts.length = (Sort.putCells encStr 0 (ts ++ rest).toArray cur).toList.take ts.length := by
      rw [List.take_take, Nat.min_eq_left (by simp)]
    rw [← e, ht]; simp
end Go.Proofs.Ytgdbpckobngmjaa

namespace Go.Proofs.Ytgdbpckobngmjaa
open Go.RowKit

/-- The rows by their lists: list i has the rows whose number is i, in order. -/
def partsL (f : RowV → Nat) (n : Nat) (l : List RowV) : List (List RowV) := (List.range n).map fun i => l.filter fun r => f r == i
theorem partsL_length (f : RowV → Nat) (n : Nat) (l : List RowV) : (partsL f n l).length = n := by simp [partsL]
theorem partsL_get {f : RowV → Nat} {n i : Nat} {l : List RowV} (h : i < n) : (partsL f n l)[i]? = some (l.filter fun r => f r == i) := by simp [partsL, h]
theorem partsL_step {f : RowV → Nat} {n : Nat} {l : List RowV} {r : RowV} (h : f r < n) : (partsL f n l).set (f r) ((l.filter fun x => f x == f r) ++ [r]) = partsL f n (l ++ [r]) := by
  apply List.ext_getElem?
  intro i
  by_cases e : f r = i
  · subst e
    rw [List.getElem?_set_self (by rw [partsL_length]; exact h), partsL_get h]
    simp
  · rw [List.getElem?_set_ne e]
    rcases Nat.lt_or_ge i n with hi | hi
    · rw [partsL_get hi, partsL_get hi]
      simp [e]
    · rw [List.getElem?_eq_none (by rw [partsL_length]; exact hi), List.getElem?_eq_none (by rw [partsL_length]; exact hi)]
theorem partsL_nil (f : RowV → Nat) (n : Nat) : partsL f n [] = List.replicate n [] := by
  unfold partsL
  simp only [List.filter_nil]
  rw [List.map_const']
  simp
theorem filter_le_take {f : RowV → Nat} {i k : Nat} {l : List RowV} : ((l.take k).filter fun r => f r == i).length ≤ k := Nat.le_trans (List.length_filter_le _ _) (by simp; omega)
theorem rowsIn_replicate (n : Nat) : rowsIn (List.replicate n []) = 0 := by
  induction n with
  | zero => rfl
  | succ n ih => rw [List.replicate_succ, rowsIn, ih]; rfl
theorem rowsIn_set {ps : List (List RowV)} {i : Nat} {a b : List RowV} (h : ps[i]? = some a) : rowsIn (ps.set i b) + a.length = rowsIn ps + b.length := by
  induction ps generalizing i with
  | nil => simp at h
  | cons r ps ih =>
    cases i with
    | zero => simp at h; subst h; simp only [List.set_cons_zero, rowsIn]; omega
    | succ i =>
      have := ih (i := i) (by simpa using h)
      simp only [List.set_cons_succ, rowsIn]
      omega
theorem rowsIn_partsL (f : RowV → Nat) (n : Nat) (l : List RowV) (h : ∀ r ∈ l, f r < n) : rowsIn (partsL f n l) = l.length := by
  rcases List.eq_nil_or_concat l with rfl | ⟨l', r, rfl⟩
  · rw [partsL_nil, rowsIn_replicate]; rfl
  · rw [List.concat_eq_append] at h ⊢
    have hr := h r (by simp)
    have ih := rowsIn_partsL f n l' (fun x hx => h x (by simp [hx]))
    have h1 := rowsIn_set (b := (l'.filter fun x => f x == f r) ++ [r]) (partsL_get (f := f) (l := l') hr)
    rw [partsL_step hr, ih] at h1
    simp at h1 ⊢
    omega
termination_by l.length
decreasing_by simp_all
theorem Fam.nils (w : World) (lo n : Nat) : Fam w lo (List.replicate n (.slice none 0 0)) (List.replicate n []) := by
  refine ⟨by simp, ?_, ?_⟩
  · intro i v rs hv hr
    have e1 : v = .slice none 0 0 := by
      have := List.mem_of_getElem? hv
      exact (List.mem_replicate.1 this).2
    have e2 : rs = [] := by
      have := List.mem_of_getElem? hr
      exact (List.mem_replicate.1 this).2
    subst e1 e2
    exact World.ownsRow_nil w lo _ _
  · intro i j v u g _ hv _ hg
    have e1 : v = .slice none 0 0 := (List.mem_replicate.1 (List.mem_of_getElem? hv)).2
    subst e1
    cases hg
/-- The list p is written anew; its slice is stored into the outer list. -/
theorem POwn.put {w w' : World} {lo g n c p : Nat} {vs : List Value} {ps : List (List RowV)} {v v' : Value} {rs' : List RowV} (h : POwn w lo (some ⟨g, 0, none⟩) n c vs ps) (hv : vs[p]? = some v) (hg : w.grownBy w' v.ownBlock) (hO : w'.ownsRow lo 68 3 v' rs'.length (flat rs')) (hat : v'.ownBlock = v.ownBlock ∨ v'.ownBlock = some w.heap.size) : POwn (w'.setCell ⟨g, p, none⟩ v') lo (some ⟨g, 0, none⟩) n c (vs.set p v') (ps.set p rs') := by
  have hmem := List.mem_of_getElem? hv
  have hgo : (Value.slice (some ⟨g, 0, none⟩) n c).ownBlock = some g := rfl
  have hgw := (own_ge h.outer g hgo).2
  have F := h.fam.set hv hg hO (hat.imp id fun e g' hg' => by rw [e] at hg'; injection hg' with e'; omega)
  have ho : w'.ownsRow lo 50 1 (.slice (some ⟨g, 0, none⟩) n c) n vs := own_other h.outer hg (fun g' h1 h2 => h.out v hmem g' h2 h1)
  have hout : ∀ u ∈ vs.set p v', ∀ g', u.ownBlock = some g' → (Value.slice (some ⟨g, 0, none⟩) n c).ownBlock ≠ some g' := by
    intro u hu g' hg' he
    rw [hgo] at he
    injection he with he
    rcases List.mem_or_eq_of_mem_set hu with hu | rfl
    · exact h.out u hu g' hg' (by rw [hgo, he])
    · rcases hat with e | e
      · exact h.out v hmem g' (e ▸ hg') (by rw [hgo, he])
      · rw [e] at hg'; injection hg' with e'; omega
  refine ⟨(ho.stored p v').1, ⟨F.len, fun i u rs hu hr => ?_, F.sep⟩, hout⟩
  refine own_other (F.own i u rs hu hr) (gb_store (World.grownBy.refl w' (some g)) p v') (fun g' h1 h2 => ?_)
  injection h2 with h2
  exact hout u (List.mem_of_getElem? hu) g' h1 (by rw [hgo, h2])
theorem infoPart : (Try.prog.info? 50).map (fun i => (i.zero, i.size, i.bytes)) = some (some (.agg #[.slice none 0 0]), 1, 24) := by kernel_rfl
theorem made_parts (n : Nat) : (madeCells (Value.agg #[.slice none 0 0]).cells (n * 1)).toList = List.replicate n (.slice none 0 0) := by
  have h : ∀ x : Nat, [Value.slice none 0 0][x % 1]?.getD default = Value.slice none 0 0 := fun x => by rw [Nat.mod_one]; rfl
  simp [madeCells, Value.cells, h]
  exact (List.map_const' ..).trans (by rw [List.length_range])
/-- append to an owned slice, as one step of a region that draws its order. -/
theorem step_append_own_at {P : Program} {ops : Array Oper} {o : Oper} {a : Act} {w : World} {K : Act → World → Prop} {Q : Exit → Act → World → Prop} {E : Prop}
    (hgd : o.guard = none) (s x : Operand) (t : TypeId) (hop : o.op = Op.call { callee := Callee.builtin Builtin.append, args := #[s, x], argTypes := #[t, t] })
    (base : Nat) (e : TypeId) (i : TypeInfo) (z : Value) (size bytes : Nat) (ht : P.underlying t = some (.slice e)) (hi : P.info? e = some i) (hz : i.zero = some z)
    (hsize : i.size = size) (hby : i.bytes = bytes) (hzs : z.cells.size = size) (hsz : 0 < size)
    (v : Value) (n : Nat) (xs : List Value) (hs : a.eval s = v) (hown : w.ownsRow base e size v n xs)
    (ad : Addr) (m c : Nat) (news : List Value) (hx : a.eval x = .slice (some ad) m c) (hl : news.length = m * size) (hnews : ∀ j u, news[j]? = some u → w.cell? (ad.add j) = some u) (h1 : ∀ u ∈ news, u.oneCell' = true)
    (h63 : n + m ≤ maxLen) (hbytes : (n + m) * bytes ≤ 140737488355328) (hbase : base ≤ w.heap.size)
    (h : ∀ v' w', w'.ownsRow base e size v' (n + m) (xs ++ news) → w.grownBy w' v.ownBlock → (v'.ownBlock = v.ownBlock ∨ v'.ownBlock = some w.heap.size) → K (a.put o.dst v') w') :
    if Region.wanted o (yielded ops a.tmps) = true then Oper.wp P o a w K Q else E := by
  have hw : Region.wanted o (yielded ops a.tmps) = true := by simp [Region.wanted, hgd]
  rw [if_pos hw]
  obtain ⟨v', w', hr, h2, h3, h4, h5⟩ := run_append_own_at (P := P) w base t o.type e i z size bytes ht hi hz hsize hby hzs hsz v n xs hown ad m c news hl hnews h1 h63 hbytes hbase
  unfold Oper.wp
  simp [execOp, hop, resolve, invoke, builtin, hs, hx, hr, Result.andThen]
  exact h v' w' h2 h3 h5
theorem row_new (w : World) (r : RowV) (t : TypeId) : ∀ j u, [Value.string r.key, .int .i64 r.tag, .string r.val][j]? = some u → (w.alloc (.cells #[.string r.key, .int .i64 r.tag, .string r.val] t)).cell? ((⟨w.heap.size, 0, none⟩ : Addr).add j) = some u := by
  intro j u hj
  match j, hj with
  | 0, hj => simp at hj; subst hj; simp [Addr.add, go_sem]
  | 1, hj => simp at hj; subst hj; simp [Addr.add, go_sem]
  | 2, hj => simp at hj; subst hj; simp [Addr.add, go_sem]
theorem row_one (r : RowV) : ∀ u ∈ [Value.string r.key, .int .i64 r.tag, .string r.val], u.oneCell' = true := by
  intro u hu
  simp at hu
  rcases hu with rfl | rfl | rfl <;> rfl
/-- The number of a row's part. -/
def partF (M : Nat) (r : RowV) : Nat := (fnv r.key.data.toList).toNat % M
theorem partF_int {M : Nat} (hM : 0 < M) (r : RowV) : fnv r.key.data.toList % (M : Int) = (partF M r : Int) ∧ partF M r < M := by
  have := fnv_bd r.key.data.toList
  refine ⟨?_, Nat.mod_lt _ hM⟩
  unfold partF
  generalize fnv r.key.data.toList = z at *
  obtain ⟨k, rfl⟩ : ∃ k : Nat, z = k := ⟨z.toNat, by omega⟩
  simp
end Go.Proofs.Ytgdbpckobngmjaa

namespace Go.Proofs.Ytgdbpckobngmjaa
open Go.RowKit
def gcells (gs : List (ByteArray × Value)) : List Value := gs.flatMap fun g => [.string g.1, g.2]
theorem gcells_length (gs : List (ByteArray × Value)) : (gcells gs).length = gs.length * 2 := by
  induction gs with
  | nil => rfl
  | cons g gs ih =>
    have e : gcells (g :: gs) = .string g.1 :: g.2 :: gcells gs := rfl
    rw [e, List.length_cons, List.length_cons, ih, List.length_cons]
    omega
theorem gcells_snoc (gs : List (ByteArray × Value)) (k : ByteArray) (v : Value) : gcells (gs ++ [(k, v)]) = gcells gs ++ [.string k, v] := by simp [gcells]
theorem gcells_at : ∀ (gs : List (ByteArray × Value)) (i : Nat) (g : ByteArray × Value), gs[i]? = some g → (gcells gs)[i * 2]? = some (.string g.1) ∧ (gcells gs)[i * 2 + 1]? = some g.2
  | [], _, _, h => by simp at h
  | x :: gs, 0, g, h => by
    rw [List.getElem?_cons_zero] at h
    injection h with h
    subst h
    exact ⟨rfl, rfl⟩
  | x :: gs, i + 1, g, h => by
    rw [List.getElem?_cons_succ] at h
    have ih := gcells_at gs i g h
    have e : gcells (x :: gs) = .string x.1 :: x.2 :: gcells gs := rfl
    rw [e, show (i + 1) * 2 = i * 2 + 1 + 1 by omega, List.getElem?_cons_succ, List.getElem?_cons_succ, List.getElem?_cons_succ, List.getElem?_cons_succ]
    exact ih
theorem gcells_set : ∀ (gs : List (ByteArray × Value)) (i : Nat) (k : ByteArray) (v v' : Value), gs[i]? = some (k, v) → (gcells gs).set (i * 2 + 1) v' = gcells (gs.set i (k, v'))
  | [], _, _, _, _, h => by simp at h
  | x :: gs, 0, k, v, v', h => by
    rw [List.getElem?_cons_zero] at h
    injection h with h
    subst h
    rfl
  | x :: gs, i + 1, k, v, v', h => by
    rw [List.getElem?_cons_succ] at h
    have ih := gcells_set gs i k v v' h
    have e : gcells (x :: gs) = .string x.1 :: x.2 :: gcells gs := rfl
    rw [e, show (i + 1) * 2 + 1 = (i * 2 + 1) + 1 + 1 by omega, List.set_cons_succ, List.set_cons_succ, ih, List.set_cons_succ]
    rfl
/-- One slice is replaced by one in a new block. -/
theorem Fam.renew {w w' : World} {lo i : Nat} {vs : List Value} {ps : List (List RowV)} {v' : Value} {rs' : List RowV} (h : Fam w lo vs ps) (hi : i < vs.length) (hb : Below w.heap.size w w') (hO : w'.ownsRow lo 68 3 v' rs'.length (flat rs')) (hat : ∀ g, v'.ownBlock = some g → w.heap.size ≤ g) : Fam w' lo (vs.set i v') (ps.set i rs') := by
  have old : ∀ (j : Nat) (u : Value) (g : Nat), vs[j]? = some u → u.ownBlock = some g → g < w.heap.size := by
    intro j u g hu hug
    have hj' := (List.getElem?_eq_some_iff.1 hu).1
    obtain ⟨a, c, rs, h1, _, h3⟩ := h.at_ (i := j) (by rw [← h.len]; exact hj')
    rw [h1] at hu
    injection hu with hu
    rw [← hu] at hug
    exact (own_ge h3 g hug).2
  have F := h.below hb
  refine ⟨by simp [h.len], ?_, ?_⟩
  · intro j u rs hu hr
    by_cases e : i = j
    · subst e
      rw [List.getElem?_set_self hi] at hu
      rw [List.getElem?_set_self (by rw [← h.len]; exact hi)] at hr
      injection hu with hu; injection hr with hr
      subst hu hr
      exact hO
    · rw [List.getElem?_set_ne e] at hu hr
      exact F.own j u rs hu hr
  · intro j k u z g hjk hu hz hg' hzg
    by_cases e : i = j
    · subst e
      rw [List.getElem?_set_self hi] at hu
      injection hu with hu
      subst hu
      rw [List.getElem?_set_ne hjk] at hz
      have := old k z g hz hzg
      have := hat g hg'
      omega
    · rw [List.getElem?_set_ne e] at hu
      by_cases e2 : i = k
      · subst e2
        rw [List.getElem?_set_self hi] at hz
        injection hz with hz
        subst hz
        have := old j u g hu hg'
        have := hat g hzg
        omega
      · rw [List.getElem?_set_ne e2] at hz
        exact h.sep j k u z g hjk hu hz hg' hzg
structure GOwn (w : World) (lo : Nat) (a : Option Addr) (n c : Nat) (gs : List (ByteArray × Value)) (G : List (ByteArray × List RowV)) : Prop where
  outer : w.ownsRow lo 66 2 (.slice a n c) n (gcells gs)
  keys : gs.map (·.1) = G.map (·.1)
  fam : Fam w lo (gs.map (·.2)) (G.map (·.2))
  out : ∀ v ∈ gs.map (·.2), ∀ g, v.ownBlock = some g → (Value.slice a n c).ownBlock ≠ some g
theorem GOwn.below {w w' : World} {lo n c : Nat} {a : Option Addr} {gs : List (ByteArray × Value)} {G : List (ByteArray × List RowV)} (h : GOwn w lo a n c gs G) (hb : Below w.heap.size w w') : GOwn w' lo a n c gs G := ⟨own_below h.outer hb, h.keys, h.fam.below hb, h.out⟩
theorem GOwn.len {w : World} {lo n c : Nat} {a : Option Addr} {gs : List (ByteArray × Value)} {G : List (ByteArray × List RowV)} (h : GOwn w lo a n c gs G) : gs.length = n ∧ G.length = n := by
  have h1 := h.outer.1
  rw [gcells_length] at h1
  have h2 := congrArg List.length h.keys
  rw [List.length_map, List.length_map] at h2
  omega
/-- One more group at the end. -/
theorem GOwn.snoc {w w3 w4 : World} {lo n c n' c' : Nat} {a a' : Option Addr} {gs : List (ByteArray × Value)} {G : List (ByteArray × List RowV)} {k : ByteArray} {v : Value} {rs : List RowV} (h : GOwn w lo a n c gs G) (hlo : lo ≤ w.heap.size) (hb : Below w.heap.size w w3)
    (hO3 : w3.ownsRow w.heap.size 68 3 v rs.length (flat rs)) (hg4 : w3.grownBy w4 (Value.slice a n c).ownBlock) (hO4 : w4.ownsRow lo 66 2 (.slice a' n' c') n' (gcells gs ++ [.string k, v]))
    (hat : (Value.slice a' n' c').ownBlock = (Value.slice a n c).ownBlock ∨ (Value.slice a' n' c').ownBlock = some w3.heap.size) : GOwn w4 lo a' n' c' (gs ++ [(k, v)]) (G ++ [(k, rs)]) := by
  have hv : ∀ g, v.ownBlock = some g → w.heap.size ≤ g := fun g e => (own_ge hO3 g e).1
  have F := h.fam.snoc hb (own_base' hO3 hlo) hv
  have hne : ∀ u ∈ gs.map (·.2) ++ [v], ∀ g, u.ownBlock = some g → (Value.slice a n c).ownBlock ≠ some g := by
    intro u hu g hg
    rcases List.mem_append.1 hu with hu | hu
    · exact h.out u hu g hg
    · rw [List.mem_singleton] at hu
      subst hu
      intro e
      have h1 := (own_ge h.outer g e).2
      have h2 := hv g hg
      omega
  have e1 : (gs ++ [(k, v)]).map (·.2) = gs.map (·.2) ++ [v] := by simp
  have e2 : (G ++ [(k, rs)]).map (·.2) = G.map (·.2) ++ [rs] := by simp
  refine ⟨by rw [gcells_snoc]; exact hO4, by rw [List.map_append, List.map_append, h.keys]; rfl, ?_, ?_⟩
  · rw [e1, e2]
    exact ⟨F.len, fun i u rs' hu hr => own_other (F.own i u rs' hu hr) hg4 (fun g h1 h2 => hne u (List.mem_of_getElem? hu) g h1 h2), F.sep⟩
  · rw [e1]
    intro u hu g hg
    rcases hat with e | e
    · rw [e]; exact hne u hu g hg
    · rw [e]
      intro e2
      injection e2 with e2
      obtain ⟨i, hi⟩ := List.getElem?_of_mem hu
      have hil : i < (G.map (·.2) ++ [rs]).length := by
        have := (List.getElem?_eq_some_iff.1 hi).1
        rw [F.len] at this
        exact this
      have := F.own i u _ hi (List.getElem?_eq_getElem hil)
      have := (own_ge this g hg).2
      omega
/-- The slice of a group is made anew, in a new block, and stored. -/
theorem GOwn.put {w w3 : World} {lo n c g p : Nat} {gs : List (ByteArray × Value)} {G : List (ByteArray × List RowV)} {k : ByteArray} {v v' : Value} {rs' : List RowV} (h : GOwn w lo (some ⟨g, 0, none⟩) n c gs G) (hlo : lo ≤ w.heap.size) (hv : gs[p]? = some (k, v)) (hb : Below w.heap.size w w3)
    (hO : w3.ownsRow w.heap.size 68 3 v' rs'.length (flat rs')) : GOwn (w3.setCell ⟨g, p * 2 + 1, none⟩ v') lo (some ⟨g, 0, none⟩) n c (gs.set p (k, v')) (G.set p (k, rs')) := by
  have hgo : (Value.slice (some ⟨g, 0, none⟩) n c).ownBlock = some g := rfl
  have hgw := (own_ge h.outer g hgo).2
  have hp := (List.getElem?_eq_some_iff.1 hv).1
  have hat : ∀ g, v'.ownBlock = some g → w.heap.size ≤ g := fun g e => (own_ge hO g e).1
  have F := h.fam.renew (i := p) (by rw [List.length_map]; exact hp) hb (own_base' hO hlo) hat
  have hout : ∀ u ∈ (gs.map (·.2)).set p v', ∀ g', u.ownBlock = some g' → (Value.slice (some ⟨g, 0, none⟩) n c).ownBlock ≠ some g' := by
    intro u hu g' hg' he
    rw [hgo] at he
    injection he with he
    rcases List.mem_or_eq_of_mem_set hu with hu | rfl
    · exact h.out u hu g' hg' (by rw [hgo, he])
    · have := hat g' hg'; omega
  have e1 : (gs.set p (k, v')).map (·.2) = (gs.map (·.2)).set p v' := by rw [List.map_set]
  have e2 : (G.set p (k, rs')).map (·.2) = (G.map (·.2)).set p rs' := by rw [List.map_set]
  have hk : (G.map (·.1))[p]? = some k := by rw [← h.keys, List.getElem?_map, hv]; rfl
  refine ⟨?_, ?_, ?_, ?_⟩
  · rw [← gcells_set gs p k v v' hv]
    exact ((own_below h.outer hb).stored (p * 2 + 1) v').1
  · rw [List.map_set, List.map_set, h.keys]
  · rw [e1, e2]
    refine ⟨F.len, fun i u rs hu hr => ?_, F.sep⟩
    refine own_other (F.own i u rs hu hr) (gb_store (World.grownBy.refl w3 (some g)) (p * 2 + 1) v') (fun g' h1 h2 => ?_)
    injection h2 with h2
    exact hout u (List.mem_of_getElem? hu) g' h1 (by rw [hgo, h2])
  · rw [e1]; exact hout
end Go.Proofs.Ytgdbpckobngmjaa

namespace Go.Proofs.Ytgdbpckobngmjaa
open Go.RowKit
/-- Groups that are read, in blocks from lo up to hi. -/
def GIn (w : World) (lo hi : Nat) (a : Option Addr) (G : List (ByteArray × List RowV)) : Prop :=
  ∀ (i : Nat) (key : ByteArray) (rs : List RowV), G[i]? = some (key, rs) → ∃ b ra rc, a = some ⟨b, 0, none⟩ ∧ lo ≤ b ∧ b < hi ∧ w.cell? ⟨b, i * 2, none⟩ = some (.string key) ∧ w.cell? ⟨b, i * 2 + 1, none⟩ = some (.slice ra rs.length rc) ∧ rs.length ≤ rc ∧ RdIn w lo hi 3 ra rs.length (flat rs)
theorem GIn.of_own {w : World} {lo n c : Nat} {a : Option Addr} {gs : List (ByteArray × Value)} {G : List (ByteArray × List RowV)} (h : GOwn w lo a n c gs G) : GIn w lo w.heap.size a G := by
  intro i key rs hi
  have hil := (List.getElem?_eq_some_iff.1 hi).1
  obtain ⟨l1, l2⟩ := h.len
  obtain ⟨k2, v2⟩ : ∃ x, gs[i]? = some x := ⟨_, List.getElem?_eq_getElem (by omega)⟩
  obtain ⟨v2, hg⟩ : ∃ v, gs[i]? = some v := ⟨_, List.getElem?_eq_getElem (by omega)⟩
  obtain ⟨kk, vv⟩ := v2
  have hk : kk = key := by
    have e1 : (gs.map (·.1))[i]? = some kk := by rw [List.getElem?_map, hg]; rfl
    have e2 : (G.map (·.1))[i]? = some key := by rw [List.getElem?_map, hi]; rfl
    rw [h.keys, e2] at e1
    injection e1 with e1
    exact e1.symm
  subst hk
  have hO := h.fam.own i vv rs (by rw [List.getElem?_map, hg]; rfl) (by rw [List.getElem?_map, hi]; rfl)
  obtain ⟨va, vc, rfl, hc⟩ := own_slice2 hO
  obtain ⟨b, e, h1, h2⟩ := own_form h.outer (by omega)
  obtain ⟨c0, c1⟩ := gcells_at gs i _ hg
  have hsz := h.outer.1
  refine ⟨b, va, vc, e, h1, h2, ?_, ?_, hc, RdIn.of_own hO⟩
  · subst e
    rw [h.outer.cellAt (i * 2) (by omega)]; exact c0
  · subst e
    rw [h.outer.cellAt (i * 2 + 1) (by omega)]; exact c1
theorem GIn.below {w w' : World} {lo hi B : Nat} {a : Option Addr} {G : List (ByteArray × List RowV)} (h : GIn w lo hi a G) (hb : Below B w w') (hB : hi ≤ B) : GIn w' lo hi a G := by
  intro i key rs hi'
  obtain ⟨b, ra, rc, e, h1, h2, c0, c1, hc, hr⟩ := h i key rs hi'
  exact ⟨b, ra, rc, e, h1, h2, (hb.cell (p := ⟨b, i * 2, none⟩) (Nat.lt_of_lt_of_le h2 hB)).trans c0, (hb.cell (p := ⟨b, i * 2 + 1, none⟩) (Nat.lt_of_lt_of_le h2 hB)).trans c1, hc, hr.below hb hB⟩
theorem GIn.gb {w w' : World} {lo hi : Nat} {a : Option Addr} {G : List (ByteArray × List RowV)} {v : Value} (h : GIn w lo hi a G) (hg : w.grownBy w' v.ownBlock) (hi' : hi ≤ w.heap.size) (ha : Apart lo hi v) : GIn w' lo hi a G := by
  intro i key rs hx
  obtain ⟨b, ra, rc, e, h1, h2, c0, c1, hc, hr⟩ := h i key rs hx
  have hne : v.ownBlock ≠ some b := fun e' => by have := ha b e'; omega
  exact ⟨b, ra, rc, e, h1, h2, (World.cell?_of_block (a := ⟨b, i * 2, none⟩) (hg.block b (by omega) (fun e' => hne e'.symm))).trans c0, (World.cell?_of_block (a := ⟨b, i * 2 + 1, none⟩) (hg.block b (by omega) (fun e' => hne e'.symm))).trans c1, hc, hr.gb hg hi' ha⟩
end Go.Proofs.Ytgdbpckobngmjaa

namespace Go.Proofs.Ytgdbpckobngmjaa
open Go.RowKit Go.Shelf
attribute [local go_sem] Oper.semAt_some
/-- The groups of rows: each key with the rows that begin with it; no more than so many. -/
def groupsF : Nat → List RowV → List (ByteArray × List RowV)
  | 0, _ => []
  | _ + 1, [] => []
  | f + 1, r :: l => (r.key, leadL r.key (r :: l)) :: groupsF f ((r :: l).drop (leadN r.key (r :: l)))
def groupsR (l : List RowV) : List (ByteArray × List RowV) := groupsF l.length l
theorem leadN_pos (r : RowV) (l : List RowV) : 1 ≤ leadN r.key (r :: l) := by
  unfold leadN leadL
  rw [List.takeWhile_cons, if_pos (by simp)]
  simp
theorem groupsF_fuel : ∀ (f g : Nat) (l : List RowV), l.length ≤ f → l.length ≤ g → groupsF f l = groupsF g l
  | 0, 0, _, _, _ => rfl
  | 0, g + 1, [], _, _ => rfl
  | 0, g + 1, r :: l, h, _ => by simp at h
  | f + 1, 0, [], _, _ => rfl
  | f + 1, 0, r :: l, _, h => by simp at h
  | f + 1, g + 1, [], _, _ => rfl
  | f + 1, g + 1, r :: l, hf, hg => by
    have hp := leadN_pos r l
    rw [groupsF, groupsF, groupsF_fuel f g _ (by rw [List.length_drop]; omega) (by rw [List.length_drop]; omega)]
theorem groupsR_nil : groupsR [] = [] := rfl
theorem groupsR_next (r : RowV) (l : List RowV) : groupsR (r :: l) = (r.key, leadL r.key (r :: l)) :: groupsR ((r :: l).drop (leadN r.key (r :: l))) := by
  have hp := leadN_pos r l
  unfold groupsR
  rw [List.length_cons, groupsF, groupsF_fuel l.length _ _ (by rw [List.length_drop, List.length_cons]; omega) (Nat.le_refl _)]
theorem groupsF_le : ∀ (f : Nat) (l : List RowV), (groupsF f l).length ≤ l.length
  | 0, _ => Nat.zero_le _
  | _ + 1, [] => Nat.le_refl _
  | f + 1, r :: l => by
    have hp := leadN_pos r l
    have ih := groupsF_le f ((r :: l).drop (leadN r.key (r :: l)))
    rw [List.length_drop] at ih
    rw [groupsF, List.length_cons]
    simp only [List.length_cons] at ih ⊢
    omega
/-- A stretch of rows with its key, where it lies. -/
structure GrpV where
  key : ByteArray
  a : Option Addr
  n : Nat
  c : Nat
  rows : List RowV
/-- One that can be read in a world. -/
def GrpIn (w : World) (B : Nat) : Type := {x : GrpV // Rd w B 3 x.a x.n (flat x.rows) ∧ x.n ≤ x.c ∧ x.n ≤ 1048576 ∧ ∃ b off, x.a = some ⟨b, off, none⟩}
def grpsOf {w : World} {B : Nat} (ys : List (GrpIn w B)) : List (ByteArray × List RowV) := ys.map fun x => (x.1.key, x.1.rows)
def grpV {w : World} {B : Nat} (x : GrpIn w B) : Array Value := #[.string x.1.key, .slice x.1.a x.1.n x.1.c]
set_option maxRecDepth 100000 in
set_option maxHeartbeats 2000000 in
theorem byKey1_in (n l Bl n₀ : Nat) (a : Option Addr) (len cap : Nat) (rs : List RowV) (w0 : World) (hm : len ≤ 1048576) (hlc : len ≤ cap) (J Jx : List (GrpIn w0 n₀) → World → Prop) (W : World) (hn₀ : n₀ ≤ W.heap.size) (hW : Below n₀ w0 W)
    (hY : ∀ pre x W1, J pre W1 → pre.length < rs.length → YieldAt Fence.wide (n - 1) Try.prog l (grpV x) W1 fun e W' =>
      (e = .returned (.bool true) ∧ J (pre ++ [x]) W' ∧ Below n₀ W1 W') ∨ (e = .returned (.bool false) ∧ Jx (pre ++ [x]) W'))
    (hBl : W.cell? ⟨Bl, 0, none⟩ = some (.slice a len cap)) (hR : Rd w0 n₀ 3 a len (flat rs)) (h0 : J [] W) :
    CallsIn Fence.wide n Try.prog 128 #[.func (.yield l) #[] #[], .pointer (some ⟨Bl, 0, none⟩)] W fun e W' => (∃ v, e = .returned v) ∧
      ((∃ ys, grpsOf ys = groupsR rs ∧ J ys W') ∨ (∃ pre, grpsOf pre <+: groupsR rs ∧ Jx pre W')) := by
  have hl := Lib.hid hR.rows_length
  have HR0 := Lib.hid hR
  have HW := Lib.hid hW
  generalize hT : groupsR rs = T
  have HT := Lib.hid hT
  clear hT hR hW
  refine callsIn_of_wp Try.func128 rfl trivial ?_ rfl
  simp only [Try.ntmps128, List.size_toArray, List.length_cons, List.length_nil, Nat.reduceAdd, Nat.reduceSub, Array.replicate_succ, Array.replicate_zero, List.push_toArray, List.append_toArray, List.nil_append, List.cons_append]
  gi_wp2
  gi_loopw [3] (fun v wr => ∃ (m : Nat) (ra : Option Addr) (rc : Nat) (R : List RowV) (ys : List (GrpIn w0 n₀)), v = .slice ra m rc ∧ m ≤ rc ∧ ys.length + m ≤ len ∧ Hid (Rd w0 n₀ 3 ra m (flat R)) ∧ Hid (T = grpsOf ys ++ groupsR R) ∧ J ys wr ∧ Below n₀ W wr)
    (fun v _ => match v with | .slice _ n _ => n | _ => 0)
  case atStart => exact ⟨len, _, _, rs, [], rfl, hlc, by simp, HR0, Lib.hid HT.out.symm, h0, Below.refl _ _⟩
  case round =>
    obtain ⟨m, ra, rc, R, ys, rfl, hmr, hym, HR, HG, hJs, hnx⟩ := hrel
    by_cases hm0 : m = 0
    · subst hm0
      have hRn : R = [] := List.length_eq_zero_iff.1 HR.out.rows_length
      have HG2 := Lib.hid (show grpsOf ys = T by rw [HG.out, hRn, groupsR_nil, List.append_nil])
      clear hRn
      gi_wp2
      go_end0
      exact ⟨⟨_, rfl⟩, .inl ⟨ys, HG2.out, hJs⟩⟩
    · have hRl : R.length = m := HR.out.rows_length
      obtain ⟨r, R', rfl⟩ : ∃ r R', R = r :: R' := by
        cases R with
        | nil => simp at hRl; omega
        | cons r R => exact ⟨r, R, rfl⟩
      have hRr := HR.out.below (HW.out.trans hnx) (Nat.le_refl _)
      obtain ⟨b, off, r', rfl, hB1, hrk, c0, _, _⟩ := hRr.row (show 0 < m by omega)
      obtain rfl : r = r' := by simpa using hrk
      clear hrk
      have hsz : n₀ ≤ wr.heap.size := Nat.le_trans hn₀ hnx.size
      have hq1 := leadN_pos r R'
      have hq2 := leadN_le r.key (r :: R')
      rw [hRl] at hq2
      have CL := leadingRows_any (some ⟨b, off, none⟩) m rc (r :: R') r.key wr (by omega) (hRr.more hsz)
      have HN := Lib.hid (groupsR_next r R')
      have HL := Lib.hid (lead_take (key := r.key) (r :: R'))
      have hm4 : 0 < m := by omega
      have hm5 : (0 : Int) < (m : Int) := by omega
      simp only [Nat.zero_mul, Nat.add_zero] at c0
      generalize hqe : leadN r.key (r :: R') = q at *
      have HQ := Lib.hid hqe
      clear hqe hRl
      have hq3 : (q : Int) ≤ (rc : Int) := by omega
      have hq4 : (0 : Int) ≤ (q : Int) := by omega
      have hq5 : (q : Int) ≤ (m : Int) := by omega
      have hxR : Rd w0 n₀ 3 (some ⟨b, off, none⟩) q (flat (leadL r.key (r :: R'))) := by
        rw [← HL.out]
        exact HR.out.head hq2
      have hxq : q ≤ rc ∧ q ≤ 1048576 ∧ ∃ b' off', some (⟨b, off, none⟩ : Addr) = some ⟨b', off', none⟩ := ⟨by omega, by omega, b, off, rfl⟩
      obtain ⟨x, hx⟩ : ∃ x : GrpIn w0 n₀, x = ⟨⟨r.key, some ⟨b, off, none⟩, q, rc, leadL r.key (r :: R')⟩, hxR, hxq⟩ := ⟨_, rfl⟩
      have hxe : grpsOf (ys ++ [x]) = grpsOf ys ++ [(r.key, leadL r.key (r :: R'))] := by
        unfold grpsOf
        rw [List.map_append, hx]
        rfl
      have HG2 := Lib.hid (show T = grpsOf (ys ++ [x]) ++ groupsR ((r :: R').drop q) by rw [HG.out, HN.out, hxe, List.append_assoc]; rfl)
      have efr : fromA (some ⟨b, off, none⟩) rc q = if rc = q then some ⟨b, off, none⟩ else some ⟨b, off + q * 3, none⟩ := by
        unfold fromA
        split
        · rfl
        · simp [Addr.add_mid]
      have HR2 := Lib.hid (show Rd w0 n₀ 3 (if rc = q then some ⟨b, off, none⟩ else some ⟨b, off + q * 3, none⟩) (m - q) (flat ((r :: R').drop q)) by rw [← efr]; exact HR.out.from_ hq2 hmr)
      clear efr
      obtain ⟨fn, tmps, assign, body, hy, hRd⟩ := hY ys x wr hJs (by rw [hl.out]; omega)
      rw [show grpV x = #[.string r.key, .slice (some ⟨b, off, none⟩) q rc] by rw [hx]; rfl] at hy
      have hlen : (ys ++ [x]).length + (m - q) ≤ len := by rw [List.length_append, List.length_singleton]; omega
      clear hx hxe HN HL HG hJs hY
      clear hxR hxq
      gi_wp2_with fail
      refine ⟨trivial, fun h => (by cases h), ?_⟩
      refine (callsIn_wide.2 CL).mono ?_
      rintro e w2 ⟨rfl, rfl⟩
      clear CL
      gi_wp2_with fail
      refine ⟨fun h => (by cases h), ?_⟩
      refine hRd.mono ?_
      rintro e W3 (⟨rfl, hJ3, hk3⟩ | ⟨rfl, hJx3⟩)
      · have hnx3 := hnx.trans hk3
        clear c0 hk3 hnx hRd hy
        gi_wp2_with fail
        go_roundw
        case rel => exact ⟨m - q, _, rc - q, (r :: R').drop q, ys ++ [x], rfl, by omega, hlen, HR2, HG2, hJ3, hnx3⟩
        case measure => simp; omega
      · clear c0 hnx hRd hy
        gi_wp2_with fail
        refine bodyPost_ret (results_none rfl _ _ _) rfl ?_
        exact ⟨⟨_, rfl⟩, .inr ⟨ys ++ [x], ⟨groupsR ((r :: R').drop q), HG2.out.symm⟩, hJx3⟩⟩
set_option maxRecDepth 100000 in
theorem byKey_any (a : Option Addr) (len cap : Nat) (w : World) :
    Calls Try.prog 95 #[.slice a len cap] w fun e w' => e = .returned (.func (.func 128) #[] #[.pointer (some ⟨w.heap.size, 0, none⟩)]) ∧ w' = w.alloc (.cells #[.slice a len cap] 27) := by
  go_enter Try.func95, Try.ntmps95
  go_wp2_with fail
  go_ret
  exact ⟨rfl, rfl⟩
/-- What byKey yields: the keys with their rows, in their order. -/
theorem byKey_stops (n Bl n₀ : Nat) (a : Option Addr) (len cap : Nat) (rs : List RowV) (hm : len ≤ 1048576) (hlc : len ≤ cap) (w : World) (hn₀ : n₀ ≤ w.heap.size)
    (hBl : w.cell? ⟨Bl, 0, none⟩ = some (.slice a len cap)) (hll : Bl < w.heap.size) (hR : Rd w n₀ 3 a len (flat rs)) :
    SeqStopsK Fence.wide n Try.prog 128 #[.pointer (some ⟨Bl, 0, none⟩)] (fun x : GrpIn w n₀ => grpV x) (Below n₀) (fun ys => grpsOf ys = groupsR rs) (fun pre => grpsOf pre <+: groupsR rs) rs.length w := fun l J Jx W hW _ _ hY h0 =>
  byKey1_in n l Bl n₀ a len cap rs w hm hlc J Jx W (Nat.le_trans hn₀ hW.size) (hW.mono hn₀) hY ((hW.cell (p := ⟨Bl, 0, none⟩) hll).trans hBl) hR h0
end Go.Proofs.Ytgdbpckobngmjaa

namespace Go.Proofs.Ytgdbpckobngmjaa
open Go.RowKit
def gstep (G : List (ByteArray × List RowV)) (r : RowV) : List (ByteArray × List RowV) :=
  match G.getLast? with
  | some g => if g.1 = r.key then G.dropLast ++ [(g.1, g.2 ++ [r])] else G ++ [(r.key, [r])]
  | none => [(r.key, [r])]
theorem gstep_nil (r : RowV) : gstep [] r = [(r.key, [r])] := rfl
theorem gstep_eq (G : List (ByteArray × List RowV)) (k : ByteArray) (l : List RowV) (r : RowV) (h : k = r.key) : gstep (G ++ [(k, l)]) r = G ++ [(k, l ++ [r])] := by
  unfold gstep
  rw [List.getLast?_concat]
  simp [h]
theorem gstep_ne (G : List (ByteArray × List RowV)) (k : ByteArray) (l : List RowV) (r : RowV) (h : ¬ k = r.key) : gstep (G ++ [(k, l)]) r = (G ++ [(k, l)]) ++ [(r.key, [r])] := by
  unfold gstep
  rw [List.getLast?_concat]
  simp [h]
theorem leadL_eq (r : RowV) (l : List RowV) {k : ByteArray} (h : r.key = k) : leadL k (r :: l) = r :: leadL k l := by
  unfold leadL
  rw [List.takeWhile_cons, if_pos (by simp [h])]
theorem leadL_ne (r : RowV) (l : List RowV) {k : ByteArray} (h : ¬ r.key = k) : leadL k (r :: l) = [] := by
  unfold leadL
  rw [List.takeWhile_cons, if_neg (by simp only [beq_iff_eq]; exact fun e => h (by rw [ByteArray.toList_eq, ByteArray.toList_eq] at e; exact ByteArray.ext (Array.toList_inj.1 e)))]
theorem groups_fold : ∀ (rs : List RowV) (G : List (ByteArray × List RowV)) (k : ByteArray) (l : List RowV), rs.foldl gstep (G ++ [(k, l)]) = G ++ (k, l ++ leadL k rs) :: groupsR (rs.drop (leadN k rs))
  | [], G, k, l => by simp [leadL, groupsR_nil]
  | r :: rs, G, k, l => by
    rw [List.foldl_cons]
    by_cases h : k = r.key
    · rw [gstep_eq G k l r h, groups_fold rs G k (l ++ [r])]
      have e := leadL_eq r rs h.symm
      have e2 : leadN k (r :: rs) = leadN k rs + 1 := by unfold leadN; rw [e]; rfl
      rw [e, e2, List.drop_succ_cons, List.append_assoc]
      rfl
    · rw [gstep_ne G k l r h, groups_fold rs (G ++ [(k, l)]) r.key [r]]
      have e := leadL_ne r rs (k := k) (fun x => h x.symm)
      have e2 : leadN k (r :: rs) = 0 := by unfold leadN; rw [e]; rfl
      have e3 := leadL_eq r rs rfl
      have e4 : leadN r.key (r :: rs) = leadN r.key rs + 1 := by unfold leadN; rw [e3]; rfl
      rw [e, e2, List.drop_zero, groupsR_next, e3, e4, List.drop_succ_cons, List.append_nil, List.append_assoc]
      rfl
theorem groups_steps (rs : List RowV) : rs.foldl gstep [] = groupsR rs := by
  cases rs with
  | nil => rfl
  | cons r rs =>
    rw [List.foldl_cons, gstep_nil]
    have := groups_fold rs [] r.key [r]
    rw [List.nil_append] at this
    have e3 := leadL_eq r rs rfl
    have e4 : leadN r.key (r :: rs) = leadN r.key rs + 1 := by unfold leadN; rw [e3]; rfl
    rw [this, groupsR_next, e3, e4, List.drop_succ_cons]
    rfl
/-- The groups of one row more. -/
theorem groups_snoc (rs : List RowV) (r : RowV) : groupsR (rs ++ [r]) = gstep (groupsR rs) r := by
  rw [← groups_steps, ← groups_steps, List.foldl_append]
  rfl
theorem gstep_le (G : List (ByteArray × List RowV)) (r : RowV) : (gstep G r).length ≤ G.length + 1 := by
  rcases List.eq_nil_or_concat G with rfl | ⟨G', g, rfl⟩
  · exact Nat.le_refl _
  · obtain ⟨k, l⟩ := g
    rw [List.concat_eq_append]
    by_cases h : k = r.key
    · rw [gstep_eq _ _ _ _ h]; simp
    · rw [gstep_ne _ _ _ _ h]; simp
end Go.Proofs.Ytgdbpckobngmjaa

namespace Go.Proofs.Ytgdbpckobngmjaa
open Go.RowKit
variable {a : Option Addr} {m : Nat} {l : List RowV}
/-- What stands ready for the second append, in the world W2, with the row at block s. -/
def Ready (w w3 W2 : World) (t : TypeId) (s : Nat) (v : Value) (n : Nat) (xs : List Value) (rk : ByteArray) (rt : Int) (rv : ByteArray) : Prop :=
  Below w.heap.size w w3 ∧ Hid (W2.ownsRow w.heap.size t 3 v n xs) ∧ Hid (∀ j u, [Value.string rk, .int .i64 rt, .string rv][j]? = some u → W2.cell? ((⟨s, 0, none⟩ : Addr).add j) = some u) ∧ Hid (Below w.heap.size w W2)
theorem arm_A (w : World) (rk : ByteArray) (rt : Int) (rv : ByteArray) (t : TypeId) (h : Rd w w.heap.size 3 a m (flat l)) :
    (w.alloc (.cells #[] t)).drew.ownsRow w.heap.size t 3 (.slice (some ⟨w.heap.size, 0, none⟩) 0 0) 0 [] ∧ Rd (w.alloc (.cells #[] t)).drew w.heap.size 3 a m (flat l) ∧ w.heap.size ≤ (w.alloc (.cells #[] t)).drew.heap.size ∧
      ∀ v n w3, w3.ownsRow w.heap.size t 3 v n ([] ++ flat l) → (w.alloc (.cells #[] t)).drew.grownBy w3 (Value.slice (some ⟨w.heap.size, 0, none⟩) 0 0).ownBlock →
        Ready w w3 (w3.alloc (.cells #[.string rk, .int .i64 rt, .string rv] t)) t w3.heap.size v n ([] ++ flat l) rk rt rv := by
  have hb : Below w.heap.size w (w.alloc (.cells #[] t)).drew := ((Below.refl _ w).alloc (Nat.le_refl _) _).drew
  refine ⟨(World.ownsRow_lit (base := w.heap.size) (e := t) (size := 3) w #[] 0 (Nat.le_refl _) (Nat.zero_le _) rfl).drew, h.below hb (Nat.le_refl _), hb.size, fun v n w3 hO hg => ?_⟩
  have hb3 := hb.grown hg hb.size (fun q e => by simp [Value.ownBlock] at e; omega)
  refine ⟨hb3, Lib.hid (hO.alloc _), Lib.hid fun j u hu => ?_, Lib.hid (hb3.alloc hb3.size _)⟩
  rw [Addr.add_mid, Nat.zero_add]
  rcases j with _ | _ | _ | j <;> simp at hu <;> subst hu <;> simp [go_sem]
theorem arm_B (w : World) (rk : ByteArray) (rt : Int) (rv : ByteArray) (t : TypeId) (h : Rd w w.heap.size 3 a m (flat l)) :
    ((w.alloc (.cells #[] t)).alloc (.cells #[.string rk, .int .i64 rt, .string rv] t)).drew.ownsRow w.heap.size t 3 (.slice (some ⟨w.heap.size, 0, none⟩) 0 0) 0 [] ∧ Rd ((w.alloc (.cells #[] t)).alloc (.cells #[.string rk, .int .i64 rt, .string rv] t)).drew w.heap.size 3 a m (flat l) ∧ w.heap.size ≤ ((w.alloc (.cells #[] t)).alloc (.cells #[.string rk, .int .i64 rt, .string rv] t)).drew.heap.size ∧
      ∀ v n w3, w3.ownsRow w.heap.size t 3 v n ([] ++ flat l) → ((w.alloc (.cells #[] t)).alloc (.cells #[.string rk, .int .i64 rt, .string rv] t)).drew.grownBy w3 (Value.slice (some ⟨w.heap.size, 0, none⟩) 0 0).ownBlock →
        Ready w w3 w3 t (w.heap.size + 1) v n ([] ++ flat l) rk rt rv := by
  have hb : Below w.heap.size w ((w.alloc (.cells #[] t)).alloc (.cells #[.string rk, .int .i64 rt, .string rv] t)).drew := (((Below.refl _ w).alloc (Nat.le_refl _) _).alloc (by simp) _).drew
  refine ⟨((World.ownsRow_lit (base := w.heap.size) (e := t) (size := 3) w #[] 0 (Nat.le_refl _) (Nat.zero_le _) rfl).alloc _).drew, h.below hb (Nat.le_refl _), hb.size, fun v n w3 hO hg => ?_⟩
  have hb3 := hb.grown hg hb.size (fun q e => by simp [Value.ownBlock] at e; omega)
  refine ⟨hb3, Lib.hid hO, Lib.hid fun j u hu => ?_, Lib.hid hb3⟩
  rw [Addr.add_mid, Nat.zero_add]
  refine (World.cell?_of_block (a := ⟨w.heap.size + 1, j, none⟩) (hg.block (w.heap.size + 1) (by simp) (fun e => by simp [Value.ownBlock] at e))).trans ?_
  rcases j with _ | _ | _ | j <;> simp at hu <;> subst hu <;> simp [go_sem]
theorem arm_C (w : World) (rk : ByteArray) (rt : Int) (rv : ByteArray) (t : TypeId) (h : Rd w w.heap.size 3 a m (flat l)) :
    ((w.alloc (.cells #[.string rk, .int .i64 rt, .string rv] t)).alloc (.cells #[] t)).drew.ownsRow w.heap.size t 3 (.slice (some ⟨w.heap.size + 1, 0, none⟩) 0 0) 0 [] ∧ Rd ((w.alloc (.cells #[.string rk, .int .i64 rt, .string rv] t)).alloc (.cells #[] t)).drew w.heap.size 3 a m (flat l) ∧ w.heap.size ≤ ((w.alloc (.cells #[.string rk, .int .i64 rt, .string rv] t)).alloc (.cells #[] t)).drew.heap.size ∧
      ∀ v n w3, w3.ownsRow w.heap.size t 3 v n ([] ++ flat l) → ((w.alloc (.cells #[.string rk, .int .i64 rt, .string rv] t)).alloc (.cells #[] t)).drew.grownBy w3 (Value.slice (some ⟨w.heap.size + 1, 0, none⟩) 0 0).ownBlock →
        Ready w w3 w3 t w.heap.size v n ([] ++ flat l) rk rt rv := by
  have hb : Below w.heap.size w ((w.alloc (.cells #[.string rk, .int .i64 rt, .string rv] t)).alloc (.cells #[] t)).drew := (((Below.refl _ w).alloc (Nat.le_refl _) _).alloc (by simp) _).drew
  have hl := (World.ownsRow_lit (base := w.heap.size) (e := t) (size := 3) (w.alloc (.cells #[.string rk, .int .i64 rt, .string rv] t)) #[] 0 (by simp) (Nat.zero_le _) rfl).drew
  rw [World.size_alloc] at hl
  refine ⟨hl, h.below hb (Nat.le_refl _), hb.size, fun v n w3 hO hg => ?_⟩
  have hb3 := hb.grown hg hb.size (fun q e => by simp [Value.ownBlock] at e; omega)
  refine ⟨hb3, Lib.hid hO, Lib.hid fun j u hu => ?_, Lib.hid hb3⟩
  rw [Addr.add_mid, Nat.zero_add]
  refine (World.cell?_of_block (a := ⟨w.heap.size, j, none⟩) (hg.block w.heap.size (by simp; omega) (fun e => by simp [Value.ownBlock] at e))).trans ?_
  rcases j with _ | _ | _ | j <;> simp at hu <;> subst hu <;> simp [go_sem]
end Go.Proofs.Ytgdbpckobngmjaa

namespace Go.Proofs.Ytgdbpckobngmjaa
open Go.RowKit
theorem infoGroup : (Try.prog.info? 66).map (fun i => (i.zero, i.size, i.bytes)) = some (some (.agg #[.string ⟨#[]⟩, .slice none 0 0]), 2, 40) := by kernel_rfl
theorem group_one (k : ByteArray) (a : Option Addr) (n c : Nat) : ∀ u ∈ [Value.string k, .slice a n c], u.oneCell' = true := by
  intro u hu
  simp only [List.mem_cons, List.not_mem_nil, or_false] at hu
  rcases hu with rfl | rfl <;> rfl
theorem group_lit (w : World) (k : ByteArray) (t : Int) (v : ByteArray) (tr tg : TypeId) : ∀ j u, [Value.string k, .slice (some ⟨w.heap.size, 0, none⟩) 1 1][j]? = some u →
    ((w.alloc (.cells #[.string k, .int .i64 t, .string v] tr)).alloc (.cells #[.string k, .slice (some ⟨w.heap.size, 0, none⟩) 1 1] tg)).drew.cell? ((⟨w.heap.size + 1, 0, none⟩ : Addr).add j) = some u := by
  intro j u hu
  rw [Addr.add_mid, Nat.zero_add]
  rcases j with _ | _ | j <;> simp at hu <;> subst hu <;> simp [go_sem]
theorem rows_cells {w wr : World} {lo b o : Nat} {rk rv : ByteArray} {rt : Int} (hb : Below lo w wr) (hB : b < lo) (c0 : wr.cell? ⟨b, o, none⟩ = some (.string rk)) (c1 : wr.cell? ⟨b, o + 1, none⟩ = some (.int .i64 rt)) (c2 : wr.cell? ⟨b, o + 2, none⟩ = some (.string rv)) :
    ∀ W, Below lo w W → W.cell? ⟨b, o, none⟩ = some (.string rk) ∧ W.cell? ⟨b, o + 1, none⟩ = some (.int .i64 rt) ∧ W.cell? ⟨b, o + 2, none⟩ = some (.string rv) := fun _ h =>
  ⟨(h.cell (p := ⟨b, o, none⟩) hB).trans ((hb.cell (p := ⟨b, o, none⟩) hB).symm.trans c0), (h.cell (p := ⟨b, o + 1, none⟩) hB).trans ((hb.cell (p := ⟨b, o + 1, none⟩) hB).symm.trans c1), (h.cell (p := ⟨b, o + 2, none⟩) hB).trans ((hb.cell (p := ⟨b, o + 2, none⟩) hB).symm.trans c2)⟩
theorem groups_len {rs : List RowV} {M p : Nat} {k : ByteArray} {l : List RowV} (hM : rs.length ≤ M) (h : (groupsR rs)[p]? = some (k, l)) : l.length ≤ M := by
  have key : ∀ (f : Nat) (rs : List RowV), ∀ g ∈ groupsF f rs, g.2.length ≤ rs.length := by
    intro f
    induction f with
    | zero => intro rs g hg; cases hg
    | succ f ih =>
      intro rs g hg
      cases rs with
      | nil => cases hg
      | cons r rs =>
        rw [groupsF] at hg
        rcases List.mem_cons.1 hg with rfl | hg
        · exact leadN_le r.key (r :: rs)
        · have := ih _ g hg
          rw [List.length_drop] at this
          omega
  have := key _ rs _ (List.mem_of_getElem? h)
  simp only at this
  omega
theorem flat_oneG (l : List RowV) : ∀ u ∈ flat l, u.oneCell' = true := by
  induction l with
  | nil => simp [flat]
  | cons r l ih =>
    intro u hu
    rw [flat_cons] at hu
    simp only [List.mem_cons] at hu
    rcases hu with rfl | rfl | rfl | hu
    · rfl
    · rfl
    · rfl
    · exact ih u hu
section
variable {w v W' : World} {lo : Nat} {C : World → Prop}
theorem gFirst (hC : ∀ W, Below lo w W → C W) (hb : Below lo w v) : C v.drew ∧ Below lo w v.drew := ⟨hC _ hb.drew, hb.drew⟩
theorem gNew {W : World} {o : Obj} (hC : ∀ W, Below w.heap.size w W → C W) (G : C W ∧ Below w.heap.size w W) : C (W.alloc o) ∧ Below w.heap.size w (W.alloc o) := ⟨hC _ (G.2.alloc G.2.size _), G.2.alloc G.2.size _⟩
theorem gIn (hC : ∀ W, Below lo w W → C W) (H : Below lo v W') (G : Below lo w v) : C W' ∧ Below lo w W' := ⟨hC _ (G.trans H), G.trans H⟩
theorem gSet {W : World} {b j : Nat} {x : Value} (hC : ∀ W, Below lo w W → C W) (hb : lo ≤ b) (G : C W ∧ Below lo w W) : C (W.setCell ⟨b, j, none⟩ x) ∧ Below lo w (W.setCell ⟨b, j, none⟩ x) := ⟨hC _ (G.2.setCell (p := ⟨b, j, none⟩) hb _), G.2.setCell (p := ⟨b, j, none⟩) hb _⟩
end
def GroupsOut (rs : List RowV) (w : World) (e : Ending) (w' : World) : Prop :=
  ∃ b c gs, e = .returned (.slice b (groupsR rs).length c) ∧ Below w.heap.size w w' ∧ GOwn w' w.heap.size b (groupsR rs).length c gs (groupsR rs)
set_option maxRecDepth 100000 in
set_option maxHeartbeats 4000000 in
theorem l4Groups_any (a : Option Addr) (n cap : Nat) (rs : List RowV) (w : World) (hm : n ≤ 1048576) (hR : Rd w w.heap.size 3 a n (flat rs)) :
    Calls Try.prog 97 #[.slice a n cap] w (GroupsOut rs w) := by
  obtain ⟨i0, hi, hz0, hz1, hz2⟩ := info_parts infoRow
  obtain ⟨i1, hj, hy0, hy1, hy2⟩ := info_parts infoGroup
  have hrl := Lib.hid hR.rows_length
  have hb0 := bl1 w (.cells #[] 66)
  have O0 := World.ownsRow_lit (base := w.heap.size) (e := 66) (size := 2) w #[] 0 (Nat.le_refl _) (Nat.zero_le _) rfl
  go_enter Try.func97, Try.ntmps97
  go_wp2_with fail
  generalize w.alloc (.cells #[] 66) = w0 at *
  go_loopw [3, 4] (fun v i wr => ∃ (k q : Nat) (g : Option Addr) (c : Nat) (gs : List (ByteArray × Value)), i = .int .i64 k ∧ v = .slice g q c ∧ k ≤ n ∧ q ≤ k ∧ GOwn wr w.heap.size g q c gs (groupsR (rs.take k)) ∧ Below w.heap.size w wr) (fun _ i _ => n - (intOf i).toNat)
  case atStart => exact ⟨0, 0, _, _, [], rfl, rfl, Nat.zero_le _, Nat.le_refl _, ⟨O0, rfl, Fam.nil _ _, fun v hv => by cases hv⟩, hb0⟩
  case round =>
    obtain ⟨k, q, g, c, gs, rfl, rfl, hk, hqk, hP, hb⟩ := hrel
    clear O0 hb0
    by_cases hlt : k < n
    · obtain ⟨b, off, r, rfl, hB0, hr, c0, c1, c2⟩ := (hR.below hb (Nat.le_refl _)).row hlt
      obtain ⟨rk, rt, rv⟩ := r
      dsimp only at c0 c1 c2
      have hB := Nat.lt_of_lt_of_le hB0 hb.size
      have hCC := rows_cells hb hB0 c0 c1 c2
      have hGle : (rs.take k).length ≤ 1048576 := by rw [List.length_take, hrl.out]; omega
      have hlen := hP.len
      have E := Lib.hid (show groupsR (rs.take (k + 1)) = gstep (groupsR (rs.take k)) ⟨rk, rt, rv⟩ by rw [List.take_add_one, hr, Option.toList_some, groups_snoc])
      clear hr
      by_cases hq0 : q = 0
      · subst hq0
        have hnil : groupsR (rs.take k) = [] := List.eq_nil_of_length_eq_zero hlen.2
        have E2 := Lib.hid (show groupsR (rs.take (k + 1)) = groupsR (rs.take k) ++ [(rk, [⟨rk, rt, rv⟩])] by rw [E.out, hnil]; rfl)
        clear hnil hlen E
        go_wp2_with fail
        go_quiet (fail)
        have hP1 := hP.below (drewN_below wr nq)
        have hb1 := hb.trans ((drewN_below wr nq).mono hb.size)
        have c0' := ((drewN_below wr nq).cell (p := ⟨b, off + k * 3, none⟩) hB).trans c0
        have c1' := ((drewN_below wr nq).cell (p := ⟨b, off + k * 3 + 1, none⟩) hB).trans c1
        have c2' := ((drewN_below wr nq).cell (p := ⟨b, off + k * 3 + 2, none⟩) hB).trans c2
        have hB2 := Nat.lt_of_lt_of_le hB (drewN_below wr nq).size
        clear hP hb c0 c1 c2 hB
        generalize wr.drewN nq = w2 at *
        have HP := Lib.hid hP1
        have HB := Lib.hid hb1
        clear hP1 hb1
        go_wp2_with fail
        have lr := World.ownsRow_lit (base := w2.heap.size) (e := 68) (size := 3) w2 #[.string rk, .int .i64 rt, .string rv] 1 (Nat.le_refl _) (by decide) rfl
        have hbX : Below w2.heap.size w2 ((w2.alloc (.cells #[.string rk, .int .i64 rt, .string rv] 68)).alloc (.cells #[.string rk, .slice (some ⟨w2.heap.size, 0, none⟩) 1 1] 66)).drew := (((Below.refl _ w2).alloc (Nat.le_refl _) _).alloc (by simp) _).drew
        have HLR := Lib.hid ((lr.alloc (.cells #[.string rk, .slice (some ⟨w2.heap.size, 0, none⟩) 1 1] 66)).drew)
        have HO := Lib.hid (own_below HP.out.outer hbX)
        have HBX := Lib.hid hbX
        have HXS := Lib.hid (Nat.le_trans HB.out.size hbX.size)
        have HN := Lib.hid (group_lit w2 rk rt rv 68 66)
        have hlm : 0 + 1 ≤ maxLen := by unfold maxLen; omega
        have hlb : (0 + 1) * 40 ≤ 140737488355328 := by omega
        have d0 : (w2.alloc (.cells #[.string rk, .int .i64 rt, .string rv] 68)).cell? ⟨b, off + k * 3, none⟩ = some (.string rk) := (((Below.refl w2.heap.size w2).alloc (Nat.le_refl _) _).cell (p := ⟨b, off + k * 3, none⟩) hB2).trans c0'
        clear lr hbX
        go_region_law (refine step_append_own_at rfl (.tmp 48) (.tmp 60) 56 rfl w.heap.size 66 i1 (.agg #[.string ⟨#[]⟩, .slice none 0 0]) 2 40 Try.underlying56 hj hy0 hy1 hy2 rfl (by decide) (.slice g 0 c) 0 (gcells gs) rfl HO.out ⟨w2.heap.size + 1, 0, none⟩ 1 1 [.string rk, .slice (some ⟨w2.heap.size, 0, none⟩) 1 1] rfl rfl HN.out (group_one rk _ _ _) hlm hlb HXS.out ?_; intro v' w3 hO3 hg3 hat; obtain ⟨a3, c3, rfl⟩ := own_slice' hO3)
        all_goals
          have hbn := (HB.out.trans (HBX.out.mono HB.out.size)).grown hg3 HXS.out (fun q e => (own_ge HP.out.outer q e).1)
          have hPn := HP.out.snoc (rs := [⟨rk, rt, rv⟩]) HB.out.size HBX.out HLR.out hg3 hO3 hat
          clear hg3 hO3 hat HO HBX HXS HN HLR HP HB
          go_wp2_with fail
          go_roundw
          case rel => exact ⟨k + 1, 0 + 1, a3, c3, _, by go_num, rfl, by omega, by omega, by rw [E2.out]; exact hPn, hbn⟩
          case measure => simp [intOf]; omega

      obtain ⟨p, hp1, hp2⟩ : ∃ p, p < q ∧ q = p + 1 := ⟨q - 1, by omega, by omega⟩
      obtain ⟨bg, rfl, hbgw, hBG⟩ := own_form hP.outer (by omega)
      obtain ⟨⟨lk, ll⟩, hGp⟩ : ∃ x, (groupsR (rs.take k))[p]? = some x := ⟨_, List.getElem?_eq_getElem (by omega)⟩
      obtain ⟨⟨lk', lv⟩, hgp⟩ : ∃ x, gs[p]? = some x := ⟨_, List.getElem?_eq_getElem (by omega)⟩
      obtain rfl : lk' = lk := by
        have h1 : (gs.map (·.1))[p]? = some lk' := by rw [List.getElem?_map, hgp]; rfl
        rw [hP.keys, List.getElem?_map, hGp] at h1
        injection h1 with h1
        exact h1.symm
      have hlast : groupsR (rs.take k) = (groupsR (rs.take k)).take p ++ [(lk', ll)] := by
        have := List.take_add_one (l := groupsR (rs.take k)) (i := p)
        rw [hGp, Option.toList_some, List.take_of_length_le (by omega)] at this
        exact this
      have hlO := hP.fam.own p lv ll (by rw [List.getElem?_map, hgp]; rfl) (by rw [List.getElem?_map, hGp]; rfl)
      obtain ⟨va, vc, rfl⟩ := own_slice' hlO
      obtain ⟨e0, e1⟩ := gcells_at gs p _ hgp
      have hRo := Rd.of_own hP.outer
      obtain ⟨bx, ox, hbx, _, hcx⟩ := hRo.2 (by omega)
      injection hbx with hbx
      injection hbx with hb1x hb2x
      subst hb1x hb2x
      have d0 := hcx _ _ e0
      have d1 := hcx _ _ e1
      have f1 := hP.outer.frozenAt (p * 2 + 1)
      simp only [Nat.zero_add] at d0 d1
      have hW : IntKind.i64.wrap ((q : Int) - 1) = (p : Int) := by rw [IntWalk.i64_in _ (by omega)]; omega
      have hp3 : q < p + 2 := by omega
      have HLO := Lib.hid hlO
      have HE := Lib.hid hp2
      have HGP := Lib.hid hGp
      have Hgp := Lib.hid hgp
      have HLAST := Lib.hid hlast
      clear hp2 hlO hGp hgp hlast e0 e1 hRo hcx
      cases hd : (lk'.toList == rk.toList)
      · have hne : ¬ lk' = rk := fun e => by rw [e] at hd; simp at hd
        have E2 := Lib.hid (show groupsR (rs.take (k + 1)) = groupsR (rs.take k) ++ [(rk, [⟨rk, rt, rv⟩])] by
          rw [E.out, HLAST.out, gstep_ne _ _ _ _ hne])
        clear hne hlen E HLO HGP Hgp HLAST
        go_wp2_with fail
        go_quiet (fail)
        have hP1 := hP.below (drewN_below wr nq)
        have hb1 := hb.trans ((drewN_below wr nq).mono hb.size)
        have c0' := ((drewN_below wr nq).cell (p := ⟨b, off + k * 3, none⟩) hB).trans c0
        have c1' := ((drewN_below wr nq).cell (p := ⟨b, off + k * 3 + 1, none⟩) hB).trans c1
        have c2' := ((drewN_below wr nq).cell (p := ⟨b, off + k * 3 + 2, none⟩) hB).trans c2
        have hB2 := Nat.lt_of_lt_of_le hB (drewN_below wr nq).size
        clear hP hb c0 c1 c2 hB
        generalize wr.drewN nq = w2 at *
        have HP := Lib.hid hP1
        have HB := Lib.hid hb1
        clear hP1 hb1
        go_wp2_with fail
        have lr := World.ownsRow_lit (base := w2.heap.size) (e := 68) (size := 3) w2 #[.string rk, .int .i64 rt, .string rv] 1 (Nat.le_refl _) (by decide) rfl
        have hbX : Below w2.heap.size w2 ((w2.alloc (.cells #[.string rk, .int .i64 rt, .string rv] 68)).alloc (.cells #[.string rk, .slice (some ⟨w2.heap.size, 0, none⟩) 1 1] 66)).drew := (((Below.refl _ w2).alloc (Nat.le_refl _) _).alloc (by simp) _).drew
        have HLR := Lib.hid ((lr.alloc (.cells #[.string rk, .slice (some ⟨w2.heap.size, 0, none⟩) 1 1] 66)).drew)
        have HO := Lib.hid (own_below HP.out.outer hbX)
        have HBX := Lib.hid hbX
        have HXS := Lib.hid (Nat.le_trans HB.out.size hbX.size)
        have HN := Lib.hid (group_lit w2 rk rt rv 68 66)
        have hlm : q + 1 ≤ maxLen := by unfold maxLen; omega
        have hlb : (q + 1) * 40 ≤ 140737488355328 := by omega
        have d0 : (w2.alloc (.cells #[.string rk, .int .i64 rt, .string rv] 68)).cell? ⟨b, off + k * 3, none⟩ = some (.string rk) := (((Below.refl w2.heap.size w2).alloc (Nat.le_refl _) _).cell (p := ⟨b, off + k * 3, none⟩) hB2).trans c0'
        clear lr hbX
        go_region_law (refine step_append_own_at rfl (.tmp 48) (.tmp 60) 56 rfl w.heap.size 66 i1 (.agg #[.string ⟨#[]⟩, .slice none 0 0]) 2 40 Try.underlying56 hj hy0 hy1 hy2 rfl (by decide) (.slice (some ⟨bg, 0, none⟩) q c) q (gcells gs) rfl HO.out ⟨w2.heap.size + 1, 0, none⟩ 1 1 [.string rk, .slice (some ⟨w2.heap.size, 0, none⟩) 1 1] rfl rfl HN.out (group_one rk _ _ _) hlm hlb HXS.out ?_; intro v' w3 hO3 hg3 hat; obtain ⟨a3, c3, rfl⟩ := own_slice' hO3)
        all_goals
          have hbn := (HB.out.trans (HBX.out.mono HB.out.size)).grown hg3 HXS.out (fun q e => (own_ge HP.out.outer q e).1)
          have hPn := HP.out.snoc (rs := [⟨rk, rt, rv⟩]) HB.out.size HBX.out HLR.out hg3 hO3 hat
          clear hg3 hO3 hat HO HBX HXS HN HLR HP HB
          go_wp2_with fail
          go_roundw
          case rel => exact ⟨k + 1, q + 1, a3, c3, _, by go_num, rfl, by omega, by omega, by rw [E2.out]; exact hPn, hbn⟩
          case measure => simp [intOf]; omega

      · have E3 := Lib.hid (show groupsR (rs.take (k + 1)) = (groupsR (rs.take k)).set p (lk', ll ++ [⟨rk, rt, rv⟩]) by
          rw [List.set_eq_take_append_cons_drop, if_pos (by omega), List.drop_eq_nil_of_le (by omega), E.out]
          exact (congrArg (fun l => gstep l _) HLAST.out).trans (gstep_eq _ _ _ _ (ext_toList (eq_of_beq hd))))
        have hll : ll.length ≤ 1048576 := groups_len hGle HGP.out
        clear E HLAST
        go_wp2_with fail
        go_quiet (fail)
        have hP1 := hP.below (drewN_below wr nq)
        have hb1 := hb.trans ((drewN_below wr nq).mono hb.size)
        have hlO1 := own_below HLO.out (drewN_below wr nq)
        have d1' := ((drewN_below wr nq).cell (p := ⟨bg, p * 2 + 1, none⟩) hBG).trans d1
        have hBG2 := Nat.lt_of_lt_of_le hBG (drewN_below wr nq).size
        clear hP hb c0 c1 c2 hB d0 d1 f1 HLO
        generalize wr.drewN nq = w2 at *
        have s2 := hb1.size
        have HP := Lib.hid hP1
        have HB := Lib.hid hb1
        have RL := Rd.of_own hlO1
        have HC := Lib.hid hCC
        have x1 : (w2.alloc (.cells #[] 68)).cell? ⟨bg, p * 2 + 1, none⟩ = some (.slice va ll.length vc) := (((Below.refl w2.heap.size w2).alloc (Nat.le_refl _) _).cell (p := ⟨bg, p * 2 + 1, none⟩) hBG2).trans d1'
        have x2 : (w2.alloc (.cells #[.string rk, .int .i64 rt, .string rv] 68)).cell? ⟨bg, p * 2 + 1, none⟩ = some (.slice va ll.length vc) := (((Below.refl w2.heap.size w2).alloc (Nat.le_refl _) _).cell (p := ⟨bg, p * 2 + 1, none⟩) hBG2).trans d1'
        have x3 : ((w2.alloc (.cells #[] 68)).alloc (.cells #[.string rk, .int .i64 rt, .string rv] 68)).cell? ⟨bg, p * 2 + 1, none⟩ = some (.slice va ll.length vc) := ((((Below.refl w2.heap.size w2).alloc (Nat.le_refl _) _).alloc (by simp) _).cell (p := ⟨bg, p * 2 + 1, none⟩) hBG2).trans d1'
        have x4 : ((w2.alloc (.cells #[.string rk, .int .i64 rt, .string rv] 68)).alloc (.cells #[] 68)).cell? ⟨bg, p * 2 + 1, none⟩ = some (.slice va ll.length vc) := ((((Below.refl w2.heap.size w2).alloc (Nat.le_refl _) _).alloc (by simp) _).cell (p := ⟨bg, p * 2 + 1, none⟩) hBG2).trans d1'
        have HA := Lib.hid (arm_A w2 rk rt rv 68 RL)
        have HBB := Lib.hid (arm_B w2 rk rt rv 68 RL)
        have HCC := Lib.hid (arm_C w2 rk rt rv 68 RL)
        have y1 := hb1.alloc s2 (.cells #[] 68)
        have y2 := hb1.alloc s2 (.cells #[.string rk, .int .i64 rt, .string rv] 68)
        have y3 := y1.alloc (by have := y1.size; omega) (.cells #[.string rk, .int .i64 rt, .string rv] 68)
        have y4 := y2.alloc (by have := y2.size; omega) (.cells #[] 68)
        obtain ⟨z0, z1, z2⟩ := HC.out _ y1
        obtain ⟨z6, z7, z8⟩ := HC.out _ HB.out
        have hl0 : 0 + ll.length ≤ maxLen := by unfold maxLen; omega
        have hl1 : (0 + ll.length) * 40 ≤ 140737488355328 := by omega
        have hl2 : ll.length + 1 ≤ maxLen := by unfold maxLen; omega
        have hl3 : (ll.length + 1) * 40 ≤ 140737488355328 := by omega
        clear RL hP1 hb1 hCC hlO1 hd hGle
        go_wp2_with fail
        go_region_law (first | (refine step_append_rd rfl (.tmp 33) (.tmp 38) 27 rfl w2.heap.size 68 i0 (.agg #[.string ⟨#[]⟩, .int .i64 0, .string ⟨#[]⟩]) 3 40 Try.underlying27 hi hz0 hz1 hz2 rfl (by decide) _ 0 [] rfl HA.out.1 va w2.heap.size ll.length vc (flat ll) rfl HA.out.2.1 (flat_oneG _) hl0 hl1 HA.out.2.2.1 ?_; intro v' w3 hO3 hg3 hat; have hO4 := hO3; rw [Nat.zero_add, List.nil_append] at hO4; obtain ⟨a3, c3, rfl⟩ := own_slice' hO4; obtain ⟨hb3, HV2, HN2, HS2⟩ := HA.out.2.2.2 _ _ _ hO3 hg3; have hb4 := hb3.mono s2; simp only [Nat.zero_add, List.nil_append] at HV2; obtain ⟨z3, z4, z5⟩ := HC.out _ (HB.out.trans hb4)) | (refine step_append_rd rfl (.tmp 33) (.tmp 38) 27 rfl w2.heap.size 68 i0 (.agg #[.string ⟨#[]⟩, .int .i64 0, .string ⟨#[]⟩]) 3 40 Try.underlying27 hi hz0 hz1 hz2 rfl (by decide) _ 0 [] rfl HBB.out.1 va w2.heap.size ll.length vc (flat ll) rfl HBB.out.2.1 (flat_oneG _) hl0 hl1 HBB.out.2.2.1 ?_; intro v' w3 hO3 hg3 hat; have hO4 := hO3; rw [Nat.zero_add, List.nil_append] at hO4; obtain ⟨a3, c3, rfl⟩ := own_slice' hO4; obtain ⟨hb3, HV2, HN2, HS2⟩ := HBB.out.2.2.2 _ _ _ hO3 hg3; have hb4 := hb3.mono s2; simp only [Nat.zero_add, List.nil_append] at HV2; obtain ⟨z3, z4, z5⟩ := HC.out _ (HB.out.trans hb4)) | (refine step_append_rd rfl (.tmp 33) (.tmp 38) 27 rfl w2.heap.size 68 i0 (.agg #[.string ⟨#[]⟩, .int .i64 0, .string ⟨#[]⟩]) 3 40 Try.underlying27 hi hz0 hz1 hz2 rfl (by decide) _ 0 [] rfl HCC.out.1 va w2.heap.size ll.length vc (flat ll) rfl HCC.out.2.1 (flat_oneG _) hl0 hl1 HCC.out.2.2.1 ?_; intro v' w3 hO3 hg3 hat; have hO4 := hO3; rw [Nat.zero_add, List.nil_append] at hO4; obtain ⟨a3, c3, rfl⟩ := own_slice' hO4; obtain ⟨hb3, HV2, HN2, HS2⟩ := HCC.out.2.2.2 _ _ _ hO3 hg3; have hb4 := hb3.mono s2; simp only [Nat.zero_add, List.nil_append] at HV2; obtain ⟨z3, z4, z5⟩ := HC.out _ (HB.out.trans hb4)) | (refine step_append_own_at rfl (.tmp 39) (.tmp 44) 27 rfl w2.heap.size 68 i0 (.agg #[.string ⟨#[]⟩, .int .i64 0, .string ⟨#[]⟩]) 3 40 Try.underlying27 hi hz0 hz1 hz2 rfl (by decide) (.slice a3 ll.length c3) ll.length (flat ll) rfl HV2.out _ 1 1 [.string rk, .int .i64 rt, .string rv] rfl rfl HN2.out (row_one ⟨rk, rt, rv⟩) hl2 hl3 HS2.out.size ?_; intro v5 w5 hO5 hg5 hat5; obtain ⟨a5, c5, rfl⟩ := own_slice' hO5; have hb5 := HS2.out.grown hg5 HS2.out.size (fun q e => (own_ge HV2.out q e).1); have hb6 := hb5.mono s2; have hPo := own_below HP.out.outer hb5; obtain ⟨u0, x5⟩ := own_cell hPo (j := p * 2 + 1) (by omega); have f5 := hPo.frozenAt (p * 2 + 1)))
        all_goals
          have hO6 := Lib.hid (show w5.ownsRow w2.heap.size 68 3 (.slice a5 (ll.length + 1) c5) (ll ++ [(⟨rk, rt, rv⟩ : RowV)]).length (flat (ll ++ [(⟨rk, rt, rv⟩ : RowV)])) by rw [List.length_append, flat_append]; exact hO5)
          have hPn := HP.out.put (rs' := ll ++ [(⟨rk, rt, rv⟩ : RowV)]) HB.out.size Hgp.out hb5 hO6.out
          have hbn := (HB.out.trans hb6).setCell (p := ⟨bg, p * 2 + 1, none⟩) hbgw (.slice a5 (ll.length + 1) c5)
          clear hO3 hg3 hat hO4 hb3 HV2 HN2 HS2 hb4 hO5 hg5 hat5 hb5 hb6 hPo x5 f5 hO6 HP HB HC HA HBB HCC x1 x2 x3 x4 y1 y2 y3 y4 HGP Hgp
          go_wp2_with fail
          go_roundw
          case rel => exact ⟨k + 1, q, _, c, _, by go_num, rfl, by omega, by omega, by rw [E3.out]; exact hPn, hbn⟩
          case measure => simp [intOf]; omega
    · obtain rfl : k = n := by omega
      have e : rs.take k = rs := List.take_of_length_le (by rw [hrl.out]; omega)
      rw [e] at hP
      have HL := Lib.hid hP.len.2
      clear e
      go_wp2_with fail
      go_ret
      rw [← HL.out] at hP
      exact ⟨g, c, gs, by rw [HL.out]; rfl, hb, hP⟩
end Go.Proofs.Ytgdbpckobngmjaa
