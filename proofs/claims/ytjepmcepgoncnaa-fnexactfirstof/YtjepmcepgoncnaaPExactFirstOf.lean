/-
  Rows.FnExactFirstOfSaid: laws.FnExactFirstOf returns true for every input, and each argument reads afterwards as it read before. No conditions.
-/
import Derived.Test.YtjepmcepgoncnaaIterRows
import Derived.Test.YtjepmcepgoncnaaJoined
import Derived.Test.YtjepmcepgoncnaaPartsDeal
import Derived.Test.YtjepmcepgoncnaaRdIn
import Derived.Maps.AppendAt
import Derived.Test.YtjepmcepgoncnaaAppendAny
import Derived.Test.YtjepmcepgoncnaaPlain
import Derived.OwnWalkIn
import Derived.RangeFuncCalls
import Derived.Test.YtjepmcepgoncnaaCollect
import Derived.Test.YtjepmcepgoncnaaSortedOkFns
import Derived.Test.YtjepmcepgoncnaaMarkRows
import Derived.Test.YtjepmcepgoncnaaRowsMem
import Derived.Test.YtjepmcepgoncnaaSince
import Derived.Test.YtjepmcepgoncnaaOpen
namespace Go.Proofs.Ytjepmcepgoncnaa
open Go.RowKit Go.Shelf
attribute [local go_sem] Oper.semAt_some
/-- The groups of rows: each key with the rows that begin with it; no more than so many. -/
def groupsF : Nat → List RowV → List (ByteArray × List RowV)
  | 0, _ => []
  | _ + 1, [] => []
  | f + 1, r :: l => (r.key, leadL r.key (r :: l)) :: groupsF f ((r :: l).drop (leadN r.key (r :: l)))
def groupsR (l : List RowV) : List (ByteArray × List RowV) := groupsF l.length l
theorem leadN_pos (r : RowV) (l : List RowV) : 1 ≤ leadN r.key (r :: l) := by
  unfold leadN leadL
  rw [List.takeWhile_cons, if_pos (by simp)]
  simp
theorem groupsF_fuel : ∀ (f g : Nat) (l : List RowV), l.length ≤ f → l.length ≤ g → groupsF f l = groupsF g l
  | 0, 0, _, _, _ => rfl
  | 0, g + 1, [], _, _ => rfl
  | 0, g + 1, r :: l, h, _ => by simp at h
  | f + 1, 0, [], _, _ => rfl
  | f + 1, 0, r :: l, _, h => by simp at h
  | f + 1, g + 1, [], _, _ => rfl
  | f + 1, g + 1, r :: l, hf, hg => by
    have hp := leadN_pos r l
    rw [groupsF, groupsF, groupsF_fuel f g _ (by rw [List.length_drop]; omega) (by rw [List.length_drop]; omega)]
theorem groupsR_nil : groupsR [] = [] := rfl
theorem groupsR_next (r : RowV) (l : List RowV) : groupsR (r :: l) = (r.key, leadL r.key (r :: l)) :: groupsR ((r :: l).drop (leadN r.key (r :: l))) := by
  have hp := leadN_pos r l
  unfold groupsR
  rw [List.length_cons, groupsF, groupsF_fuel l.length _ _ (by rw [List.length_drop, List.length_cons]; omega) (Nat.le_refl _)]
theorem groupsF_le : ∀ (f : Nat) (l : List RowV), (groupsF f l).length ≤ l.length
  | 0, _ => Nat.zero_le _
  | _ + 1, [] => Nat.le_refl _
  | f + 1, r :: l => by
    have hp := leadN_pos r l
    have ih := groupsF_le f ((r :: l).drop (leadN r.key (r :: l)))
    rw [List.length_drop] at ih
    rw [groupsF, List.length_cons]
    simp only [List.length_cons] at ih ⊢
    omega
/-- A stretch of rows with its key, where it lies. -/
structure GrpV where
  key : ByteArray
  a : Option Addr
  n : Nat
  c : Nat
  rows : List RowV
/-- One that can be read in a world. -/
def GrpIn (w : World) (B : Nat) : Type := {x : GrpV // Rd w B 3 x.a x.n (flat x.rows) ∧ x.n ≤ x.c ∧ x.n ≤ 1048576 ∧ ∃ b off, x.a = some ⟨b, off, none⟩}
def grpsOf {w : World} {B : Nat} (ys : List (GrpIn w B)) : List (ByteArray × List RowV) := ys.map fun x => (x.1.key, x.1.rows)
def grpV {w : World} {B : Nat} (x : GrpIn w B) : Array Value := #[.string x.1.key, .slice x.1.a x.1.n x.1.c]
set_option maxRecDepth 100000 in
set_option maxHeartbeats 2000000 in
theorem byKey1_in (n l Bl n₀ : Nat) (a : Option Addr) (len cap : Nat) (rs : List RowV) (w0 : World) (hm : len ≤ 1048576) (hlc : len ≤ cap) (J Jx : List (GrpIn w0 n₀) → World → Prop) (W : World) (hn₀ : n₀ ≤ W.heap.size) (hW : Below n₀ w0 W)
    (hY : ∀ pre x W1, J pre W1 → pre.length < rs.length → YieldAt Fence.wide (n - 1) Try.prog l (grpV x) W1 fun e W' =>
      (e = .returned (.bool true) ∧ J (pre ++ [x]) W' ∧ Below n₀ W1 W') ∨ (e = .returned (.bool false) ∧ Jx (pre ++ [x]) W'))
    (hBl : W.cell? ⟨Bl, 0, none⟩ = some (.slice a len cap)) (hR : Rd w0 n₀ 3 a len (flat rs)) (h0 : J [] W) :
    CallsIn Fence.wide n Try.prog 105 #[.func (.yield l) #[] #[], .pointer (some ⟨Bl, 0, none⟩)] W fun e W' => (∃ v, e = .returned v) ∧
      ((∃ ys, grpsOf ys = groupsR rs ∧ J ys W') ∨ (∃ pre, grpsOf pre <+: groupsR rs ∧ Jx pre W')) := by
  have hl := Lib.hid hR.rows_length
  have HR0 := Lib.hid hR
  have HW := Lib.hid hW
  generalize hT : groupsR rs = T
  have HT := Lib.hid hT
  clear hT hR hW
  refine callsIn_of_wp Try.func105 rfl trivial ?_ rfl
  simp only [Try.ntmps105, List.size_toArray, List.length_cons, List.length_nil, Nat.reduceAdd, Nat.reduceSub, Array.replicate_succ, Array.replicate_zero, List.push_toArray, List.append_toArray, List.nil_append, List.cons_append]
  gi_wp2
  gi_loopw [3] (fun v wr => ∃ (m : Nat) (ra : Option Addr) (rc : Nat) (R : List RowV) (ys : List (GrpIn w0 n₀)), v = .slice ra m rc ∧ m ≤ rc ∧ ys.length + m ≤ len ∧ Hid (Rd w0 n₀ 3 ra m (flat R)) ∧ Hid (T = grpsOf ys ++ groupsR R) ∧ J ys wr ∧ Below n₀ W wr)
    (fun v _ => match v with | .slice _ n _ => n | _ => 0)
  case atStart => exact ⟨len, _, _, rs, [], rfl, hlc, by simp, HR0, Lib.hid HT.out.symm, h0, Below.refl _ _⟩
  case round =>
    obtain ⟨m, ra, rc, R, ys, rfl, hmr, hym, HR, HG, hJs, hnx⟩ := hrel
    by_cases hm0 : m = 0
    · subst hm0
      have hRn : R = [] := List.length_eq_zero_iff.1 HR.out.rows_length
      have HG2 := Lib.hid (show grpsOf ys = T by rw [HG.out, hRn, groupsR_nil, List.append_nil])
      clear hRn
      gi_wp2
      go_end0
      exact ⟨⟨_, rfl⟩, .inl ⟨ys, HG2.out, hJs⟩⟩
    · have hRl : R.length = m := HR.out.rows_length
      obtain ⟨r, R', rfl⟩ : ∃ r R', R = r :: R' := by
        cases R with
        | nil => simp at hRl; omega
        | cons r R => exact ⟨r, R, rfl⟩
      have hRr := HR.out.below (HW.out.trans hnx) (Nat.le_refl _)
      obtain ⟨b, off, r', rfl, hB1, hrk, c0, _, _⟩ := hRr.row (show 0 < m by omega)
      obtain rfl : r = r' := by simpa using hrk
      clear hrk
      have hsz : n₀ ≤ wr.heap.size := Nat.le_trans hn₀ hnx.size
      have hq1 := leadN_pos r R'
      have hq2 := leadN_le r.key (r :: R')
      rw [hRl] at hq2
      have CL := leadingRows_any (some ⟨b, off, none⟩) m rc (r :: R') r.key wr (by omega) (hRr.more hsz)
      have HN := Lib.hid (groupsR_next r R')
      have HL := Lib.hid (lead_take (key := r.key) (r :: R'))
      have hm4 : 0 < m := by omega
      have hm5 : (0 : Int) < (m : Int) := by omega
      simp only [Nat.zero_mul, Nat.add_zero] at c0
      generalize hqe : leadN r.key (r :: R') = q at *
      have HQ := Lib.hid hqe
      clear hqe hRl
      have hq3 : (q : Int) ≤ (rc : Int) := by omega
      have hq4 : (0 : Int) ≤ (q : Int) := by omega
      have hq5 : (q : Int) ≤ (m : Int) := by omega
      have hxR : Rd w0 n₀ 3 (some ⟨b, off, none⟩) q (flat (leadL r.key (r :: R'))) := by
        rw [← HL.out]
        exact HR.out.head hq2
      have hxq : q ≤ rc ∧ q ≤ 1048576 ∧ ∃ b' off', some (⟨b, off, none⟩ : Addr) = some ⟨b', off', none⟩ := ⟨by omega, by omega, b, off, rfl⟩
      obtain ⟨x, hx⟩ : ∃ x : GrpIn w0 n₀, x = ⟨⟨r.key, some ⟨b, off, none⟩, q, rc, leadL r.key (r :: R')⟩, hxR, hxq⟩ := ⟨_, rfl⟩
      have hxe : grpsOf (ys ++ [x]) = grpsOf ys ++ [(r.key, leadL r.key (r :: R'))] := by
        unfold grpsOf
        rw [List.map_append, hx]
        rfl
      have HG2 := Lib.hid (show T = grpsOf (ys ++ [x]) ++ groupsR ((r :: R').drop q) by rw [HG.out, HN.out, hxe, List.append_assoc]; rfl)
      have efr : fromA (some ⟨b, off, none⟩) rc q = if rc = q then some ⟨b, off, none⟩ else some ⟨b, off + q * 3, none⟩ := by
        unfold fromA
        split
        · rfl
        · simp [Addr.add_mid]
      have HR2 := Lib.hid (show Rd w0 n₀ 3 (if rc = q then some ⟨b, off, none⟩ else some ⟨b, off + q * 3, none⟩) (m - q) (flat ((r :: R').drop q)) by rw [← efr]; exact HR.out.from_ hq2 hmr)
      clear efr
      obtain ⟨fn, tmps, assign, body, hy, hRd⟩ := hY ys x wr hJs (by rw [hl.out]; omega)
      rw [show grpV x = #[.string r.key, .slice (some ⟨b, off, none⟩) q rc] by rw [hx]; rfl] at hy
      have hlen : (ys ++ [x]).length + (m - q) ≤ len := by rw [List.length_append, List.length_singleton]; omega
      clear hx hxe HN HL HG hJs hY
      clear hxR hxq
      gi_wp2_with fail
      refine ⟨trivial, fun h => (by cases h), ?_⟩
      refine (callsIn_wide.2 CL).mono ?_
      rintro e w2 ⟨rfl, rfl⟩
      clear CL
      gi_wp2_with fail
      refine ⟨fun h => (by cases h), ?_⟩
      refine hRd.mono ?_
      rintro e W3 (⟨rfl, hJ3, hk3⟩ | ⟨rfl, hJx3⟩)
      · have hnx3 := hnx.trans hk3
        clear c0 hk3 hnx hRd hy
        gi_wp2_with fail
        go_roundw
        case rel => exact ⟨m - q, _, rc - q, (r :: R').drop q, ys ++ [x], rfl, by omega, hlen, HR2, HG2, hJ3, hnx3⟩
        case measure => simp; omega
      · clear c0 hnx hRd hy
        gi_wp2_with fail
        refine bodyPost_ret (results_none rfl _ _ _) rfl ?_
        exact ⟨⟨_, rfl⟩, .inr ⟨ys ++ [x], ⟨groupsR ((r :: R').drop q), HG2.out.symm⟩, hJx3⟩⟩
set_option maxRecDepth 100000 in
theorem byKey_any (a : Option Addr) (len cap : Nat) (w : World) :
    Calls Try.prog 68 #[.slice a len cap] w fun e w' => e = .returned (.func (.func 105) #[] #[.pointer (some ⟨w.heap.size, 0, none⟩)]) ∧ w' = w.alloc (.cells #[.slice a len cap] 24) := by
  go_enter Try.func68, Try.ntmps68
  go_wp2_with fail
  go_ret
  exact ⟨rfl, rfl⟩
/-- What byKey yields: the keys with their rows, in their order. -/
theorem byKey_stops (n Bl n₀ : Nat) (a : Option Addr) (len cap : Nat) (rs : List RowV) (hm : len ≤ 1048576) (hlc : len ≤ cap) (w : World) (hn₀ : n₀ ≤ w.heap.size)
    (hBl : w.cell? ⟨Bl, 0, none⟩ = some (.slice a len cap)) (hll : Bl < w.heap.size) (hR : Rd w n₀ 3 a len (flat rs)) :
    SeqStopsK Fence.wide n Try.prog 105 #[.pointer (some ⟨Bl, 0, none⟩)] (fun x : GrpIn w n₀ => grpV x) (Below n₀) (fun ys => grpsOf ys = groupsR rs) (fun pre => grpsOf pre <+: groupsR rs) rs.length w := fun l J Jx W hW _ _ hY h0 =>
  byKey1_in n l Bl n₀ a len cap rs w hm hlc J Jx W (Nat.le_trans hn₀ hW.size) (hW.mono hn₀) hY ((hW.cell (p := ⟨Bl, 0, none⟩) hll).trans hBl) hR h0
end Go.Proofs.Ytjepmcepgoncnaa

namespace Go.Proofs.Ytjepmcepgoncnaa
open Go.RowKit
def gstep (G : List (ByteArray × List RowV)) (r : RowV) : List (ByteArray × List RowV) :=
  match G.getLast? with
  | some g => if g.1 = r.key then G.dropLast ++ [(g.1, g.2 ++ [r])] else G ++ [(r.key, [r])]
  | none => [(r.key, [r])]
theorem gstep_nil (r : RowV) : gstep [] r = [(r.key, [r])] := rfl
theorem gstep_eq (G : List (ByteArray × List RowV)) (k : ByteArray) (l : List RowV) (r : RowV) (h : k = r.key) : gstep (G ++ [(k, l)]) r = G ++ [(k, l ++ [r])] := by
  unfold gstep
  rw [List.getLast?_concat]
  simp [h]
theorem gstep_ne (G : List (ByteArray × List RowV)) (k : ByteArray) (l : List RowV) (r : RowV) (h : ¬ k = r.key) : gstep (G ++ [(k, l)]) r = (G ++ [(k, l)]) ++ [(r.key, [r])] := by
  unfold gstep
  rw [List.getLast?_concat]
  simp [h]
theorem leadL_eq (r : RowV) (l : List RowV) {k : ByteArray} (h : r.key = k) : leadL k (r :: l) = r :: leadL k l := by
  unfold leadL
  rw [List.takeWhile_cons, if_pos (by simp [h])]
theorem leadL_ne (r : RowV) (l : List RowV) {k : ByteArray} (h : ¬ r.key = k) : leadL k (r :: l) = [] := by
  unfold leadL
  rw [List.takeWhile_cons, if_neg (by simp only [beq_iff_eq]; exact fun e => h (by rw [ByteArray.toList_eq, ByteArray.toList_eq] at e; exact ByteArray.ext (Array.toList_inj.1 e)))]
theorem groups_fold : ∀ (rs : List RowV) (G : List (ByteArray × List RowV)) (k : ByteArray) (l : List RowV), rs.foldl gstep (G ++ [(k, l)]) = G ++ (k, l ++ leadL k rs) :: groupsR (rs.drop (leadN k rs))
  | [], G, k, l => by simp [leadL, groupsR_nil]
  | r :: rs, G, k, l => by
    rw [List.foldl_cons]
    by_cases h : k = r.key
    · rw [gstep_eq G k l r h, groups_fold rs G k (l ++ [r])]
      have e := leadL_eq r rs h.symm
      have e2 : leadN k (r :: rs) = leadN k rs + 1 := by unfold leadN; rw [e]; rfl
      rw [e, e2, List.drop_succ_cons, List.append_assoc]
      rfl
    · rw [gstep_ne G k l r h, groups_fold rs (G ++ [(k, l)]) r.key [r]]
      have e := leadL_ne r rs (k := k) (fun x => h x.symm)
      have e2 : leadN k (r :: rs) = 0 := by unfold leadN; rw [e]; rfl
      have e3 := leadL_eq r rs rfl
      have e4 : leadN r.key (r :: rs) = leadN r.key rs + 1 := by unfold leadN; rw [e3]; rfl
      rw [e, e2, List.drop_zero, groupsR_next, e3, e4, List.drop_succ_cons, List.append_nil, List.append_assoc]
      rfl
theorem groups_steps (rs : List RowV) : rs.foldl gstep [] = groupsR rs := by
  cases rs with
  | nil => rfl
  | cons r rs =>
    rw [List.foldl_cons, gstep_nil]
    have := groups_fold rs [] r.key [r]
    rw [List.nil_append] at this
    have e3 := leadL_eq r rs rfl
    have e4 : leadN r.key (r :: rs) = leadN r.key rs + 1 := by unfold leadN; rw [e3]; rfl
    rw [this, groupsR_next, e3, e4, List.drop_succ_cons]
    rfl
/-- The groups of one row more. -/
theorem groups_snoc (rs : List RowV) (r : RowV) : groupsR (rs ++ [r]) = gstep (groupsR rs) r := by
  rw [← groups_steps, ← groups_steps, List.foldl_append]
  rfl
theorem gstep_le (G : List (ByteArray × List RowV)) (r : RowV) : (gstep G r).length ≤ G.length + 1 := by
  rcases List.eq_nil_or_concat G with rfl | ⟨G', g, rfl⟩
  · exact Nat.le_refl _
  · obtain ⟨k, l⟩ := g
    rw [List.concat_eq_append]
    by_cases h : k = r.key
    · rw [gstep_eq _ _ _ _ h]; simp
    · rw [gstep_ne _ _ _ _ h]; simp
end Go.Proofs.Ytjepmcepgoncnaa

namespace Go.Proofs.Ytjepmcepgoncnaa
open Go.RowKit
def gcells (gs : List (ByteArray × Value)) : List Value := gs.flatMap fun g => [.string g.1, g.2]
theorem gcells_length (gs : List (ByteArray × Value)) : (gcells gs).length = gs.length * 2 := by
  induction gs with
  | nil => rfl
  | cons g gs ih =>
    have e : gcells (g :: gs) = .string g.1 :: g.2 :: gcells gs := rfl
    rw [e, List.length_cons, List.length_cons, ih, List.length_cons]
    omega
theorem gcells_snoc (gs : List (ByteArray × Value)) (k : ByteArray) (v : Value) : gcells (gs ++ [(k, v)]) = gcells gs ++ [.string k, v] := by simp [gcells]
theorem gcells_at : ∀ (gs : List (ByteArray × Value)) (i : Nat) (g : ByteArray × Value), gs[i]? = some g → (gcells gs)[i * 2]? = some (.string g.1) ∧ (gcells gs)[i * 2 + 1]? = some g.2
  | [], _, _, h => by simp at h
  | x :: gs, 0, g, h => by
    rw [List.getElem?_cons_zero] at h
    injection h with h
    subst h
    exact ⟨rfl, rfl⟩
  | x :: gs, i + 1, g, h => by
    rw [List.getElem?_cons_succ] at h
    have ih := gcells_at gs i g h
    have e : gcells (x :: gs) = .string x.1 :: x.2 :: gcells gs := rfl
    rw [e, show (i + 1) * 2 = i * 2 + 1 + 1 by omega, List.getElem?_cons_succ, List.getElem?_cons_succ, List.getElem?_cons_succ, List.getElem?_cons_succ]
    exact ih
theorem gcells_set : ∀ (gs : List (ByteArray × Value)) (i : Nat) (k : ByteArray) (v v' : Value), gs[i]? = some (k, v) → (gcells gs).set (i * 2 + 1) v' = gcells (gs.set i (k, v'))
  | [], _, _, _, _, h => by simp at h
  | x :: gs, 0, k, v, v', h => by
    rw [List.getElem?_cons_zero] at h
    injection h with h
    subst h
    rfl
  | x :: gs, i + 1, k, v, v', h => by
    rw [List.getElem?_cons_succ] at h
    have ih := gcells_set gs i k v v' h
    have e : gcells (x :: gs) = .string x.1 :: x.2 :: gcells gs := rfl
    rw [e, show (i + 1) * 2 + 1 = (i * 2 + 1) + 1 + 1 by omega, List.set_cons_succ, List.set_cons_succ, ih, List.set_cons_succ]
    rfl
/-- One slice is replaced by one in a new block. -/
theorem Fam.renew {w w' : World} {lo i : Nat} {vs : List Value} {ps : List (List RowV)} {v' : Value} {rs' : List RowV} (h : Fam w lo vs ps) (hi : i < vs.length) (hb : Below w.heap.size w w') (hO : w'.ownsRow lo 77 3 v' rs'.length (flat rs')) (hat : ∀ g, v'.ownBlock = some g → w.heap.size ≤ g) : Fam w' lo (vs.set i v') (ps.set i rs') := by
  have old : ∀ (j : Nat) (u : Value) (g : Nat), vs[j]? = some u → u.ownBlock = some g → g < w.heap.size := by
    intro j u g hu hug
    have hj' := (List.getElem?_eq_some_iff.1 hu).1
    obtain ⟨a, c, rs, h1, _, h3⟩ := h.at_ (i := j) (by rw [← h.len]; exact hj')
    rw [h1] at hu
    injection hu with hu
    rw [← hu] at hug
    exact (own_ge h3 g hug).2
  have F := h.below hb
  refine ⟨by simp [h.len], ?_, ?_⟩
  · intro j u rs hu hr
    by_cases e : i = j
    · subst e
      rw [List.getElem?_set_self hi] at hu
      rw [List.getElem?_set_self (by rw [← h.len]; exact hi)] at hr
      injection hu with hu; injection hr with hr
      subst hu hr
      exact hO
    · rw [List.getElem?_set_ne e] at hu hr
      exact F.own j u rs hu hr
  · intro j k u z g hjk hu hz hg' hzg
    by_cases e : i = j
    · subst e
      rw [List.getElem?_set_self hi] at hu
      injection hu with hu
      subst hu
      rw [List.getElem?_set_ne hjk] at hz
      have := old k z g hz hzg
      have := hat g hg'
      omega
    · rw [List.getElem?_set_ne e] at hu
      by_cases e2 : i = k
      · subst e2
        rw [List.getElem?_set_self hi] at hz
        injection hz with hz
        subst hz
        have := old j u g hu hg'
        have := hat g hzg
        omega
      · rw [List.getElem?_set_ne e2] at hz
        exact h.sep j k u z g hjk hu hz hg' hzg
structure GOwn (w : World) (lo : Nat) (a : Option Addr) (n c : Nat) (gs : List (ByteArray × Value)) (G : List (ByteArray × List RowV)) : Prop where
  outer : w.ownsRow lo 39 2 (.slice a n c) n (gcells gs)
  keys : gs.map (·.1) = G.map (·.1)
  fam : Fam w lo (gs.map (·.2)) (G.map (·.2))
  out : ∀ v ∈ gs.map (·.2), ∀ g, v.ownBlock = some g → (Value.slice a n c).ownBlock ≠ some g
theorem GOwn.below {w w' : World} {lo n c : Nat} {a : Option Addr} {gs : List (ByteArray × Value)} {G : List (ByteArray × List RowV)} (h : GOwn w lo a n c gs G) (hb : Below w.heap.size w w') : GOwn w' lo a n c gs G := ⟨own_below h.outer hb, h.keys, h.fam.below hb, h.out⟩
theorem GOwn.len {w : World} {lo n c : Nat} {a : Option Addr} {gs : List (ByteArray × Value)} {G : List (ByteArray × List RowV)} (h : GOwn w lo a n c gs G) : gs.length = n ∧ G.length = n := by
  have h1 := h.outer.1
  rw [gcells_length] at h1
  have h2 := congrArg List.length h.keys
  rw [List.length_map, List.length_map] at h2
  omega
/-- One more group at the end. -/
theorem GOwn.snoc {w w3 w4 : World} {lo n c n' c' : Nat} {a a' : Option Addr} {gs : List (ByteArray × Value)} {G : List (ByteArray × List RowV)} {k : ByteArray} {v : Value} {rs : List RowV} (h : GOwn w lo a n c gs G) (hlo : lo ≤ w.heap.size) (hb : Below w.heap.size w w3)
    (hO3 : w3.ownsRow w.heap.size 77 3 v rs.length (flat rs)) (hg4 : w3.grownBy w4 (Value.slice a n c).ownBlock) (hO4 : w4.ownsRow lo 39 2 (.slice a' n' c') n' (gcells gs ++ [.string k, v]))
    (hat : (Value.slice a' n' c').ownBlock = (Value.slice a n c).ownBlock ∨ (Value.slice a' n' c').ownBlock = some w3.heap.size) : GOwn w4 lo a' n' c' (gs ++ [(k, v)]) (G ++ [(k, rs)]) := by
  have hv : ∀ g, v.ownBlock = some g → w.heap.size ≤ g := fun g e => (own_ge hO3 g e).1
  have F := h.fam.snoc hb (own_base' hO3 hlo) hv
  have hne : ∀ u ∈ gs.map (·.2) ++ [v], ∀ g, u.ownBlock = some g → (Value.slice a n c).ownBlock ≠ some g := by
    intro u hu g hg
    rcases List.mem_append.1 hu with hu | hu
    · exact h.out u hu g hg
    · rw [List.mem_singleton] at hu
      subst hu
      intro e
      have h1 := (own_ge h.outer g e).2
      have h2 := hv g hg
      omega
  have e1 : (gs ++ [(k, v)]).map (·.2) = gs.map (·.2) ++ [v] := by simp
  have e2 : (G ++ [(k, rs)]).map (·.2) = G.map (·.2) ++ [rs] := by simp
  refine ⟨by rw [gcells_snoc]; exact hO4, by rw [List.map_append, List.map_append, h.keys]; rfl, ?_, ?_⟩
  · rw [e1, e2]
    exact ⟨F.len, fun i u rs' hu hr => own_other (F.own i u rs' hu hr) hg4 (fun g h1 h2 => hne u (List.mem_of_getElem? hu) g h1 h2), F.sep⟩
  · rw [e1]
    intro u hu g hg
    rcases hat with e | e
    · rw [e]; exact hne u hu g hg
    · rw [e]
      intro e2
      injection e2 with e2
      obtain ⟨i, hi⟩ := List.getElem?_of_mem hu
      have hil : i < (G.map (·.2) ++ [rs]).length := by
        have := (List.getElem?_eq_some_iff.1 hi).1
        rw [F.len] at this
        exact this
      have := F.own i u _ hi (List.getElem?_eq_getElem hil)
      have := (own_ge this g hg).2
      omega
/-- The slice of a group is made anew, in a new block, and stored. -/
theorem GOwn.put {w w3 : World} {lo n c g p : Nat} {gs : List (ByteArray × Value)} {G : List (ByteArray × List RowV)} {k : ByteArray} {v v' : Value} {rs' : List RowV} (h : GOwn w lo (some ⟨g, 0, none⟩) n c gs G) (hlo : lo ≤ w.heap.size) (hv : gs[p]? = some (k, v)) (hb : Below w.heap.size w w3)
    (hO : w3.ownsRow w.heap.size 77 3 v' rs'.length (flat rs')) : GOwn (w3.setCell ⟨g, p * 2 + 1, none⟩ v') lo (some ⟨g, 0, none⟩) n c (gs.set p (k, v')) (G.set p (k, rs')) := by
  have hgo : (Value.slice (some ⟨g, 0, none⟩) n c).ownBlock = some g := rfl
  have hgw := (own_ge h.outer g hgo).2
  have hp := (List.getElem?_eq_some_iff.1 hv).1
  have hat : ∀ g, v'.ownBlock = some g → w.heap.size ≤ g := fun g e => (own_ge hO g e).1
  have F := h.fam.renew (i := p) (by rw [List.length_map]; exact hp) hb (own_base' hO hlo) hat
  have hout : ∀ u ∈ (gs.map (·.2)).set p v', ∀ g', u.ownBlock = some g' → (Value.slice (some ⟨g, 0, none⟩) n c).ownBlock ≠ some g' := by
    intro u hu g' hg' he
    rw [hgo] at he
    injection he with he
    rcases List.mem_or_eq_of_mem_set hu with hu | rfl
    · exact h.out u hu g' hg' (by rw [hgo, he])
    · have := hat g' hg'; omega
  have e1 : (gs.set p (k, v')).map (·.2) = (gs.map (·.2)).set p v' := by rw [List.map_set]
  have e2 : (G.set p (k, rs')).map (·.2) = (G.map (·.2)).set p rs' := by rw [List.map_set]
  have hk : (G.map (·.1))[p]? = some k := by rw [← h.keys, List.getElem?_map, hv]; rfl
  refine ⟨?_, ?_, ?_, ?_⟩
  · rw [← gcells_set gs p k v v' hv]
    exact ((own_below h.outer hb).stored (p * 2 + 1) v').1
  · rw [List.map_set, List.map_set, h.keys]
  · rw [e1, e2]
    refine ⟨F.len, fun i u rs hu hr => ?_, F.sep⟩
    refine own_other (F.own i u rs hu hr) (gb_store (World.grownBy.refl w3 (some g)) (p * 2 + 1) v') (fun g' h1 h2 => ?_)
    injection h2 with h2
    exact hout u (List.mem_of_getElem? hu) g' h1 (by rw [hgo, h2])
  · rw [e1]; exact hout
end Go.Proofs.Ytjepmcepgoncnaa

namespace Go.Proofs.Ytjepmcepgoncnaa
open Go.RowKit
variable {a : Option Addr} {m : Nat} {l : List RowV}
/-- What stands ready for the second append, in the world W2, with the row at block s. -/
def Ready (w w3 W2 : World) (t : TypeId) (s : Nat) (v : Value) (n : Nat) (xs : List Value) (rk : ByteArray) (rt : Int) (rv : ByteArray) : Prop :=
  Below w.heap.size w w3 ∧ Hid (W2.ownsRow w.heap.size t 3 v n xs) ∧ Hid (∀ j u, [Value.string rk, .int .i64 rt, .string rv][j]? = some u → W2.cell? ((⟨s, 0, none⟩ : Addr).add j) = some u) ∧ Hid (Below w.heap.size w W2)
theorem arm_A (w : World) (rk : ByteArray) (rt : Int) (rv : ByteArray) (t : TypeId) (h : Rd w w.heap.size 3 a m (flat l)) :
    (w.alloc (.cells #[] t)).drew.ownsRow w.heap.size t 3 (.slice (some ⟨w.heap.size, 0, none⟩) 0 0) 0 [] ∧ Rd (w.alloc (.cells #[] t)).drew w.heap.size 3 a m (flat l) ∧ w.heap.size ≤ (w.alloc (.cells #[] t)).drew.heap.size ∧
      ∀ v n w3, w3.ownsRow w.heap.size t 3 v n ([] ++ flat l) → (w.alloc (.cells #[] t)).drew.grownBy w3 (Value.slice (some ⟨w.heap.size, 0, none⟩) 0 0).ownBlock →
        Ready w w3 (w3.alloc (.cells #[.string rk, .int .i64 rt, .string rv] t)) t w3.heap.size v n ([] ++ flat l) rk rt rv := by
  have hb : Below w.heap.size w (w.alloc (.cells #[] t)).drew := ((Below.refl _ w).alloc (Nat.le_refl _) _).drew
  refine ⟨(World.ownsRow_lit (base := w.heap.size) (e := t) (size := 3) w #[] 0 (Nat.le_refl _) (Nat.zero_le _) rfl).drew, h.below hb (Nat.le_refl _), hb.size, fun v n w3 hO hg => ?_⟩
  have hb3 := hb.grown hg hb.size (fun q e => by simp [Value.ownBlock] at e; omega)
  refine ⟨hb3, Lib.hid (hO.alloc _), Lib.hid fun j u hu => ?_, Lib.hid (hb3.alloc hb3.size _)⟩
  rw [Addr.add_mid, Nat.zero_add]
  rcases j with _ | _ | _ | j <;> simp at hu <;> subst hu <;> simp [go_sem]
theorem arm_B (w : World) (rk : ByteArray) (rt : Int) (rv : ByteArray) (t : TypeId) (h : Rd w w.heap.size 3 a m (flat l)) :
    ((w.alloc (.cells #[] t)).alloc (.cells #[.string rk, .int .i64 rt, .string rv] t)).drew.ownsRow w.heap.size t 3 (.slice (some ⟨w.heap.size, 0, none⟩) 0 0) 0 [] ∧ Rd ((w.alloc (.cells #[] t)).alloc (.cells #[.string rk, .int .i64 rt, .string rv] t)).drew w.heap.size 3 a m (flat l) ∧ w.heap.size ≤ ((w.alloc (.cells #[] t)).alloc (.cells #[.string rk, .int .i64 rt, .string rv] t)).drew.heap.size ∧
      ∀ v n w3, w3.ownsRow w.heap.size t 3 v n ([] ++ flat l) → ((w.alloc (.cells #[] t)).alloc (.cells #[.string rk, .int .i64 rt, .string rv] t)).drew.grownBy w3 (Value.slice (some ⟨w.heap.size, 0, none⟩) 0 0).ownBlock →
        Ready w w3 w3 t (w.heap.size + 1) v n ([] ++ flat l) rk rt rv := by
  have hb : Below w.heap.size w ((w.alloc (.cells #[] t)).alloc (.cells #[.string rk, .int .i64 rt, .string rv] t)).drew := (((Below.refl _ w).alloc (Nat.le_refl _) _).alloc (by simp) _).drew
  refine ⟨((World.ownsRow_lit (base := w.heap.size) (e := t) (size := 3) w #[] 0 (Nat.le_refl _) (Nat.zero_le _) rfl).alloc _).drew, h.below hb (Nat.le_refl _), hb.size, fun v n w3 hO hg => ?_⟩
  have hb3 := hb.grown hg hb.size (fun q e => by simp [Value.ownBlock] at e; omega)
  refine ⟨hb3, Lib.hid hO, Lib.hid fun j u hu => ?_, Lib.hid hb3⟩
  rw [Addr.add_mid, Nat.zero_add]
  refine (World.cell?_of_block (a := ⟨w.heap.size + 1, j, none⟩) (hg.block (w.heap.size + 1) (by simp) (fun e => by simp [Value.ownBlock] at e))).trans ?_
  rcases j with _ | _ | _ | j <;> simp at hu <;> subst hu <;> simp [go_sem]
theorem arm_C (w : World) (rk : ByteArray) (rt : Int) (rv : ByteArray) (t : TypeId) (h : Rd w w.heap.size 3 a m (flat l)) :
    ((w.alloc (.cells #[.string rk, .int .i64 rt, .string rv] t)).alloc (.cells #[] t)).drew.ownsRow w.heap.size t 3 (.slice (some ⟨w.heap.size + 1, 0, none⟩) 0 0) 0 [] ∧ Rd ((w.alloc (.cells #[.string rk, .int .i64 rt, .string rv] t)).alloc (.cells #[] t)).drew w.heap.size 3 a m (flat l) ∧ w.heap.size ≤ ((w.alloc (.cells #[.string rk, .int .i64 rt, .string rv] t)).alloc (.cells #[] t)).drew.heap.size ∧
      ∀ v n w3, w3.ownsRow w.heap.size t 3 v n ([] ++ flat l) → ((w.alloc (.cells #[.string rk, .int .i64 rt, .string rv] t)).alloc (.cells #[] t)).drew.grownBy w3 (Value.slice (some ⟨w.heap.size + 1, 0, none⟩) 0 0).ownBlock →
        Ready w w3 w3 t w.heap.size v n ([] ++ flat l) rk rt rv := by
  have hb : Below w.heap.size w ((w.alloc (.cells #[.string rk, .int .i64 rt, .string rv] t)).alloc (.cells #[] t)).drew := (((Below.refl _ w).alloc (Nat.le_refl _) _).alloc (by simp) _).drew
  have hl := (World.ownsRow_lit (base := w.heap.size) (e := t) (size := 3) (w.alloc (.cells #[.string rk, .int .i64 rt, .string rv] t)) #[] 0 (by simp) (Nat.zero_le _) rfl).drew
  rw [World.size_alloc] at hl
  refine ⟨hl, h.below hb (Nat.le_refl _), hb.size, fun v n w3 hO hg => ?_⟩
  have hb3 := hb.grown hg hb.size (fun q e => by simp [Value.ownBlock] at e; omega)
  refine ⟨hb3, Lib.hid hO, Lib.hid fun j u hu => ?_, Lib.hid hb3⟩
  rw [Addr.add_mid, Nat.zero_add]
  refine (World.cell?_of_block (a := ⟨w.heap.size, j, none⟩) (hg.block w.heap.size (by simp; omega) (fun e => by simp [Value.ownBlock] at e))).trans ?_
  rcases j with _ | _ | _ | j <;> simp at hu <;> subst hu <;> simp [go_sem]
end Go.Proofs.Ytjepmcepgoncnaa

namespace Go.Proofs.Ytjepmcepgoncnaa
open Go.RowKit
theorem infoGroup : (Try.prog.info? 39).map (fun i => (i.zero, i.size, i.bytes)) = some (some (.agg #[.string ⟨#[]⟩, .slice none 0 0]), 2, 40) := by kernel_rfl
theorem group_one (k : ByteArray) (a : Option Addr) (n c : Nat) : ∀ u ∈ [Value.string k, .slice a n c], u.oneCell' = true := by
  intro u hu
  simp only [List.mem_cons, List.not_mem_nil, or_false] at hu
  rcases hu with rfl | rfl <;> rfl
theorem group_lit (w : World) (k : ByteArray) (t : Int) (v : ByteArray) (tr tg : TypeId) : ∀ j u, [Value.string k, .slice (some ⟨w.heap.size, 0, none⟩) 1 1][j]? = some u →
    ((w.alloc (.cells #[.string k, .int .i64 t, .string v] tr)).alloc (.cells #[.string k, .slice (some ⟨w.heap.size, 0, none⟩) 1 1] tg)).drew.cell? ((⟨w.heap.size + 1, 0, none⟩ : Addr).add j) = some u := by
  intro j u hu
  rw [Addr.add_mid, Nat.zero_add]
  rcases j with _ | _ | j <;> simp at hu <;> subst hu <;> simp [go_sem]
theorem rows_cells {w wr : World} {lo b o : Nat} {rk rv : ByteArray} {rt : Int} (hb : Below lo w wr) (hB : b < lo) (c0 : wr.cell? ⟨b, o, none⟩ = some (.string rk)) (c1 : wr.cell? ⟨b, o + 1, none⟩ = some (.int .i64 rt)) (c2 : wr.cell? ⟨b, o + 2, none⟩ = some (.string rv)) :
    ∀ W, Below lo w W → W.cell? ⟨b, o, none⟩ = some (.string rk) ∧ W.cell? ⟨b, o + 1, none⟩ = some (.int .i64 rt) ∧ W.cell? ⟨b, o + 2, none⟩ = some (.string rv) := fun _ h =>
  ⟨(h.cell (p := ⟨b, o, none⟩) hB).trans ((hb.cell (p := ⟨b, o, none⟩) hB).symm.trans c0), (h.cell (p := ⟨b, o + 1, none⟩) hB).trans ((hb.cell (p := ⟨b, o + 1, none⟩) hB).symm.trans c1), (h.cell (p := ⟨b, o + 2, none⟩) hB).trans ((hb.cell (p := ⟨b, o + 2, none⟩) hB).symm.trans c2)⟩
theorem groups_len {rs : List RowV} {M p : Nat} {k : ByteArray} {l : List RowV} (hM : rs.length ≤ M) (h : (groupsR rs)[p]? = some (k, l)) : l.length ≤ M := by
  have key : ∀ (f : Nat) (rs : List RowV), ∀ g ∈ groupsF f rs, g.2.length ≤ rs.length := by
    intro f
    induction f with
    | zero => intro rs g hg; cases hg
    | succ f ih =>
      intro rs g hg
      cases rs with
      | nil => cases hg
      | cons r rs =>
        rw [groupsF] at hg
        rcases List.mem_cons.1 hg with rfl | hg
        · exact leadN_le r.key (r :: rs)
        · have := ih _ g hg
          rw [List.length_drop] at this
          omega
  have := key _ rs _ (List.mem_of_getElem? h)
  simp only at this
  omega
theorem flat_oneG (l : List RowV) : ∀ u ∈ flat l, u.oneCell' = true := by
  induction l with
  | nil => simp [flat]
  | cons r l ih =>
    intro u hu
    rw [flat_cons] at hu
    simp only [List.mem_cons] at hu
    rcases hu with rfl | rfl | rfl | hu
    · rfl
    · rfl
    · rfl
    · exact ih u hu
section
variable {w v W' : World} {lo : Nat} {C : World → Prop}
theorem gFirst (hC : ∀ W, Below lo w W → C W) (hb : Below lo w v) : C v.drew ∧ Below lo w v.drew := ⟨hC _ hb.drew, hb.drew⟩
theorem gNew {W : World} {o : Obj} (hC : ∀ W, Below w.heap.size w W → C W) (G : C W ∧ Below w.heap.size w W) : C (W.alloc o) ∧ Below w.heap.size w (W.alloc o) := ⟨hC _ (G.2.alloc G.2.size _), G.2.alloc G.2.size _⟩
theorem gIn (hC : ∀ W, Below lo w W → C W) (H : Below lo v W') (G : Below lo w v) : C W' ∧ Below lo w W' := ⟨hC _ (G.trans H), G.trans H⟩
theorem gSet {W : World} {b j : Nat} {x : Value} (hC : ∀ W, Below lo w W → C W) (hb : lo ≤ b) (G : C W ∧ Below lo w W) : C (W.setCell ⟨b, j, none⟩ x) ∧ Below lo w (W.setCell ⟨b, j, none⟩ x) := ⟨hC _ (G.2.setCell (p := ⟨b, j, none⟩) hb _), G.2.setCell (p := ⟨b, j, none⟩) hb _⟩
end
def GroupsOut (rs : List RowV) (w : World) (e : Ending) (w' : World) : Prop :=
  ∃ b c gs, e = .returned (.slice b (groupsR rs).length c) ∧ Below w.heap.size w w' ∧ GOwn w' w.heap.size b (groupsR rs).length c gs (groupsR rs)
set_option maxRecDepth 100000 in
set_option maxHeartbeats 4000000 in
theorem l4Groups_any (a : Option Addr) (n cap : Nat) (rs : List RowV) (w : World) (hm : n ≤ 1048576) (hR : Rd w w.heap.size 3 a n (flat rs)) :
    Calls Try.prog 66 #[.slice a n cap] w (GroupsOut rs w) := by
  obtain ⟨i0, hi, hz0, hz1, hz2⟩ := info_parts infoRow
  obtain ⟨i1, hj, hy0, hy1, hy2⟩ := info_parts infoGroup
  have hrl := Lib.hid hR.rows_length
  have hb0 := bl1 w (.cells #[] 39)
  have O0 := World.ownsRow_lit (base := w.heap.size) (e := 39) (size := 2) w #[] 0 (Nat.le_refl _) (Nat.zero_le _) rfl
  go_enter Try.func66, Try.ntmps66
  go_wp2_with fail
  generalize w.alloc (.cells #[] 39) = w0 at *
  go_loopw [3, 4] (fun v i wr => ∃ (k q : Nat) (g : Option Addr) (c : Nat) (gs : List (ByteArray × Value)), i = .int .i64 k ∧ v = .slice g q c ∧ k ≤ n ∧ q ≤ k ∧ GOwn wr w.heap.size g q c gs (groupsR (rs.take k)) ∧ Below w.heap.size w wr) (fun _ i _ => n - (intOf i).toNat)
  case atStart => exact ⟨0, 0, _, _, [], rfl, rfl, Nat.zero_le _, Nat.le_refl _, ⟨O0, rfl, Fam.nil _ _, fun v hv => by cases hv⟩, hb0⟩
  case round =>
    obtain ⟨k, q, g, c, gs, rfl, rfl, hk, hqk, hP, hb⟩ := hrel
    clear O0 hb0
    by_cases hlt : k < n
    · obtain ⟨b, off, r, rfl, hB0, hr, c0, c1, c2⟩ := (hR.below hb (Nat.le_refl _)).row hlt
      obtain ⟨rk, rt, rv⟩ := r
      dsimp only at c0 c1 c2
      have hB := Nat.lt_of_lt_of_le hB0 hb.size
      have hCC := rows_cells hb hB0 c0 c1 c2
      have hGle : (rs.take k).length ≤ 1048576 := by rw [List.length_take, hrl.out]; omega
      have hlen := hP.len
      have E := Lib.hid (show groupsR (rs.take (k + 1)) = gstep (groupsR (rs.take k)) ⟨rk, rt, rv⟩ by rw [List.take_add_one, hr, Option.toList_some, groups_snoc])
      clear hr
      by_cases hq0 : q = 0
      · subst hq0
        have hnil : groupsR (rs.take k) = [] := List.eq_nil_of_length_eq_zero hlen.2
        have E2 := Lib.hid (show groupsR (rs.take (k + 1)) = groupsR (rs.take k) ++ [(rk, [⟨rk, rt, rv⟩])] by rw [E.out, hnil]; rfl)
        clear hnil hlen E
        go_wp2_with fail
        go_quiet (fail)
        have hP1 := hP.below (drewN_below wr nq)
        have hb1 := hb.trans ((drewN_below wr nq).mono hb.size)
        have c0' := ((drewN_below wr nq).cell (p := ⟨b, off + k * 3, none⟩) hB).trans c0
        have c1' := ((drewN_below wr nq).cell (p := ⟨b, off + k * 3 + 1, none⟩) hB).trans c1
        have c2' := ((drewN_below wr nq).cell (p := ⟨b, off + k * 3 + 2, none⟩) hB).trans c2
        have hB2 := Nat.lt_of_lt_of_le hB (drewN_below wr nq).size
        clear hP hb c0 c1 c2 hB
        generalize wr.drewN nq = w2 at *
        have HP := Lib.hid hP1
        have HB := Lib.hid hb1
        clear hP1 hb1
        go_wp2_with fail
        have lr := World.ownsRow_lit (base := w2.heap.size) (e := 77) (size := 3) w2 #[.string rk, .int .i64 rt, .string rv] 1 (Nat.le_refl _) (by decide) rfl
        have hbX : Below w2.heap.size w2 ((w2.alloc (.cells #[.string rk, .int .i64 rt, .string rv] 77)).alloc (.cells #[.string rk, .slice (some ⟨w2.heap.size, 0, none⟩) 1 1] 39)).drew := (((Below.refl _ w2).alloc (Nat.le_refl _) _).alloc (by simp) _).drew
        have HLR := Lib.hid ((lr.alloc (.cells #[.string rk, .slice (some ⟨w2.heap.size, 0, none⟩) 1 1] 39)).drew)
        have HO := Lib.hid (own_below HP.out.outer hbX)
        have HBX := Lib.hid hbX
        have HXS := Lib.hid (Nat.le_trans HB.out.size hbX.size)
        have HN := Lib.hid (group_lit w2 rk rt rv 77 39)
        have hlm : 0 + 1 ≤ maxLen := by unfold maxLen; omega
        have hlb : (0 + 1) * 40 ≤ 140737488355328 := by omega
        have d0 : (w2.alloc (.cells #[.string rk, .int .i64 rt, .string rv] 77)).cell? ⟨b, off + k * 3, none⟩ = some (.string rk) := (((Below.refl w2.heap.size w2).alloc (Nat.le_refl _) _).cell (p := ⟨b, off + k * 3, none⟩) hB2).trans c0'
        clear lr hbX
        go_region_law (refine step_append_own_at rfl (.tmp 48) (.tmp 60) 35 rfl w.heap.size 39 i1 (.agg #[.string ⟨#[]⟩, .slice none 0 0]) 2 40 Try.underlying35 hj hy0 hy1 hy2 rfl (by decide) (.slice g 0 c) 0 (gcells gs) rfl HO.out ⟨w2.heap.size + 1, 0, none⟩ 1 1 [.string rk, .slice (some ⟨w2.heap.size, 0, none⟩) 1 1] rfl rfl HN.out (group_one rk _ _ _) hlm hlb HXS.out ?_; intro v' w3 hO3 hg3 hat; obtain ⟨a3, c3, rfl⟩ := own_slice' hO3)
        all_goals
          have hbn := (HB.out.trans (HBX.out.mono HB.out.size)).grown hg3 HXS.out (fun q e => (own_ge HP.out.outer q e).1)
          have hPn := HP.out.snoc (rs := [⟨rk, rt, rv⟩]) HB.out.size HBX.out HLR.out hg3 hO3 hat
          clear hg3 hO3 hat HO HBX HXS HN HLR HP HB
          go_wp2_with fail
          go_roundw
          case rel => exact ⟨k + 1, 0 + 1, a3, c3, _, by go_num, rfl, by omega, by omega, by rw [E2.out]; exact hPn, hbn⟩
          case measure => simp [intOf]; omega

      obtain ⟨p, hp1, hp2⟩ : ∃ p, p < q ∧ q = p + 1 := ⟨q - 1, by omega, by omega⟩
      obtain ⟨bg, rfl, hbgw, hBG⟩ := own_form hP.outer (by omega)
      obtain ⟨⟨lk, ll⟩, hGp⟩ : ∃ x, (groupsR (rs.take k))[p]? = some x := ⟨_, List.getElem?_eq_getElem (by omega)⟩
      obtain ⟨⟨lk', lv⟩, hgp⟩ : ∃ x, gs[p]? = some x := ⟨_, List.getElem?_eq_getElem (by omega)⟩
      obtain rfl : lk' = lk := by
        have h1 : (gs.map (·.1))[p]? = some lk' := by rw [List.getElem?_map, hgp]; rfl
        rw [hP.keys, List.getElem?_map, hGp] at h1
        injection h1 with h1
        exact h1.symm
      have hlast : groupsR (rs.take k) = (groupsR (rs.take k)).take p ++ [(lk', ll)] := by
        have := List.take_add_one (l := groupsR (rs.take k)) (i := p)
        rw [hGp, Option.toList_some, List.take_of_length_le (by omega)] at this
        exact this
      have hlO := hP.fam.own p lv ll (by rw [List.getElem?_map, hgp]; rfl) (by rw [List.getElem?_map, hGp]; rfl)
      obtain ⟨va, vc, rfl⟩ := own_slice' hlO
      obtain ⟨e0, e1⟩ := gcells_at gs p _ hgp
      have hRo := Rd.of_own hP.outer
      obtain ⟨bx, ox, hbx, _, hcx⟩ := hRo.2 (by omega)
      injection hbx with hbx
      injection hbx with hb1x hb2x
      subst hb1x hb2x
      have d0 := hcx _ _ e0
      have d1 := hcx _ _ e1
      have f1 := hP.outer.frozenAt (p * 2 + 1)
      simp only [Nat.zero_add] at d0 d1
      have hW : IntKind.i64.wrap ((q : Int) - 1) = (p : Int) := by rw [IntWalk.i64_in _ (by omega)]; omega
      have hp3 : q < p + 2 := by omega
      have HLO := Lib.hid hlO
      have HE := Lib.hid hp2
      have HGP := Lib.hid hGp
      have Hgp := Lib.hid hgp
      have HLAST := Lib.hid hlast
      clear hp2 hlO hGp hgp hlast e0 e1 hRo hcx
      cases hd : (lk'.toList == rk.toList)
      · have hne : ¬ lk' = rk := fun e => by rw [e] at hd; simp at hd
        have E2 := Lib.hid (show groupsR (rs.take (k + 1)) = groupsR (rs.take k) ++ [(rk, [⟨rk, rt, rv⟩])] by
          rw [E.out, HLAST.out, gstep_ne _ _ _ _ hne])
        clear hne hlen E HLO HGP Hgp HLAST
        go_wp2_with fail
        go_quiet (fail)
        have hP1 := hP.below (drewN_below wr nq)
        have hb1 := hb.trans ((drewN_below wr nq).mono hb.size)
        have c0' := ((drewN_below wr nq).cell (p := ⟨b, off + k * 3, none⟩) hB).trans c0
        have c1' := ((drewN_below wr nq).cell (p := ⟨b, off + k * 3 + 1, none⟩) hB).trans c1
        have c2' := ((drewN_below wr nq).cell (p := ⟨b, off + k * 3 + 2, none⟩) hB).trans c2
        have hB2 := Nat.lt_of_lt_of_le hB (drewN_below wr nq).size
        clear hP hb c0 c1 c2 hB
        generalize wr.drewN nq = w2 at *
        have HP := Lib.hid hP1
        have HB := Lib.hid hb1
        clear hP1 hb1
        go_wp2_with fail
        have lr := World.ownsRow_lit (base := w2.heap.size) (e := 77) (size := 3) w2 #[.string rk, .int .i64 rt, .string rv] 1 (Nat.le_refl _) (by decide) rfl
        have hbX : Below w2.heap.size w2 ((w2.alloc (.cells #[.string rk, .int .i64 rt, .string rv] 77)).alloc (.cells #[.string rk, .slice (some ⟨w2.heap.size, 0, none⟩) 1 1] 39)).drew := (((Below.refl _ w2).alloc (Nat.le_refl _) _).alloc (by simp) _).drew
        have HLR := Lib.hid ((lr.alloc (.cells #[.string rk, .slice (some ⟨w2.heap.size, 0, none⟩) 1 1] 39)).drew)
        have HO := Lib.hid (own_below HP.out.outer hbX)
        have HBX := Lib.hid hbX
        have HXS := Lib.hid (Nat.le_trans HB.out.size hbX.size)
        have HN := Lib.hid (group_lit w2 rk rt rv 77 39)
        have hlm : q + 1 ≤ maxLen := by unfold maxLen; omega
        have hlb : (q + 1) * 40 ≤ 140737488355328 := by omega
        have d0 : (w2.alloc (.cells #[.string rk, .int .i64 rt, .string rv] 77)).cell? ⟨b, off + k * 3, none⟩ = some (.string rk) := (((Below.refl w2.heap.size w2).alloc (Nat.le_refl _) _).cell (p := ⟨b, off + k * 3, none⟩) hB2).trans c0'
        clear lr hbX
        go_region_law (refine step_append_own_at rfl (.tmp 48) (.tmp 60) 35 rfl w.heap.size 39 i1 (.agg #[.string ⟨#[]⟩, .slice none 0 0]) 2 40 Try.underlying35 hj hy0 hy1 hy2 rfl (by decide) (.slice (some ⟨bg, 0, none⟩) q c) q (gcells gs) rfl HO.out ⟨w2.heap.size + 1, 0, none⟩ 1 1 [.string rk, .slice (some ⟨w2.heap.size, 0, none⟩) 1 1] rfl rfl HN.out (group_one rk _ _ _) hlm hlb HXS.out ?_; intro v' w3 hO3 hg3 hat; obtain ⟨a3, c3, rfl⟩ := own_slice' hO3)
        all_goals
          have hbn := (HB.out.trans (HBX.out.mono HB.out.size)).grown hg3 HXS.out (fun q e => (own_ge HP.out.outer q e).1)
          have hPn := HP.out.snoc (rs := [⟨rk, rt, rv⟩]) HB.out.size HBX.out HLR.out hg3 hO3 hat
          clear hg3 hO3 hat HO HBX HXS HN HLR HP HB
          go_wp2_with fail
          go_roundw
          case rel => exact ⟨k + 1, q + 1, a3, c3, _, by go_num, rfl, by omega, by omega, by rw [E2.out]; exact hPn, hbn⟩
          case measure => simp [intOf]; omega

      · have E3 := Lib.hid (show groupsR (rs.take (k + 1)) = (groupsR (rs.take k)).set p (lk', ll ++ [⟨rk, rt, rv⟩]) by
          rw [List.set_eq_take_append_cons_drop, if_pos (by omega), List.drop_eq_nil_of_le (by omega), E.out]
          exact (congrArg (fun l => gstep l _) HLAST.out).trans (gstep_eq _ _ _ _ (ext_toList (eq_of_beq hd))))
        have hll : ll.length ≤ 1048576 := groups_len hGle HGP.out
        clear E HLAST
        go_wp2_with fail
        go_quiet (fail)
        have hP1 := hP.below (drewN_below wr nq)
        have hb1 := hb.trans ((drewN_below wr nq).mono hb.size)
        have hlO1 := own_below HLO.out (drewN_below wr nq)
        have d1' := ((drewN_below wr nq).cell (p := ⟨bg, p * 2 + 1, none⟩) hBG).trans d1
        have hBG2 := Nat.lt_of_lt_of_le hBG (drewN_below wr nq).size
        clear hP hb c0 c1 c2 hB d0 d1 f1 HLO
        generalize wr.drewN nq = w2 at *
        have s2 := hb1.size
        have HP := Lib.hid hP1
        have HB := Lib.hid hb1
        have RL := Rd.of_own hlO1
        have HC := Lib.hid hCC
        have x1 : (w2.alloc (.cells #[] 77)).cell? ⟨bg, p * 2 + 1, none⟩ = some (.slice va ll.length vc) := (((Below.refl w2.heap.size w2).alloc (Nat.le_refl _) _).cell (p := ⟨bg, p * 2 + 1, none⟩) hBG2).trans d1'
        have x2 : (w2.alloc (.cells #[.string rk, .int .i64 rt, .string rv] 77)).cell? ⟨bg, p * 2 + 1, none⟩ = some (.slice va ll.length vc) := (((Below.refl w2.heap.size w2).alloc (Nat.le_refl _) _).cell (p := ⟨bg, p * 2 + 1, none⟩) hBG2).trans d1'
        have x3 : ((w2.alloc (.cells #[] 77)).alloc (.cells #[.string rk, .int .i64 rt, .string rv] 77)).cell? ⟨bg, p * 2 + 1, none⟩ = some (.slice va ll.length vc) := ((((Below.refl w2.heap.size w2).alloc (Nat.le_refl _) _).alloc (by simp) _).cell (p := ⟨bg, p * 2 + 1, none⟩) hBG2).trans d1'
        have x4 : ((w2.alloc (.cells #[.string rk, .int .i64 rt, .string rv] 77)).alloc (.cells #[] 77)).cell? ⟨bg, p * 2 + 1, none⟩ = some (.slice va ll.length vc) := ((((Below.refl w2.heap.size w2).alloc (Nat.le_refl _) _).alloc (by simp) _).cell (p := ⟨bg, p * 2 + 1, none⟩) hBG2).trans d1'
        have HA := Lib.hid (arm_A w2 rk rt rv 77 RL)
        have HBB := Lib.hid (arm_B w2 rk rt rv 77 RL)
        have HCC := Lib.hid (arm_C w2 rk rt rv 77 RL)
        have y1 := hb1.alloc s2 (.cells #[] 77)
        have y2 := hb1.alloc s2 (.cells #[.string rk, .int .i64 rt, .string rv] 77)
        have y3 := y1.alloc (by have := y1.size; omega) (.cells #[.string rk, .int .i64 rt, .string rv] 77)
        have y4 := y2.alloc (by have := y2.size; omega) (.cells #[] 77)
        obtain ⟨z0, z1, z2⟩ := HC.out _ y1
        obtain ⟨z6, z7, z8⟩ := HC.out _ HB.out
        have hl0 : 0 + ll.length ≤ maxLen := by unfold maxLen; omega
        have hl1 : (0 + ll.length) * 40 ≤ 140737488355328 := by omega
        have hl2 : ll.length + 1 ≤ maxLen := by unfold maxLen; omega
        have hl3 : (ll.length + 1) * 40 ≤ 140737488355328 := by omega
        clear RL hP1 hb1 hCC hlO1 hd hGle
        go_wp2_with fail
        go_region_law (first | (refine step_append_rd rfl (.tmp 33) (.tmp 38) 24 rfl w2.heap.size 77 i0 (.agg #[.string ⟨#[]⟩, .int .i64 0, .string ⟨#[]⟩]) 3 40 Try.underlying24 hi hz0 hz1 hz2 rfl (by decide) _ 0 [] rfl HA.out.1 va w2.heap.size ll.length vc (flat ll) rfl HA.out.2.1 (flat_oneG _) hl0 hl1 HA.out.2.2.1 ?_; intro v' w3 hO3 hg3 hat; have hO4 := hO3; rw [Nat.zero_add, List.nil_append] at hO4; obtain ⟨a3, c3, rfl⟩ := own_slice' hO4; obtain ⟨hb3, HV2, HN2, HS2⟩ := HA.out.2.2.2 _ _ _ hO3 hg3; have hb4 := hb3.mono s2; simp only [Nat.zero_add, List.nil_append] at HV2; obtain ⟨z3, z4, z5⟩ := HC.out _ (HB.out.trans hb4)) | (refine step_append_rd rfl (.tmp 33) (.tmp 38) 24 rfl w2.heap.size 77 i0 (.agg #[.string ⟨#[]⟩, .int .i64 0, .string ⟨#[]⟩]) 3 40 Try.underlying24 hi hz0 hz1 hz2 rfl (by decide) _ 0 [] rfl HBB.out.1 va w2.heap.size ll.length vc (flat ll) rfl HBB.out.2.1 (flat_oneG _) hl0 hl1 HBB.out.2.2.1 ?_; intro v' w3 hO3 hg3 hat; have hO4 := hO3; rw [Nat.zero_add, List.nil_append] at hO4; obtain ⟨a3, c3, rfl⟩ := own_slice' hO4; obtain ⟨hb3, HV2, HN2, HS2⟩ := HBB.out.2.2.2 _ _ _ hO3 hg3; have hb4 := hb3.mono s2; simp only [Nat.zero_add, List.nil_append] at HV2; obtain ⟨z3, z4, z5⟩ := HC.out _ (HB.out.trans hb4)) | (refine step_append_rd rfl (.tmp 33) (.tmp 38) 24 rfl w2.heap.size 77 i0 (.agg #[.string ⟨#[]⟩, .int .i64 0, .string ⟨#[]⟩]) 3 40 Try.underlying24 hi hz0 hz1 hz2 rfl (by decide) _ 0 [] rfl HCC.out.1 va w2.heap.size ll.length vc (flat ll) rfl HCC.out.2.1 (flat_oneG _) hl0 hl1 HCC.out.2.2.1 ?_; intro v' w3 hO3 hg3 hat; have hO4 := hO3; rw [Nat.zero_add, List.nil_append] at hO4; obtain ⟨a3, c3, rfl⟩ := own_slice' hO4; obtain ⟨hb3, HV2, HN2, HS2⟩ := HCC.out.2.2.2 _ _ _ hO3 hg3; have hb4 := hb3.mono s2; simp only [Nat.zero_add, List.nil_append] at HV2; obtain ⟨z3, z4, z5⟩ := HC.out _ (HB.out.trans hb4)) | (refine step_append_own_at rfl (.tmp 39) (.tmp 44) 24 rfl w2.heap.size 77 i0 (.agg #[.string ⟨#[]⟩, .int .i64 0, .string ⟨#[]⟩]) 3 40 Try.underlying24 hi hz0 hz1 hz2 rfl (by decide) (.slice a3 ll.length c3) ll.length (flat ll) rfl HV2.out _ 1 1 [.string rk, .int .i64 rt, .string rv] rfl rfl HN2.out (row_one ⟨rk, rt, rv⟩) hl2 hl3 HS2.out.size ?_; intro v5 w5 hO5 hg5 hat5; obtain ⟨a5, c5, rfl⟩ := own_slice' hO5; have hb5 := HS2.out.grown hg5 HS2.out.size (fun q e => (own_ge HV2.out q e).1); have hb6 := hb5.mono s2; have hPo := own_below HP.out.outer hb5; obtain ⟨u0, x5⟩ := own_cell hPo (j := p * 2 + 1) (by omega); have f5 := hPo.frozenAt (p * 2 + 1)))
        all_goals
          have hO6 := Lib.hid (show w5.ownsRow w2.heap.size 77 3 (.slice a5 (ll.length + 1) c5) (ll ++ [(⟨rk, rt, rv⟩ : RowV)]).length (flat (ll ++ [(⟨rk, rt, rv⟩ : RowV)])) by rw [List.length_append, flat_append]; exact hO5)
          have hPn := HP.out.put (rs' := ll ++ [(⟨rk, rt, rv⟩ : RowV)]) HB.out.size Hgp.out hb5 hO6.out
          have hbn := (HB.out.trans hb6).setCell (p := ⟨bg, p * 2 + 1, none⟩) hbgw (.slice a5 (ll.length + 1) c5)
          clear hO3 hg3 hat hO4 hb3 HV2 HN2 HS2 hb4 hO5 hg5 hat5 hb5 hb6 hPo x5 f5 hO6 HP HB HC HA HBB HCC x1 x2 x3 x4 y1 y2 y3 y4 HGP Hgp
          go_wp2_with fail
          go_roundw
          case rel => exact ⟨k + 1, q, _, c, _, by go_num, rfl, by omega, by omega, by rw [E3.out]; exact hPn, hbn⟩
          case measure => simp [intOf]; omega
    · obtain rfl : k = n := by omega
      have e : rs.take k = rs := List.take_of_length_le (by rw [hrl.out]; omega)
      rw [e] at hP
      have HL := Lib.hid hP.len.2
      clear e
      go_wp2_with fail
      go_ret
      rw [← HL.out] at hP
      exact ⟨g, c, gs, by rw [HL.out]; rfl, hb, hP⟩
end Go.Proofs.Ytjepmcepgoncnaa

namespace Go.Proofs.Ytjepmcepgoncnaa
open Go.RowKit
def noDefer (o : Oper) : Bool := match o.op with | .defer _ => false | _ => true
theorem noDefer_out {o : Oper} (h : noDefer o = true) : ∀ c, o.op ≠ .defer c := by
  intro c e
  unfold noDefer at h
  rw [e] at h
  cases h
theorem wpIn_round {P : Program} {l n : Nat} {o : Oper} {a : Act} {w : World} {K : Act → World → Prop} {Q : Exit → Act → World → Prop} (hd : noDefer o = true) (h : o.wp P a w K Q) : o.wpIn (Fence.wide.inRound l) n P a w K Q := by
  refine ⟨fun _ _ => trivial, ?_⟩
  rw [Oper.semAt_plain _ _ _ (noDefer_out hd)]
  unfold Oper.wp at h
  revert h
  generalize (execOp a.eval o).run P w = r
  intro h
  cases r with
  | ok x w' =>
    cases x with
    | value v => exact h
    | skip => exact h
    | defer d => exact h
    | enter f args => exact ⟨fun h => (by cases h), (callsIn_wide (n := n - 1)).2 h⟩
    | row r args => exact ⟨fun h => (by cases h), fun c cs _ => let ⟨v, w2, h1, h2⟩ := h c cs; ⟨v, w2, h1, stepsIn_wide.2 h2⟩⟩
    | _ => exact h.elim
  | halt x w' => cases x <;> first | exact h | exact h.elim
theorem wpOpsIn_round {P : Program} {l n : Nat} {ops : Array Oper} {Q : Exit → Act → World → Prop} (hd : ∀ o ∈ ops.toList, noDefer o = true) (hQ : ¬ LetsOut Q) : ∀ (is : List Nat) (a : Act) (w : World), wpOps P ops Q is a w → wpOpsIn (Fence.wide.inRound l) n P ops Q is a w := by
  intro is
  induction is with
  | nil => exact fun a w h => h
  | cons i is ih =>
    intro a w h
    unfold wpOps at h
    unfold wpOpsIn
    cases ho : ops[i]? with
    | none => rw [ho] at h; exact ih _ _ h
    | some o =>
      rw [ho] at h
      have hm : o ∈ ops.toList := by
        obtain ⟨hi, rfl⟩ := Array.getElem?_eq_some_iff.1 ho
        simp
      simp only at h ⊢
      split
      · rename_i hw
        rw [if_pos hw] at h
        rcases h with h | ⟨_, h⟩
        · exact wpIn_round (hd o hm) (Oper.wp_mono (fun a w h => ih a w h) h)
        · exact absurd h hQ
      · rename_i hw
        rw [if_neg hw] at h
        exact ⟨fun _ _ => trivial, ih _ _ h⟩
theorem wpIn_region_round {P : Program} {l n id : Nat} {ops : List Oper} {Q : Exit → Act → World → Prop} {a : Act} {w : World} (hm : P.follows .mixedOrders = true) (hd : ops.all noDefer = true) (hQ : ¬ LetsOut Q)
    (h : wpAny P .any ops.toArray Q ops.length (Array.replicate ops.length false) a w.drew) : (Code.region id ops.toArray true).wpIn (Fence.wide.inRound l) n P Q a w := by
  refine wpIn_region_draw fun t => ?_
  refine wpOpsIn_round (fun o ho => List.all_eq_true.1 hd o (by simpa using ho)) hQ _ _ _ ?_
  simp only [Region.schedule, hm, Bool.true_or, if_true]
  have := wpAny_sound ops.length t _ a _ h
  simpa [Region.linearise] using this
end Go.Proofs.Ytjepmcepgoncnaa

namespace Go.Proofs.Ytjepmcepgoncnaa
open Go.RowKit Go.Shelf
attribute [local go_sem] Oper.semAt_some
def firstB (rs : List RowV) (N : Int) : Bool := sortedOk rs && decide (0 ≤ N)
/-- The first rows of each group. -/
def firstL (N : Nat) (gs : List (ByteArray × List RowV)) : List RowV := gs.flatMap fun g => g.2.take N
def firstS (rs : List RowV) (N : Int) : List RowV := if firstB rs N = true then firstL N.toNat (groupsR rs) else []
theorem firstL_snoc (N : Nat) (gs : List (ByteArray × List RowV)) (g : ByteArray × List RowV) : firstL N (gs ++ [g]) = firstL N gs ++ g.2.take N := by simp [firstL]
theorem firstL_bound (N : Nat) {w : World} {B : Nat} : ∀ (l : List (GrpIn w B)), (firstL N (grpsOf l)).length ≤ l.length * 1048576
  | [] => by simp [firstL, grpsOf]
  | x :: l => by
    have h1 : x.1.rows.length = x.1.n := x.2.1.rows_length
    have h2 := x.2.2.2.1
    have ih := firstL_bound N l
    have e : (firstL N (grpsOf (x :: l))).length = (x.1.rows.take N).length + (firstL N (grpsOf l)).length := by simp [firstL, grpsOf]
    rw [e, List.length_take, List.length_cons]
    omega
theorem grps_snoc (N : Nat) {w : World} {B : Nat} (l : List (GrpIn w B)) (x : GrpIn w B) : firstL N (grpsOf (l ++ [x])) = firstL N (grpsOf l) ++ x.1.rows.take N := by
  unfold grpsOf
  rw [List.map_append]
  exact firstL_snoc N _ _
/-- A box and another beside an append behind a draw, and the store of what came. -/
theorem boxed_appended {W w1 : World} {n₀ B : Nat} {t e : TypeId} {size : Nat} {v v' : Value} {k m : Nat} {xs ys : List Value}
    (hv : Boxed W B t v) (hte : t ≠ e) (hrow : W.ownsRow n₀ e size v k xs) (hn₀ : n₀ ≤ W.heap.size) (hB : n₀ ≤ B)
    (hown' : w1.ownsRow n₀ e size v' m ys) (hgrow : W.drew.grownBy w1 v.ownBlock) :
    Boxed w1 B t v ∧ Boxed (w1.setCell ⟨B, 0, none⟩ v') B t v' ∧ (w1.setCell ⟨B, 0, none⟩ v').ownsRow n₀ e size v' m ys ∧ KeepsOthers W (w1.setCell ⟨B, 0, none⟩ v') ∧ Below n₀ W (w1.setCell ⟨B, 0, none⟩ v') := by
  have hv1 : Boxed w1 B t v := (show Boxed W.drew B t v from hv).kept hgrow (hv.not_row hte hrow)
  refine ⟨hv1, hv1.set v', hown'.kept (grownBy_setCell' w1 B v') (.inr (hv1.not_row hte hown').symm), ?_, ?_⟩
  · refine ((KeepsOthers.drew W).trans (KeepsOthers.of_grownBy hgrow fun j o ej hj => ?_)).trans (KeepsOthers.setCell _ _ _)
    rcases hrow.2 with ⟨rfl, _⟩ | ⟨g, cap, cur, rfl, _, hgb, _⟩
    · simp [Value.ownBlock] at ej
    · obtain rfl : g = j := by simpa [Value.ownBlock] using ej
      rw [show W.drew.heap = W.heap from rfl, hgb] at hj; cases hj; rfl
  · refine (((Below.refl n₀ W).drew).grown hgrow hn₀ fun j ej => ?_).setCell (p := ⟨B, 0, none⟩) hB v'
    rcases hrow.2 with ⟨rfl, _⟩ | ⟨g, cap, cur, rfl, hb, _, _⟩
    · simp [Value.ownBlock] at ej
    · obtain rfl : g = j := by simpa [Value.ownBlock] using ej
      exact hb
theorem flat_one0 (l : List RowV) : ∀ u ∈ flat l, u.oneCell' = true := by
  induction l with
  | nil => simp [flat]
  | cons r l ih =>
    intro u hu
    rw [flat_cons] at hu
    simp only [List.mem_cons] at hu
    rcases hu with rfl | rfl | rfl | hu
    · rfl
    · rfl
    · rfl
    · exact ih u hu
def FirstOfOut (rs : List RowV) (N : Int) (w : World) (e : Ending) (w' : World) : Prop :=
  ∃ b c, e = .returned (.tuple #[.slice b (firstS rs N).length c, .bool (firstB rs N)]) ∧ Below w.heap.size w w' ∧ w'.ownsRow w.heap.size 77 3 (.slice b (firstS rs N).length c) (firstS rs N).length (flat (firstS rs N))
set_option maxRecDepth 100000 in
set_option maxHeartbeats 4000000 in
theorem implFirstOf_yes (a : Option Addr) (n cap M : Nat) (rs : List RowV) (w : World) (hm : n ≤ 120) (hnc : n ≤ cap) (hok : ∀ r ∈ rs, r.Ok) (hR : Rd w w.heap.size 3 a n (flat rs)) (hs : sortedOk rs = true) :
    Calls Try.prog 18 #[.slice a n cap, .int .i64 M] w fun e w' => ∃ b c, e = .returned (.tuple #[.slice b (firstL M (groupsR rs)).length c, .bool true]) ∧ Below w.heap.size w w' ∧ w'.ownsRow w.heap.size 77 3 (.slice b (firstL M (groupsR rs)).length c) (firstL M (groupsR rs)).length (flat (firstL M (groupsR rs))) := by
  obtain ⟨i0, hi, hz0, hz1, hz2⟩ := info_parts infoRow
  have hb0 := bl1 w (.cells #[.int .i64 M] 2)
  have bN := Boxed.new w 2 (.int .i64 M)
  have C0 := implSortedOk_any a n cap rs _ (by omega) hok ((hR.below hb0 (Nat.le_refl _)).more hb0.size)
  rw [hs] at C0
  have CB := fun w => byKey_any a n cap w
  have hM0 : decide ((M : Int) < 0) = false := decide_eq_false (by omega)
  refine (callsIn_wide (n := 5)).1 ?_
  refine callsIn_of_wp_marks Try.func18 rfl trivial ?_ rfl
  simp only [Try.ntmps18, List.size_toArray, List.length_cons, List.length_nil, Nat.reduceAdd, Nat.reduceSub, Array.replicate_succ, Array.replicate_zero, List.push_toArray, List.append_toArray, List.nil_append, List.cons_append]
  gi_wp2_with fail
  refine ⟨trivial, ?_⟩
  refine (callsIn_wide.2 C0).mono ?_
  rintro e w1 ⟨rfl, hb1⟩
  have hb := hb0.trans (hb1.mono hb0.size)
  have n1 := (hb1.cell (p := ⟨w.heap.size, 0, none⟩) bN.lt).trans bN.cell
  have bN1 : Boxed w1 w.heap.size 2 (.int .i64 M) := (hb1.block _ bN.lt).trans bN
  have l1 := bN1.lt
  clear C0 hb0 hb1 bN
  have bF := Boxed.new w1 24 (.slice none 0 0)
  have bF2 := bl1 w1 (.cells #[.slice none 0 0] 24)
  gi_wp2_with fail
  refine ⟨trivial, ?_⟩
  refine (callsIn_wide.2 (CB _)).mono ?_
  rintro e w2 ⟨rfl, rfl⟩
  gi_wp2_with fail
  have hW0 := (hb.trans (bF2.mono hb.size)).alloc (by have := bF2.size; have := hb.size; omega) (.cells #[.slice a n cap] 24)
  have bF3 := bF.alloc (.cells #[.slice a n cap] 24)
  have bN2 := (bN1.alloc (.cells #[.slice none 0 0] 24)).alloc (.cells #[.slice a n cap] 24)
  have bC := Boxed.new (w1.alloc (.cells #[.slice none 0 0] 24)) 24 (.slice a n cap)
  rw [World.size_alloc] at bC
  have hR0 := hR.below hW0 (Nat.le_refl _)
  generalize hWe : ((w1.alloc (.cells #[.slice none 0 0] 24)).alloc (.cells #[.slice a n cap] 24)) = W0 at *
  have hsz : w.heap.size ≤ W0.heap.size := hW0.size
  have hl1 : w1.heap.size < W0.heap.size := bF3.lt
  clear hWe
  refine wpIn_rangeFunc_ownF rfl (by omega) (gf := 105) (lb := #[.pointer (some ⟨w1.heap.size + 1, 0, none⟩)]) rfl trivial (enters_of Try.func105 (by kernel_rfl) rfl)
    (byKey_stops _ (w1.heap.size + 1) w.heap.size a n cap rs (by omega) hnc W0 hsz bC.cell bC.lt hR0) belowK_t (belowK_b hsz) (Below.refl _ _) (fun _ => rfl)
    (fun (pre : List (GrpIn W0 w.heap.size)) W => ((∃ v, Boxed W w1.heap.size 24 v ∧ W.ownsRow w.heap.size 77 3 v (firstL M (grpsOf pre)).length (flat (firstL M (grpsOf pre))) ∧ True) ∧ Boxed W w.heap.size 2 (.int .i64 M)) ∧ Below w.heap.size W0 W)
    (fun _ _ _ => False)
    (OwnFrom.and (OwnFrom.and (Own.from (holdsRow_own w.heap.size w1.heap.size 24 77 3 (fun pre => (firstL M (grpsOf pre)).length) (fun pre => flat (firstL M (grpsOf pre))) (fun _ _ => True)) _) (Own.from (boxed_own _ _ _) _)) (ownFrom_below hsz hsz))
    (fun _ _ _ _ _ hs _ _ => hs)
    ⟨⟨⟨_, bF3, World.ownsRow_nil _ _ _ _, trivial⟩, bN2⟩, Below.refl _ _⟩
    (fun x => { tmps := #[.slice a n cap, .int .i64 M, undef, .pointer (some ⟨w.heap.size, 0, none⟩), .slice none 0 0, .bool false, .pointer (some ⟨w1.heap.size, 0, none⟩), undef, .slice x.1.a x.1.n x.1.c, .slice a n cap, .bool true, .bool false, .bool false, .int .i64 M, .bool false, .bool false, .slice a n cap, .func (.func 105) #[] #[.pointer (some ⟨w1.heap.size + 1, 0, none⟩)], .string x.1.key, .slice x.1.a x.1.n x.1.c, undef, undef, undef, undef, undef, undef, undef, undef, undef], defers := [] })
    ?assign ?body ?done ?stop
  case assign =>
    intro l x W K hK
    simp only [grpV] at *
    gi_wp2_with fail
    exact hK
  case body =>
    rintro l pre x W ⟨⟨⟨v, hv, hrow, _⟩, hN⟩, hB⟩ hlt
    have hEq0 := grps_snoc M pre x
    obtain ⟨⟨key, xa, xn, xc, rows⟩, hxp⟩ := x
    obtain ⟨hxR, hxc, hxb, xb, xo, hxe⟩ := id hxp
    dsimp only at hxR hxc hxb hxe hEq0 ⊢
    subst hxe
    have hc := hv.cell
    have hcN := hN.cell
    obtain ⟨q, hq1, hqe⟩ : ∃ q : Nat, min (M : Int) (xn : Int) = (q : Int) ∧ q = min M xn := ⟨min M xn, by omega, rfl⟩
    have hq6 : q ≤ xc := by omega
    have hq3 : (q : Int) ≤ (xc : Int) := by omega
    have hq4 : (0 : Int) ≤ (q : Int) := by omega
    have hq5 : (q : Int) ≤ (xn : Int) := by omega
    have hqn : q ≤ xn := by omega
    have hxl : rows.length = xn := hxR.rows_length
    have hxW : Rd W w.heap.size 3 (some ⟨xb, xo, none⟩) q (flat (rows.take q)) := (hxR.below hB (Nat.le_refl _)).head hqn
    have HQ := Lib.hid hqe
    have hTk : rows.take M = rows.take q := by
      rw [hqe]
      rcases Nat.le_total M xn with h | h
      · rw [Nat.min_eq_left h]
      · rw [Nat.min_eq_right h, List.take_of_length_le (by omega), List.take_of_length_le (by omega)]
    have hEq := Lib.hid (hEq0.trans (congrArg (firstL M (grpsOf pre) ++ ·) hTk))
    clear hEq0 hTk
    have hfl := firstL_bound M pre
    have hpl : pre.length ≤ 120 := by have := hR.rows_length; omega
    have hsW : w.heap.size ≤ W.heap.size := Nat.le_trans hsz hB.size
    clear hqe
    refine wpIn_block ?_
    refine wpIn_region_round (by kernel_rfl) (by rfl) (by rintro ⟨a, w, h⟩; exact h) ?_
    refine wpAny_take (i := 1) (v := .slice (some ⟨xb, xo, none⟩) xn xc) rfl (by kernel_rfl) (by kernel_rfl) (by kernel_rfl) (fun _ _ _ h => h) (Or.inl ⟨by rfl, fun w => by go_simp⟩) ?_
    refine wpAny_take (i := 3) (v := .slice (some ⟨xb, xo, none⟩) xn xc) rfl (by kernel_rfl) (by kernel_rfl) (by kernel_rfl) (fun _ _ _ h => h) (Or.inl ⟨by rfl, fun w => by go_simp⟩) ?_
    refine wpAny_take (i := 4) (v := .int .i64 (xn : Int)) rfl (by kernel_rfl) (by kernel_rfl) (by kernel_rfl) (fun _ _ _ h => h) (Or.inl ⟨by rfl, fun w => by go_simp⟩) ?_
    refine wpAny_ready (rs := [0, 2]) (by kernel_rfl) (by simp) ?_
    refine AllReady.cons rfl (fun K hK => ?_) ?_
    · go_simp
      refine hK _ _ ?_
      clear hK K
      refine wpAny_ready (rs := [2]) (by kernel_rfl) (by simp) ?_
      refine AllReady.cons rfl (fun K hK => ?_) AllReady.nil
      go_simp
      refine hK _ _ ?_
      clear hK K
      refine wpAny_take (i := 5) (v := .int .i64 (q : Int)) rfl (by kernel_rfl) (by kernel_rfl) (by kernel_rfl) (fun _ _ _ h => h) (Or.inl ⟨by rfl, fun w => by go_simp⟩) ?_
      refine wpAny_take (i := 6) (v := .slice (some ⟨xb, xo, none⟩) q xc) rfl (by kernel_rfl) (by kernel_rfl) (by kernel_rfl) (fun _ _ _ h => h) (Or.inl ⟨by rfl, fun w => by go_simp⟩) ?_
      refine wpAny_ready (rs := [7]) (by kernel_rfl) (by simp) ?_
      refine AllReady.cons rfl (fun K hK => ?_) AllReady.nil
      refine step_append_rd rfl _ _ 24 rfl w.heap.size 77 i0 (.agg #[.string ⟨#[]⟩, .int .i64 0, .string ⟨#[]⟩]) 3 40 Try.underlying24 hi hz0 hz1 hz2 rfl (by decide) v _ _ rfl (show W.drew.ownsRow _ _ _ _ _ _ from hrow) (some ⟨xb, xo, none⟩) w.heap.size q _ (flat (rows.take q)) rfl (show Rd W.drew _ _ _ _ _ from hxW) (flat_one0 _) (by unfold maxLen; omega) (by omega) hsW ?_
      intro v' w2 hown' hgrow hblk
      obtain ⟨vb, vc, rfl, _⟩ := own_slice2 hown'
      obtain ⟨hv1, hv2, hr2, hk2, hb2⟩ := boxed_appended hv (by decide) hrow hsW (by omega) hown' hgrow
      have hc1 := hv1.cell
      have hf1 := hv1.frozen
      refine hK _ _ ?_
      clear hK K
      refine wpAny_ready (rs := [8]) (by kernel_rfl) (by simp) ?_
      refine AllReady.cons rfl (fun K hK => ?_) AllReady.nil
      go_simp
      refine hK _ _ ?_
      clear hK K
      refine wpAny_done (by kernel_rfl) ?_ _
      exact ⟨hk2, hb2, ⟨⟨_, hv2, by rw [hEq.out, List.length_append, List.length_take, hxl, Nat.min_eq_left hqn, flat_append]; exact hr2, trivial⟩, ((show Boxed W.drew _ _ _ from hN).kept hgrow (hN.not_row (by decide) hrow)).other (by omega) _⟩, hB.trans hb2⟩
    · refine AllReady.cons rfl (fun K hK => ?_) AllReady.nil
      go_simp
      refine hK _ _ ?_
      clear hK K
      refine wpAny_take (i := 5) (v := .int .i64 (q : Int)) rfl (by kernel_rfl) (by kernel_rfl) (by kernel_rfl) (fun _ _ _ h => h) (Or.inl ⟨by rfl, fun w => by go_simp⟩) ?_
      refine wpAny_take (i := 6) (v := .slice (some ⟨xb, xo, none⟩) q xc) rfl (by kernel_rfl) (by kernel_rfl) (by kernel_rfl) (fun _ _ _ h => h) (Or.inl ⟨by rfl, fun w => by go_simp⟩) ?_
      refine wpAny_ready (rs := [0]) (by kernel_rfl) (by simp) ?_
      refine AllReady.cons rfl (fun K hK => ?_) AllReady.nil
      go_simp
      refine hK _ _ ?_
      clear hK K
      refine wpAny_ready (rs := [7]) (by kernel_rfl) (by simp) ?_
      refine AllReady.cons rfl (fun K hK => ?_) AllReady.nil
      refine step_append_rd rfl _ _ 24 rfl w.heap.size 77 i0 (.agg #[.string ⟨#[]⟩, .int .i64 0, .string ⟨#[]⟩]) 3 40 Try.underlying24 hi hz0 hz1 hz2 rfl (by decide) v _ _ rfl (show W.drew.ownsRow _ _ _ _ _ _ from hrow) (some ⟨xb, xo, none⟩) w.heap.size q _ (flat (rows.take q)) rfl (show Rd W.drew _ _ _ _ _ from hxW) (flat_one0 _) (by unfold maxLen; omega) (by omega) hsW ?_
      intro v' w2 hown' hgrow hblk
      obtain ⟨vb, vc, rfl, _⟩ := own_slice2 hown'
      obtain ⟨hv1, hv2, hr2, hk2, hb2⟩ := boxed_appended hv (by decide) hrow hsW (by omega) hown' hgrow
      have hc1 := hv1.cell
      have hf1 := hv1.frozen
      refine hK _ _ ?_
      clear hK K
      refine wpAny_ready (rs := [8]) (by kernel_rfl) (by simp) ?_
      refine AllReady.cons rfl (fun K hK => ?_) AllReady.nil
      go_simp
      refine hK _ _ ?_
      clear hK K
      refine wpAny_done (by kernel_rfl) ?_ _
      exact ⟨hk2, hb2, ⟨⟨_, hv2, by rw [hEq.out, List.length_append, List.length_take, hxl, Nat.min_eq_left hqn, flat_append]; exact hr2, trivial⟩, ((show Boxed W.drew _ _ _ from hN).kept hgrow (hN.not_row (by decide) hrow)).other (by omega) _⟩, hB.trans hb2⟩
  case done =>
    rintro D ys W hD hys ⟨⟨⟨v, hv, hrow, _⟩, hN⟩, hB⟩ hK
    obtain ⟨fb, fc, rfl, _⟩ := own_slice2 hrow
    have hc := hv.cell
    gi_wp2_with fail
    rw [hys] at hrow
    refine ⟨by simp, .inl ⟨_, _, rfl, run_takeDeferred hK, ?_⟩⟩
    exact ⟨_, results_tmp2 rfl _ _ _, fb, fc, by simp, (hW0.trans hB).trans (belowK_b (w := w) (Nat.le_refl _) W D _ _ (by omega) hK rfl rfl), ownsRow_putObj hrow _ hK rfl⟩
  case stop =>
    rintro D c pre W _ _ h _
    exact h.elim
set_option maxRecDepth 100000 in
set_option maxHeartbeats 1000000 in
theorem implFirstOf_no (a : Option Addr) (n cap : Nat) (N : Int) (rs : List RowV) (w : World) (hm : n ≤ 1048576) (hok : ∀ r ∈ rs, r.Ok) (hR : Rd w w.heap.size 3 a n (flat rs)) (hq : firstB rs N = false) :
    Calls Try.prog 18 #[.slice a n cap, .int .i64 N] w fun e w' => e = .returned (.tuple #[.slice none 0 0, .bool false]) ∧ Below w.heap.size w w' := by
  have hb0 := bl1 w (.cells #[.int .i64 N] 2)
  have bN := Boxed.new w 2 (.int .i64 N)
  have C0 := implSortedOk_any a n cap rs _ hm hok ((hR.below hb0 (Nat.le_refl _)).more hb0.size)
  unfold firstB at hq
  cases hs : sortedOk rs
  case false =>
    rw [hs] at C0
    clear hq hs
    go_enter Try.func18, Try.ntmps18
    go_wp2_with fail
    refine C0.mono ?_
    rintro e w1 ⟨rfl, hb⟩
    have hb' := hb0.trans (hb.mono hb0.size)
    go_wp2_with fail
    go_ret2
    exact ⟨rfl, hb'⟩
  rw [hs] at C0 hq
  have hN : N < 0 := by simpa using hq
  have hN0 : decide (N < 0) = true := decide_eq_true hN
  clear hq hs
  go_enter Try.func18, Try.ntmps18
  go_wp2_with fail
  refine C0.mono ?_
  rintro e w1 ⟨rfl, hb⟩
  have hb' := hb0.trans (hb.mono hb0.size)
  have n1 := (hb.cell (p := ⟨w.heap.size, 0, none⟩) bN.lt).trans bN.cell
  go_wp2_with fail
  go_ret2
  exact ⟨rfl, hb'⟩
theorem sortedOk_le4 {rs : List RowV} (h : sortedOk rs = true) : rs.length ≤ 120 := by
  unfold sortedOk at h
  rw [Bool.and_eq_true] at h
  have h1 := h.1
  unfold rowsOk at h1
  rw [Bool.and_eq_true] at h1
  exact of_decide_eq_true h1.1
theorem implFirstOf_any (a : Option Addr) (n cap : Nat) (rs : List RowV) (N : Int) (w : World) (hm : n ≤ 1048576) (hnc : n ≤ cap) (hok : ∀ r ∈ rs, r.Ok) (hR : Rd w w.heap.size 3 a n (flat rs)) :
    Calls Try.prog 18 #[.slice a n cap, .int .i64 N] w fun e w' => ∃ b c, e = .returned (.tuple #[.slice b (firstS rs N).length c, .bool (firstB rs N)]) ∧ Below w.heap.size w w' ∧ w'.ownsRow w.heap.size 77 3 (.slice b (firstS rs N).length c) (firstS rs N).length (flat (firstS rs N)) := by
  unfold firstS
  cases hq : firstB rs N
  case false =>
    refine (implFirstOf_no a n cap N rs w hm hok hR hq).mono ?_
    rintro e w' ⟨rfl, hb⟩
    exact ⟨none, 0, rfl, hb, World.ownsRow_nil _ _ _ _⟩
  have hq2 := hq
  unfold firstB at hq2
  rw [Bool.and_eq_true] at hq2
  have hN : 0 ≤ N := of_decide_eq_true hq2.2
  obtain ⟨M, rfl⟩ : ∃ M : Nat, N = (M : Int) := ⟨N.toNat, by omega⟩
  exact implFirstOf_yes a n cap M rs w (by have := hR.rows_length; have := sortedOk_le4 hq2.1; omega) hnc hok hR hq2.1
end Go.Proofs.Ytjepmcepgoncnaa

namespace Go.Proofs.Ytjepmcepgoncnaa
open Go.RowKit
/-- Groups that are read, in blocks from lo up to hi. -/
def GIn (w : World) (lo hi : Nat) (a : Option Addr) (G : List (ByteArray × List RowV)) : Prop :=
  ∀ (i : Nat) (key : ByteArray) (rs : List RowV), G[i]? = some (key, rs) → ∃ b ra rc, a = some ⟨b, 0, none⟩ ∧ lo ≤ b ∧ b < hi ∧ w.cell? ⟨b, i * 2, none⟩ = some (.string key) ∧ w.cell? ⟨b, i * 2 + 1, none⟩ = some (.slice ra rs.length rc) ∧ rs.length ≤ rc ∧ RdIn w lo hi 3 ra rs.length (flat rs)
theorem GIn.of_own {w : World} {lo n c : Nat} {a : Option Addr} {gs : List (ByteArray × Value)} {G : List (ByteArray × List RowV)} (h : GOwn w lo a n c gs G) : GIn w lo w.heap.size a G := by
  intro i key rs hi
  have hil := (List.getElem?_eq_some_iff.1 hi).1
  obtain ⟨l1, l2⟩ := h.len
  obtain ⟨k2, v2⟩ : ∃ x, gs[i]? = some x := ⟨_, List.getElem?_eq_getElem (by omega)⟩
  obtain ⟨v2, hg⟩ : ∃ v, gs[i]? = some v := ⟨_, List.getElem?_eq_getElem (by omega)⟩
  obtain ⟨kk, vv⟩ := v2
  have hk : kk = key := by
    have e1 : (gs.map (·.1))[i]? = some kk := by rw [List.getElem?_map, hg]; rfl
    have e2 : (G.map (·.1))[i]? = some key := by rw [List.getElem?_map, hi]; rfl
    rw [h.keys, e2] at e1
    injection e1 with e1
    exact e1.symm
  subst hk
  have hO := h.fam.own i vv rs (by rw [List.getElem?_map, hg]; rfl) (by rw [List.getElem?_map, hi]; rfl)
  obtain ⟨va, vc, rfl, hc⟩ := own_slice2 hO
  obtain ⟨b, e, h1, h2⟩ := own_form h.outer (by omega)
  obtain ⟨c0, c1⟩ := gcells_at gs i _ hg
  have hsz := h.outer.1
  refine ⟨b, va, vc, e, h1, h2, ?_, ?_, hc, RdIn.of_own hO⟩
  · subst e
    rw [h.outer.cellAt (i * 2) (by omega)]; exact c0
  · subst e
    rw [h.outer.cellAt (i * 2 + 1) (by omega)]; exact c1
theorem GIn.below {w w' : World} {lo hi B : Nat} {a : Option Addr} {G : List (ByteArray × List RowV)} (h : GIn w lo hi a G) (hb : Below B w w') (hB : hi ≤ B) : GIn w' lo hi a G := by
  intro i key rs hi'
  obtain ⟨b, ra, rc, e, h1, h2, c0, c1, hc, hr⟩ := h i key rs hi'
  exact ⟨b, ra, rc, e, h1, h2, (hb.cell (p := ⟨b, i * 2, none⟩) (Nat.lt_of_lt_of_le h2 hB)).trans c0, (hb.cell (p := ⟨b, i * 2 + 1, none⟩) (Nat.lt_of_lt_of_le h2 hB)).trans c1, hc, hr.below hb hB⟩
theorem GIn.gb {w w' : World} {lo hi : Nat} {a : Option Addr} {G : List (ByteArray × List RowV)} {v : Value} (h : GIn w lo hi a G) (hg : w.grownBy w' v.ownBlock) (hi' : hi ≤ w.heap.size) (ha : Apart lo hi v) : GIn w' lo hi a G := by
  intro i key rs hx
  obtain ⟨b, ra, rc, e, h1, h2, c0, c1, hc, hr⟩ := h i key rs hx
  have hne : v.ownBlock ≠ some b := fun e' => by have := ha b e'; omega
  exact ⟨b, ra, rc, e, h1, h2, (World.cell?_of_block (a := ⟨b, i * 2, none⟩) (hg.block b (by omega) (fun e' => hne e'.symm))).trans c0, (World.cell?_of_block (a := ⟨b, i * 2 + 1, none⟩) (hg.block b (by omega) (fun e' => hne e'.symm))).trans c1, hc, hr.gb hg hi' ha⟩
theorem groups_flat : ∀ (n : Nat) (l : List RowV), l.length ≤ n → (groupsR l).flatMap (·.2) = l
  | _, [], _ => rfl
  | 0, _ :: _, h => by simp at h
  | n + 1, r :: l, h => by
    have hp := leadN_pos r l
    rw [groupsR_next, List.flatMap_cons, groups_flat n _ (by rw [List.length_drop]; rw [List.length_cons] at h ⊢; omega)]
    show leadL r.key (r :: l) ++ _ = _
    rw [← lead_take, List.take_append_drop]
theorem firstL_len (M : Nat) : ∀ G : List (ByteArray × List RowV), (firstL M G).length ≤ (G.flatMap (·.2)).length
  | [] => Nat.le_refl _
  | g :: G => by
    have ih := firstL_len M G
    have e : firstL M (g :: G) = g.2.take M ++ firstL M G := by simp [firstL]
    rw [e, List.flatMap_cons, List.length_append, List.length_append, List.length_take]
    omega
theorem firstL_take {M k : Nat} {G : List (ByteArray × List RowV)} {key : ByteArray} {rs : List RowV} (h : G[k]? = some (key, rs)) : firstL M (G.take (k + 1)) = firstL M (G.take k) ++ rs.take M := by
  rw [List.take_add_one, h, Option.toList_some, firstL_snoc]
theorem firstL_part (M k : Nat) (G : List (ByteArray × List RowV)) : (firstL M (G.take k)).length ≤ (firstL M G).length := by
  have e : firstL M G = firstL M (G.take k) ++ firstL M (G.drop k) := by
    unfold firstL
    rw [← List.flatMap_append, List.take_append_drop]
  rw [e, List.length_append]
  omega
theorem firstS_le (rs : List RowV) (N : Int) : (firstS rs N).length ≤ 1048576 := by
  unfold firstS
  split
  · rename_i h
    simp only [firstB, Bool.and_eq_true] at h
    have h1 := sortedOk_le4 h.1
    have h2 := firstL_len N.toNat (groupsR rs)
    rw [groups_flat _ rs (Nat.le_refl _)] at h2
    omega
  · exact Nat.zero_le _
theorem flat_oneF (l : List RowV) : ∀ u ∈ flat l, u.oneCell' = true := flat_one0 l
set_option maxRecDepth 100000 in
set_option maxHeartbeats 4000000 in
theorem specFirstOf_any (a : Option Addr) (n cap : Nat) (rs : List RowV) (N : Int) (w : World) (hm : n ≤ 1048576) (hok : ∀ r ∈ rs, r.Ok) (hR : Rd w w.heap.size 3 a n (flat rs)) :
    Calls Try.prog 16 #[.slice a n cap, .int .i64 N] w (FirstOfOut rs N w) := by
  have C0 := specSortedOk_any a n cap rs w hm hok hR
  unfold FirstOfOut
  cases hq : sortedOk rs
  case false =>
    rw [hq] at C0
    have E : firstB rs N = false := by unfold firstB; rw [hq]; rfl
    have E2 : firstS rs N = [] := by unfold firstS; rw [E]; rfl
    rw [E2, E]
    clear hq E E2
    go_enter Try.func16, Try.ntmps16
    go_wp2_with fail
    refine C0.mono ?_
    rintro e w1 ⟨rfl, hb⟩
    go_wp2_with fail
    go_ret2
    exact ⟨none, 0, rfl, hb, World.ownsRow_nil _ _ _ _⟩
  rw [hq] at C0
  cases hp : decide (0 ≤ N)
  case false =>
    have E : firstB rs N = false := by unfold firstB; rw [hp, Bool.and_false]
    have E2 : firstS rs N = [] := by unfold firstS; rw [E]; rfl
    rw [E2, E]
    have hN : decide (N < 0) = true := by simpa using hp
    clear hq E E2 hp
    go_enter Try.func16, Try.ntmps16
    go_wp2_with fail
    refine C0.mono ?_
    rintro e w1 ⟨rfl, hb⟩
    go_wp2_with fail
    go_ret2
    exact ⟨none, 0, rfl, hb, World.ownsRow_nil _ _ _ _⟩
  have hN1 : 0 ≤ N := by simpa using hp
  obtain ⟨M, rfl⟩ : ∃ M : Nat, N = (M : Int) := ⟨N.toNat, by omega⟩
  clear hN1
  have E : firstB rs M = true := by unfold firstB; rw [hp, hq]; rfl
  have E2 : firstS rs M = firstL M (groupsR rs) := by unfold firstS; rw [if_pos E]; rfl
  have hle := firstS_le rs M
  rw [E2] at hle
  rw [E2, E]
  have hM0 : decide ((M : Int) < 0) = false := decide_eq_false (by omega)
  have HP := Lib.hid (fun k => firstL_part M k (groupsR rs))
  generalize hT : firstL M (groupsR rs) = T
  have HT := Lib.hid hT
  rw [hT] at hle HP
  clear hq E E2 hp hT
  obtain ⟨i0, hi, hz0, hz1, hz2⟩ := info_parts infoRow
  go_enter Try.func16, Try.ntmps16
  go_wp2_with fail
  refine C0.mono ?_
  rintro e w1 ⟨rfl, hb⟩
  have hOn := World.ownsRow_lit (base := w1.heap.size) (e := 77) (size := 3) w1 #[] 0 (Nat.le_refl _) (Nat.zero_le _) rfl
  have hb1 := hb.trans ((bl1 w1 (.cells #[] 77)).mono hb.size)
  have H0 := Lib.hid (show (w1.alloc (.cells #[] 77)).heap.size = w1.heap.size + 1 by simp)
  have HZ := Lib.hid hb.size
  clear C0 hb
  go_wp2_with fail
  have R1 := (hR.below hb1 (Nat.le_refl _)).more hb1.size
  generalize w1.alloc (.cells #[] 77) = w2 at *
  refine (l4Groups_any a n cap rs w2 hm R1).mono ?_
  rintro e w3 ⟨ga, gc, gs, rfl, hb2, hG⟩
  have O1 := own_base' (own_below hOn hb2) HZ.out
  have B1 := hb1.trans (hb2.mono hb1.size)
  have G1 := GIn.of_own hG
  have s1 := hb2.size
  have A1 : Apart w2.heap.size w3.heap.size (.slice (some ⟨w1.heap.size, 0, none⟩) 0 0) := Apart.at_ (.inl (by have := H0.out; omega))
  have hgl : (groupsR rs).length ≤ 1048576 := by have := hG.len.2; have := groupsF_le rs.length rs; have := hR.rows_length; unfold groupsR; omega
  clear hG hOn hb1 hb2 R1 H0 hR
  generalize groupsR rs = G at *
  go_wp2_with fail
  obtain ⟨ng, hng⟩ : ∃ k, G.length = k := ⟨_, rfl⟩
  rw [hng] at hgl ⊢
  go_loopw [6, 8] (fun v i wr => ∃ (k q : Nat) (g : Option Addr) (c : Nat), k ≤ ng ∧ i = .int .i64 k ∧ v = .slice g q c ∧ q ≤ 1048576 ∧ Hid ((firstL M (G.take k)).length = q) ∧ wr.ownsRow w.heap.size 77 3 (.slice g q c) q (flat (firstL M (G.take k))) ∧ Below w.heap.size w wr ∧ GIn wr w2.heap.size w3.heap.size ga G ∧ Hid (Apart w2.heap.size w3.heap.size (.slice g q c)) ∧ w3.heap.size ≤ wr.heap.size) (fun _ j _ => ng - (intOf j).toNat)
  case atStart => exact ⟨0, 0, _, _, Nat.zero_le _, rfl, rfl, Nat.zero_le _, Lib.hid rfl, O1, B1, G1, Lib.hid A1, Nat.le_refl _⟩
  case round =>
    obtain ⟨k, q, g, c, hk, rfl, rfl, hq, HQ, hO, hb, hG, HA, hs⟩ := hrel
    clear O1 B1 G1 A1
    by_cases hlt : k < ng
    · obtain ⟨⟨key, xs⟩, hx⟩ : ∃ x, G[k]? = some x := ⟨_, List.getElem?_eq_getElem (by omega)⟩
      obtain ⟨b, ra, rc, rfl, h1, h2, _, c1, hxc, hxr⟩ := hG k key xs hx
      have E := Lib.hid (firstL_take (M := M) hx)
      obtain ⟨p, hp1, hp2⟩ : ∃ p : Nat, min (M : Int) (xs.length : Int) = (p : Int) ∧ p = min M xs.length := ⟨min M xs.length, by omega, rfl⟩
      have hTk : xs.take M = xs.take p := by
        rw [hp2]
        rcases Nat.le_total M xs.length with h | h
        · rw [Nat.min_eq_left h]
        · rw [Nat.min_eq_right h, List.take_of_length_le (by omega), List.take_of_length_le (by omega)]
      have hpx : p ≤ xs.length := by omega
      have HPL := Lib.hid (show (firstL M (G.take (k + 1))).length = q + p by rw [E.out, List.length_append, HQ.out, List.length_take]; omega)
      have hqp : q + p ≤ 1048576 := by have := HP.out (k + 1); rw [HPL.out] at this; omega
      have E3 := Lib.hid (show firstL M (G.take (k + 1)) = firstL M (G.take k) ++ xs.take p by rw [E.out, hTk])
      have hX : Rd wr.drew wr.drew.heap.size 3 ra p (flat (xs.take p)) := ((hxr.rd.more hs).head hpx)
      have hp3 : p ≤ rc := by omega
      have hp4 : (0 : Int) ≤ (p : Int) := by omega
      have hp5 : (p : Int) ≤ (rc : Int) := by omega
      have hl1 : q + p ≤ maxLen := by unfold maxLen; omega
      have hl2 : (q + p) * 40 ≤ 140737488355328 := by omega
      have hO' : wr.drew.ownsRow w.heap.size 77 3 (.slice g q c) q (flat (firstL M (G.take k))) := hO
      have hsd : w.heap.size ≤ wr.drew.heap.size := hb.size
      have c1' : wr.drew.cell? ⟨b, k * 2 + 1, none⟩ = some (.slice ra xs.length rc) := c1
      have HX := Lib.hid hX
      have HO := Lib.hid hO'
      have HB := Lib.hid hb.drew
      have HG := Lib.hid hG
      clear hx hp2 hTk hxr hX hO hO' hb hG E
      go_wp2_with fail
      go_region_law (refine step_append_rd rfl (.tmp 25) (.tmp 39) 24 rfl w.heap.size 77 i0 (.agg #[.string ⟨#[]⟩, .int .i64 0, .string ⟨#[]⟩]) 3 40 Try.underlying24 hi hz0 hz1 hz2 rfl (by decide) (.slice g q c) q _ rfl HO.out ra _ p rc (flat (xs.take p)) rfl HX.out (flat_oneF _) hl1 hl2 hsd ?_; intro v' w4 hO4 hg4 hat; obtain ⟨a4, c4, rfl⟩ := own_slice' hO4)
      all_goals
        have hb4 : Below w.heap.size w w4 := HB.out.grown hg4 hsd (fun q e => (own_ge HO.out q e).1)
        have hG4 := GIn.gb (show GIn wr.drew w2.heap.size w3.heap.size _ G from HG.out) hg4 hs HA.out
        have HA4 := Lib.hid (HA.out.next hat hs)
        have hs4 : w3.heap.size ≤ w4.heap.size := Nat.le_trans hs hg4.size
        have hO5 : w4.ownsRow w.heap.size 77 3 (.slice a4 (q + p) c4) (q + p) (flat (firstL M (G.take (k + 1)))) := by
          rw [E3.out, flat_append]; exact hO4
        clear hO4 hg4 hat HO HX HB HG HA HQ E3 c1' c1
        go_wp2_with fail
        go_roundw
        case rel => exact ⟨k + 1, q + p, a4, c4, by omega, by go_num, rfl, hqp, HPL, hO5, hb4, hG4, HA4, hs4⟩
        case measure => simp [intOf]; omega
    · obtain rfl : k = ng := by omega
      have e : G.take k = G := List.take_of_length_le (by omega)
      have hl := HQ.out
      rw [e, HT.out] at hO hl
      have HL := Lib.hid hl
      clear e hl HP HQ
      go_wp2_with fail
      go_ret2
      refine ⟨g, c, ?_, hb, ?_⟩
      · rw [HL.out]; rfl
      · rw [HL.out]; exact hO
end Go.Proofs.Ytjepmcepgoncnaa

namespace Go.Proofs.Ytjepmcepgoncnaa
open Go.RowKit

set_option maxRecDepth 100000 in
set_option maxHeartbeats 4000000 in
theorem walk_ExactFirstOf (a0 : Option Addr) (len0 cap0 : Nat) (x0 : List RowV) (N1 : Int) (w : World) (hI0 : IsRows w a0 len0 cap0 x0) (_ : (Lit.int .i64 N1).wf = true) :
    Calls Try.prog 3 #[.slice a0 len0 cap0, .int .i64 N1] w fun e w' => e = .returned (.bool true) ∧ Below w.heap.size w w' := by
  obtain ⟨hlc0, hcm0, hok0, hR0⟩ := hI0
  have CS : ∀ (b0 : Option Addr) (c0 : Nat) (w : World), len0 ≤ 1048576 → Rd w w.heap.size 3 b0 len0 (flat x0) → Calls Try.prog 16 #[.slice b0 len0 c0, .int .i64 N1] w fun e w' => ∃ a c, e = .returned (.tuple #[.slice a (firstS x0 N1).length c, .bool (firstB x0 N1)]) ∧ Below w.heap.size w w' ∧ w'.ownsRow w.heap.size 77 3 (.slice a (firstS x0 N1).length c) (firstS x0 N1).length (flat (firstS x0 N1)) := fun b0 c0 w m0 d0 => specFirstOf_any b0 len0 c0 x0 N1 w  m0 hok0 d0
  have CI : ∀ (b0 : Option Addr) (c0 : Nat) (w : World), len0 ≤ c0 → len0 ≤ 1048576 → Rd w w.heap.size 3 b0 len0 (flat x0) → Calls Try.prog 18 #[.slice b0 len0 c0, .int .i64 N1] w fun e w' => ∃ a c, e = .returned (.tuple #[.slice a (firstS x0 N1).length c, .bool (firstB x0 N1)]) ∧ Below w.heap.size w w' ∧ w'.ownsRow w.heap.size 77 3 (.slice a (firstS x0 N1).length c) (firstS x0 N1).length (flat (firstS x0 N1)) := fun b0 c0 w g0 m0 d0 => implFirstOf_any b0 len0 c0 x0 N1 w  m0 g0 hok0 d0
  have hsl := firstS_le x0 N1
  generalize (firstB x0 N1) = ok at CS CI
  generalize firstS x0 N1 = ss at CS CI hsl
  have hsm := hsl
  clear hsl
  generalize hln : ss.length = m at CS CI hsm
  clear hln
  go_enter Try.func3, Try.ntmps3
  have B0 := Below.refl w.heap.size w
  go_wp2_with fail
  refine (szRowS_any a0 len0 cap0 x0 _ _ (by omega) hok0 ((hR0.below B0 (Nat.le_refl _)).more B0.size) (by omega) (by omega)).mono ?_
  rintro e w1 ⟨z1, rfl, hb, hz⟩
  rcases hz with rfl | ⟨hz0_0, hz1_0, hz2_0⟩
  · go_wp2_with fail
    go_ret
    exact ⟨rfl, B0.trans (hb.mono B0.size)⟩
  have B1 := B0.trans (hb.mono B0.size)
  have s1 : w.heap.size ≤ w1.heap.size := hb.size
  clear hb B0
  have hm0 : len0 ≤ 1048576 := by omega
  go_wp2_with fail
  refine (toRowS_any a0 len0 cap0 x0 _ hm0 ((hR0.below B1 (Nat.le_refl _)).more B1.size)).mono ?_
  rintro e w2 ⟨rfl, hb, hO⟩
  have B2 := B1.trans (hb.mono B1.size)
  have s2 : w1.heap.size ≤ w2.heap.size := hb.size
  clear hb B1
  have S0_2 := hO
  clear hO
  go_wp2_with fail
  refine (CS _ len0 _ hm0 (Rd.of_own S0_2)).mono ?_
  rintro e w3 ⟨aW, cW, rfl, hb, hO⟩
  have B3 := B2.trans (hb.mono B2.size)
  have s3 : w2.heap.size ≤ w3.heap.size := hb.size
  have S0_3 := own_below S0_2 hb
  clear S0_2
  clear hb B2
  have V_3 := Rd.of_own hO
  clear hO CS
  clear S0_3
  go_wp2_with fail
  refine (toRowS_any a0 len0 cap0 x0 _ hm0 ((hR0.below B3 (Nat.le_refl _)).more B3.size)).mono ?_
  rintro e w4 ⟨rfl, hb, hO⟩
  have B4 := B3.trans (hb.mono B3.size)
  have s4 : w3.heap.size ≤ w4.heap.size := hb.size
  have V_4 := V_3.below hb (by omega)
  clear V_3
  clear hb B3
  have X0_4 := hO
  clear hO
  have hX0 : w3.heap.size < w4.heap.size := (own_ge X0_4 w3.heap.size rfl).2
  go_wp2_with fail
  refine (CI _ len0 _ (Nat.le_refl _) hm0 (Rd.of_own X0_4)).mono ?_
  rintro e w5 ⟨aG, cG, rfl, hb, hO⟩
  have B5 := B4.trans (hb.mono B4.size)
  have s5 : w4.heap.size ≤ w5.heap.size := hb.size
  have V_5 := V_4.below hb (by omega)
  clear V_4
  have X0_5 := own_below X0_4 hb
  clear X0_4
  clear hb B4
  have G_5 := hO
  clear hO
  go_wp2_with fail
  refine (eqRowS_same aG aW m cG cW ss _ (by omega) (Rd.of_own G_5) (V_5.more (by omega))).mono ?_
  rintro e w6 ⟨rfl, hb⟩
  have B6 := B5.trans (hb.mono B5.size)
  have s6 : w5.heap.size ≤ w6.heap.size := hb.size
  have V_6 := V_5.below hb (by omega)
  clear V_5
  have X0_6 := own_below X0_5 hb
  clear X0_5
  have G_6 := own_below G_5 hb
  clear G_5
  clear hb B5
  go_wp2_with fail
  refine (toRowS_any a0 len0 cap0 x0 _ hm0 ((hR0.below B6 (Nat.le_refl _)).more B6.size)).mono ?_
  rintro e w7 ⟨rfl, hb, hO⟩
  have B7 := B6.trans (hb.mono B6.size)
  have s7 : w6.heap.size ≤ w7.heap.size := hb.size
  have V_7 := V_6.below hb (by omega)
  clear V_6
  have X0_7 := own_below X0_6 hb
  clear X0_6
  have G_7 := own_below G_6 hb
  clear G_6
  clear hb B6
  have Y0_7 := hO
  clear hO
  go_wp2_with fail
  refine (eqRowS_same _ _ len0 len0 len0 x0 _ hm0 (Rd.of_own X0_7) (Rd.of_own Y0_7)).mono ?_
  rintro e w8 ⟨rfl, hb⟩
  have B8 := B7.trans (hb.mono B7.size)
  have s8 : w7.heap.size ≤ w8.heap.size := hb.size
  have V_8 := V_7.below hb (by omega)
  clear V_7
  have X0_8 := own_below X0_7 hb
  clear X0_7
  have G_8 := own_below G_7 hb
  clear G_7
  have Y0_8 := own_below Y0_7 hb
  clear Y0_7
  clear hb B7
  clear Y0_8
  go_wp2_with fail
  refine (markRowS_any _ len0 len0 1 w3.heap.size _ _ hm0 (by omega) (by omega) X0_8).mono ?_
  rintro e w9 ⟨rfl, _, hg⟩
  have hS : Since w3.heap.size w4.heap.size w8 w9 := Since.of_gb hg (fun g e => by
    have e1 : w3.heap.size = g := by injection e
    omega)
  clear hg
  clear X0_8
  have s9 : w8.heap.size ≤ w9.heap.size := hS.size
  have B9 := B8.trans (hS.below (B := w.heap.size) (by have := B8.size; omega) B8.size)
  have V_9 := V_8.below (hS.below (B := w3.heap.size) (by omega) (by omega)) (Nat.le_refl _)
  clear V_8
  have G_9 := Since.own G_8 hS (by omega)
  clear G_8
  clear hS B8
  go_wp2_with fail
  refine (eqRowS_same aG aW m cG cW ss _ (by omega) (Rd.of_own G_9) (V_9.more (by omega))).mono ?_
  rintro e w10 ⟨rfl, hb⟩
  have B10 := B9.trans (hb.mono B9.size)
  have s10 : w9.heap.size ≤ w10.heap.size := hb.size
  have V_10 := V_9.below hb (by omega)
  clear V_9
  have G_10 := own_below G_9 hb
  clear G_9
  clear hb B9
  go_wp2_with fail
  refine (markRowS_any aG m cG 1 w4.heap.size _ _ (by omega) (by omega) (by omega) G_10).mono ?_
  rintro e w11 ⟨rfl, hG2, hg⟩
  have hS : Since w4.heap.size w10.heap.size w10 w11 := Since.of_gb hg (fun g e => own_ge G_10 g e)
  clear hg
  clear G_10
  have s11 : w10.heap.size ≤ w11.heap.size := hS.size
  have B11 := B10.trans (hS.below (B := w.heap.size) (by have := B10.size; omega) B10.size)
  have V_11 := V_10.below (hS.below (B := w3.heap.size) (by omega) (by omega)) (Nat.le_refl _)
  clear V_10
  clear hS B10
  have Z_11 := Rd.of_own hG2
  clear hG2
  go_wp2_with fail
  refine (heldRowS_any aG m cG 1 _ (by omega) (by omega) (by omega) (Z_11.more (by omega))).mono ?_
  rintro e w12 ⟨rfl, hb⟩
  have B12 := B11.trans (hb.mono B11.size)
  have s12 : w11.heap.size ≤ w12.heap.size := hb.size
  have V_12 := V_11.below hb (by omega)
  clear V_11
  have Z_12 := Z_11.below hb (by omega)
  clear Z_11
  clear hb B11
  go_wp2_with fail
  refine (toRowS_any a0 len0 cap0 x0 _ hm0 ((hR0.below B12 (Nat.le_refl _)).more B12.size)).mono ?_
  rintro e w13 ⟨rfl, hb, hO⟩
  have B13 := B12.trans (hb.mono B12.size)
  have s13 : w12.heap.size ≤ w13.heap.size := hb.size
  have V_13 := V_12.below hb (by omega)
  clear V_12
  have Z_13 := Z_12.below hb (by omega)
  clear Z_12
  clear hb B12
  have Q0_13 := hO
  clear hO
  go_wp2_with fail
  refine (CI _ len0 _ (Nat.le_refl _) hm0 (Rd.of_own Q0_13)).mono ?_
  rintro e w14 ⟨aH, cH, rfl, hb, hO⟩
  have B14 := B13.trans (hb.mono B13.size)
  have s14 : w13.heap.size ≤ w14.heap.size := hb.size
  have V_14 := V_13.below hb (by omega)
  clear V_13
  have Z_14 := Z_13.below hb (by omega)
  clear Z_13
  have Q0_14 := own_below Q0_13 hb
  clear Q0_13
  clear hb B13
  have H_14 := hO
  clear hO
  clear Q0_14
  go_wp2_with fail
  refine (eqRowS_same aH aW m cH cW ss _ (by omega) (Rd.of_own H_14) (V_14.more (by omega))).mono ?_
  rintro e w15 ⟨rfl, hb⟩
  have B15 := B14.trans (hb.mono B14.size)
  have s15 : w14.heap.size ≤ w15.heap.size := hb.size
  have V_15 := V_14.below hb (by omega)
  clear V_14
  have Z_15 := Z_14.below hb (by omega)
  clear Z_14
  have H_15 := own_below H_14 hb
  clear H_14
  clear hb B14
  clear H_15
  clear V_15
  go_wp2_with fail
  refine (heldRowS_any aG m cG 1 _ (by omega) (by omega) (by omega) (Z_15.more (by omega))).mono ?_
  rintro e w16 ⟨rfl, hb⟩
  have B16 := B15.trans (hb.mono B15.size)
  have s16 : w15.heap.size ≤ w16.heap.size := hb.size
  have Z_16 := Z_15.below hb (by omega)
  clear Z_15
  clear hb B15
  go_wp2_with fail
  go_ret
  exact ⟨rfl, B16⟩
end Go.Proofs.Ytjepmcepgoncnaa

namespace Go.Proofs.Ytjepmcepgoncnaa
open Go.ChangeShapes Go.WideShapes Go.ChangeAt Go.RowKit Go.Joins
open Go.ChangeMaps (open_string shut_string)
namespace ExactFirstOf

set_option maxRecDepth 100000 in
theorem lifted (os : Os) (started : os.Started) (H : Type) (enc : TypeId × Value → H) :
    ReturnsInHanded {} Try.checked os 3 .any (Rows.fnExactFirstOfSpec.pre6 enc Try.prog Try.f3 Rows.fnExactFirstOfRow.domain false) (Rows.fnExactFirstOfSpec.post enc Try.prog Try.f3 false true false false) := by
  refine returnsInHanded_of_change (C := Try.checked) own started (by kernel_rfl) Try.func3
    (ChangeSpec.witness6 (enc := enc) (C := Try.checked) false ⟨#[], #[.slice none 0 0, .int .i64 0], []⟩ 8 (by kernel_rfl) (by kernel_rfl) (by kernel_rfl) (by kernel_rfl)) ?_
  intro W base args ds gs before hval0 hW _ _
  have hval : ∀ (j : Nat) t v, Try.f3.params[j]? = some t → args[j]? = some v → Value.okWide Try.prog W .any base t v := hval0
  have hW' := hW
  obtain ⟨p, q, hA0, hV, rfl, _, _⟩ := hW
  have hA : DataW.TrodAll enc Try.prog W 0 (fun _ => true) true Try.f3.params.toList args.toList ds p := hA0
  rw [Try.params3] at hA hval
  obtain ⟨v0, vs0, d0, ds0, p0, q0, hargs, rfl, rfl, h0, r0⟩ := trodAll_cons hA
  obtain ⟨v1, vs1, d1, ds1, p1, q1, rfl, rfl, rfl, h1, r1⟩ := trodAll_cons r0
  obtain ⟨rfl, rfl, rfl⟩ := trodAll_nil r1
  obtain rfl : args = #[v0, v1] := by cases args; simp_all
  obtain ⟨rfl, rfl⟩ := trodVars_none hV
  have k0 := h0
  have lt0 : ∀ x ∈ p0, x.block < W.heap.size := by obtain ⟨m, hm⟩ := k0; exact DataW.trod_lt m _ _ _ hm
  obtain ⟨a0, len0, cap0, z0, rfl, w0⟩ := open_Rows (hval 0 22 v0 rfl rfl) h0
  have k1 := h1
  have lt1 : ∀ x ∈ p1, x.block < W.heap.size := by obtain ⟨m, hm⟩ := k1; exact DataW.trod_lt m _ _ _ hm
  obtain ⟨a1, rfl, rfl, rfl, w1⟩ := open_int Try.underlying2 (hval 1 2 v1 rfl rfl) h1
  clear hA0 hval0
  refine (walk_ExactFirstOf a0 len0 cap0 z0 a1 W w0 w1).mono fun e W' ⟨he, bel⟩ => ?_
  subst he
  exact ⟨_, rfl, _, _, _, [], _, [], hW', trodAll_mk1 (shut_bool Try.underlying4 _), (trodAll_cons_mk (Below.trod laidOut (by kernel_rfl) (of_decide_eq_true (by kernel_rfl)) k0 bel lt0) (trodAll_cons_mk (Below.trod laidOut (by kernel_rfl) (of_decide_eq_true (by kernel_rfl)) k1 bel lt1) trodAll_mk0)), rfl, bel.frame _, fun h => by cases h⟩

theorem over : Rows.fnExactFirstOfRow.holds Try.pinned (OpenSpec.ofChange Rows.fnExactFirstOfSpec) :=
  OpenClaim.holds_of_wide 3 Try.f3 rfl rfl rfl rfl rfl rfl rfl ⟨rfl, rfl, rfl, rfl, rfl⟩ rfl rfl rfl rfl rfl (by kernel_rfl) Try.func3 (by kernel_rfl)
    (of_decide_eq_true (by kernel_rfl)) (by unfold Func.isWrapper; first | (rw [if_pos (by decide +kernel)]; kernel_rfl) | (rw [if_neg (by decide +kernel)]; exact ⟨rfl, rfl⟩))
    (fun os started H enc _ => lifted os started H enc)
end ExactFirstOf
theorem fnExactFirstOf_holds : Rows.FnExactFirstOfSaid := ExactFirstOf.over
end Go.Proofs.Ytjepmcepgoncnaa
