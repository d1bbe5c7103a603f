/-
  Rows.FnSkewLessSaid: laws.FnSkewLess returns true for every input, and each argument reads afterwards as it read before. No conditions.
-/
import Derived.Test.YtjepmcepgoncnaaDrawJoin
import Derived.Test.YtjepmcepgoncnaaIterRows
import Derived.Test.YtjepmcepgoncnaaJoined
import Derived.Test.YtjepmcepgoncnaaJoinFns
import Derived.Test.YtjepmcepgoncnaaSpecVals
import Derived.Test.YtjepmcepgoncnaaPlain
import Derived.OwnWalkIn
import Derived.RangeFuncCalls
import Derived.Test.YtjepmcepgoncnaaCollect
import Derived.Test.YtjepmcepgoncnaaSortedOkFns
import Derived.Test.YtjepmcepgoncnaaAppendAny
import Derived.Test.YtjepmcepgoncnaaOpenBytes
import Derived.Test.YtjepmcepgoncnaaOpen
namespace Go.Proofs.Ytjepmcepgoncnaa
open Go.RowKit
def ThreeOut (w : World) (e : Ending) (w' : World) : Prop := ∃ (l : List RowV) (b c : Nat) (m : List RowV) (d f : Nat) (k : List RowV) (g h : Nat), l.length ≤ 5 ∧ (∀ r ∈ l, r.Ok) ∧ m.length ≤ 5 ∧ (∀ r ∈ m, r.Ok) ∧ k.length ≤ 5 ∧ (∀ r ∈ k, r.Ok) ∧
      e = .returned (.tuple #[.slice (some ⟨b, 0, none⟩) l.length c, .slice (some ⟨d, 0, none⟩) m.length f, .slice (some ⟨g, 0, none⟩) k.length h]) ∧ w'.ownsRow w.heap.size 77 3 (.slice (some ⟨b, 0, none⟩) l.length c) l.length (flat l) ∧ w'.ownsRow w.heap.size 77 3 (.slice (some ⟨d, 0, none⟩) m.length f) m.length (flat m) ∧ w'.ownsRow w.heap.size 77 3 (.slice (some ⟨g, 0, none⟩) k.length h) k.length (flat k) ∧ Below w.heap.size w w'
set_option maxRecDepth 100000 in
theorem drawCogrouped_any (a : Option Addr) (len cap : Nat) (w : World) (hl : len ≤ 1048576) (h : IsBy w w.heap.size a len) :
    Calls Try.prog 88 #[.slice a len cap] w (ThreeOut w) := by
  unfold ThreeOut
  go_enter Try.func88, Try.ntmps88
  go_wp2_with fail
  refine (l1Open_any a len cap w hl h).mono ?_
  rintro e w1 ⟨rfl, hR1, hb1⟩
  have hlt := hR1.lt
  go_wp2_with fail
  refine (rows_lit w.heap.size len 5 _ _ hR1 (by omega) (by omega) (by omega)).mono ?_
  rintro e w2 ⟨l, b, c, hll, hok, rfl, hO, hD⟩
  have hlt2 := hD.rdr.lt
  go_wp2_with fail
  refine (rows_lit w.heap.size len 5 _ _ hD.rdr (by omega) (by omega) (by omega)).mono ?_
  rintro e w3 ⟨m, d, f, hml, hmok, rfl, hP, hD2⟩
  have O3 := hD2.own hO hlt
  have D3 := hD.trans hD2
  have hlt3 := D3.rdr.lt
  go_wp2_with fail
  refine (rows_lit w.heap.size len 5 _ _ D3.rdr (by omega) (by omega) (by omega)).mono ?_
  rintro e w4 ⟨k, g, i, hkl, hkok, rfl, hQ, hD3⟩
  have O4 := hD3.own O3 hlt
  have P4 := hD3.own hP hlt2
  have hb4 := below_drew hb1 (D3.trans hD3)
  have hws1 : w.heap.size ≤ w1.heap.size := hb1.size
  have hws2 : w.heap.size ≤ w2.heap.size := Nat.le_trans hws1 hD.size
  have hws3 : w.heap.size ≤ w3.heap.size := Nat.le_trans hws1 D3.size
  clear hO O3 hP hD hD2 D3 hD3
  go_wp2_with fail
  refine bodyPost_ret (v := .tuple #[.slice (some ⟨b, 0, none⟩) l.length c, .slice (some ⟨d, 0, none⟩) m.length f, .slice (some ⟨g, 0, none⟩) k.length i]) ?_ rfl ⟨l, b, c, m, d, f, k, g, i, hll, hok, hml, hmok, hkl, hkok, rfl, own_base' O4 hws1, own_base' P4 hws2, own_base' hQ hws3, hb4⟩
  simp [results, Try.results88, go_sem]
set_option maxRecDepth 100000 in
theorem drawChained_any (a : Option Addr) (len cap : Nat) (w : World) (hl : len ≤ 1048576) (h : IsBy w w.heap.size a len) :
    Calls Try.prog 41 #[.slice a len cap] w (ThreeOut w) := by
  have C := drawCogrouped_any a len cap w hl h
  unfold ThreeOut at *
  go_enter Try.func41, Try.ntmps41
  go_wp2_with fail
  refine C.mono ?_
  clear C
  rintro e w1 ⟨l, b, c, m, d, f, k, g, i, hll, hok, hml, hmok, hkl, hkok, rfl, O, P, Q, hb⟩
  go_wp2_with fail
  refine bodyPost_ret (v := .tuple #[.slice (some ⟨b, 0, none⟩) l.length c, .slice (some ⟨d, 0, none⟩) m.length f, .slice (some ⟨g, 0, none⟩) k.length i]) ?_ rfl ⟨l, b, c, m, d, f, k, g, i, hll, hok, hml, hmok, hkl, hkok, rfl, O, P, Q, hb⟩
  simp [results, Try.results41, go_sem]
set_option maxRecDepth 100000 in
theorem drawSkewed_any (a : Option Addr) (len cap : Nat) (w : World) (hl : len ≤ 1048576) (h : IsBy w w.heap.size a len) :
    Calls Try.prog 39 #[.slice a len cap] w fun e w' => ∃ (l : List RowV) (b c : Nat) (z : Int), l.length ≤ 12 ∧ (∀ r ∈ l, r.Ok) ∧ -9223372036854775808 ≤ z ∧ z ≤ 9223372036854775807 ∧
      e = .returned (.tuple #[.slice (some ⟨b, 0, none⟩) l.length c, .int .i64 z]) ∧ w'.ownsRow w.heap.size 77 3 (.slice (some ⟨b, 0, none⟩) l.length c) l.length (flat l) ∧ Below w.heap.size w w' := by
  go_enter Try.func39, Try.ntmps39
  go_wp2_with fail
  refine (l1Open_any a len cap w hl h).mono ?_
  rintro e w1 ⟨rfl, hR1, hb1⟩
  have hlt := hR1.lt
  go_wp2_with fail
  refine (rows_lit w.heap.size len 12 _ _ hR1 (by omega) (by omega) (by omega)).mono ?_
  rintro e w2 ⟨l, b, c, hll, hok, rfl, hO, hD⟩
  have hlt2 := hD.rdr.lt
  go_wp2_with fail
  refine (off_any w.heap.size len 0 4 _ hD.rdr (by omega) (by omega) (by omega)).mono ?_
  rintro e w3 ⟨z, hz0, hz1, rfl, hD2⟩
  have O3 := hD2.own hO hlt
  have hb3 := below_drew hb1 (hD.trans hD2)
  have hws1 : w.heap.size ≤ w1.heap.size := hb1.size
  clear hO hD hD2
  go_wp2_with fail
  refine bodyPost_ret (v := .tuple #[.slice (some ⟨b, 0, none⟩) l.length c, .int .i64 z]) ?_ rfl ⟨l, b, c, z, hll, hok, hz0, hz1, rfl, own_base' O3 hws1, hb3⟩
  simp [results, Try.results39, go_sem]
end Go.Proofs.Ytjepmcepgoncnaa

namespace Go.Proofs.Ytjepmcepgoncnaa
open Go.RowKit Go.Shelf
attribute [local go_sem] Oper.semAt_some
/-- The groups of rows: each key with the rows that begin with it; no more than so many. -/
def groupsF : Nat → List RowV → List (ByteArray × List RowV)
  | 0, _ => []
  | _ + 1, [] => []
  | f + 1, r :: l => (r.key, leadL r.key (r :: l)) :: groupsF f ((r :: l).drop (leadN r.key (r :: l)))
def groupsR (l : List RowV) : List (ByteArray × List RowV) := groupsF l.length l
theorem leadN_pos (r : RowV) (l : List RowV) : 1 ≤ leadN r.key (r :: l) := by
  unfold leadN leadL
  rw [List.takeWhile_cons, if_pos (by simp)]
  simp
theorem groupsF_fuel : ∀ (f g : Nat) (l : List RowV), l.length ≤ f → l.length ≤ g → groupsF f l = groupsF g l
  | 0, 0, _, _, _ => rfl
  | 0, g + 1, [], _, _ => rfl
  | 0, g + 1, r :: l, h, _ => by simp at h
  | f + 1, 0, [], _, _ => rfl
  | f + 1, 0, r :: l, _, h => by simp at h
  | f + 1, g + 1, [], _, _ => rfl
  | f + 1, g + 1, r :: l, hf, hg => by
    have hp := leadN_pos r l
    rw [groupsF, groupsF, groupsF_fuel f g _ (by rw [List.length_drop]; omega) (by rw [List.length_drop]; omega)]
theorem groupsR_nil : groupsR [] = [] := rfl
theorem groupsR_next (r : RowV) (l : List RowV) : groupsR (r :: l) = (r.key, leadL r.key (r :: l)) :: groupsR ((r :: l).drop (leadN r.key (r :: l))) := by
  have hp := leadN_pos r l
  unfold groupsR
  rw [List.length_cons, groupsF, groupsF_fuel l.length _ _ (by rw [List.length_drop, List.length_cons]; omega) (Nat.le_refl _)]
theorem groupsF_le : ∀ (f : Nat) (l : List RowV), (groupsF f l).length ≤ l.length
  | 0, _ => Nat.zero_le _
  | _ + 1, [] => Nat.le_refl _
  | f + 1, r :: l => by
    have hp := leadN_pos r l
    have ih := groupsF_le f ((r :: l).drop (leadN r.key (r :: l)))
    rw [List.length_drop] at ih
    rw [groupsF, List.length_cons]
    simp only [List.length_cons] at ih ⊢
    omega
/-- A stretch of rows with its key, where it lies. -/
structure GrpV where
  key : ByteArray
  a : Option Addr
  n : Nat
  c : Nat
  rows : List RowV
/-- One that can be read in a world. -/
def GrpIn (w : World) (B : Nat) : Type := {x : GrpV // Rd w B 3 x.a x.n (flat x.rows) ∧ x.n ≤ x.c ∧ x.n ≤ 1048576 ∧ ∃ b off, x.a = some ⟨b, off, none⟩}
def grpsOf {w : World} {B : Nat} (ys : List (GrpIn w B)) : List (ByteArray × List RowV) := ys.map fun x => (x.1.key, x.1.rows)
def grpV {w : World} {B : Nat} (x : GrpIn w B) : Array Value := #[.string x.1.key, .slice x.1.a x.1.n x.1.c]
set_option maxRecDepth 100000 in
set_option maxHeartbeats 2000000 in
theorem byKey1_in (n l Bl n₀ : Nat) (a : Option Addr) (len cap : Nat) (rs : List RowV) (w0 : World) (hm : len ≤ 1048576) (hlc : len ≤ cap) (J Jx : List (GrpIn w0 n₀) → World → Prop) (W : World) (hn₀ : n₀ ≤ W.heap.size) (hW : Below n₀ w0 W)
    (hY : ∀ pre x W1, J pre W1 → pre.length < rs.length → YieldAt Fence.wide (n - 1) Try.prog l (grpV x) W1 fun e W' =>
      (e = .returned (.bool true) ∧ J (pre ++ [x]) W' ∧ Below n₀ W1 W') ∨ (e = .returned (.bool false) ∧ Jx (pre ++ [x]) W'))
    (hBl : W.cell? ⟨Bl, 0, none⟩ = some (.slice a len cap)) (hR : Rd w0 n₀ 3 a len (flat rs)) (h0 : J [] W) :
    CallsIn Fence.wide n Try.prog 105 #[.func (.yield l) #[] #[], .pointer (some ⟨Bl, 0, none⟩)] W fun e W' => (∃ v, e = .returned v) ∧
      ((∃ ys, grpsOf ys = groupsR rs ∧ J ys W') ∨ (∃ pre, grpsOf pre <+: groupsR rs ∧ Jx pre W')) := by
  have hl := Lib.hid hR.rows_length
  have HR0 := Lib.hid hR
  have HW := Lib.hid hW
  generalize hT : groupsR rs = T
  have HT := Lib.hid hT
  clear hT hR hW
  refine callsIn_of_wp Try.func105 rfl trivial ?_ rfl
  simp only [Try.ntmps105, List.size_toArray, List.length_cons, List.length_nil, Nat.reduceAdd, Nat.reduceSub, Array.replicate_succ, Array.replicate_zero, List.push_toArray, List.append_toArray, List.nil_append, List.cons_append]
  gi_wp2
  gi_loopw [3] (fun v wr => ∃ (m : Nat) (ra : Option Addr) (rc : Nat) (R : List RowV) (ys : List (GrpIn w0 n₀)), v = .slice ra m rc ∧ m ≤ rc ∧ ys.length + m ≤ len ∧ Hid (Rd w0 n₀ 3 ra m (flat R)) ∧ Hid (T = grpsOf ys ++ groupsR R) ∧ J ys wr ∧ Below n₀ W wr)
    (fun v _ => match v with | .slice _ n _ => n | _ => 0)
  case atStart => exact ⟨len, _, _, rs, [], rfl, hlc, by simp, HR0, Lib.hid HT.out.symm, h0, Below.refl _ _⟩
  case round =>
    obtain ⟨m, ra, rc, R, ys, rfl, hmr, hym, HR, HG, hJs, hnx⟩ := hrel
    by_cases hm0 : m = 0
    · subst hm0
      have hRn : R = [] := List.length_eq_zero_iff.1 HR.out.rows_length
      have HG2 := Lib.hid (show grpsOf ys = T by rw [HG.out, hRn, groupsR_nil, List.append_nil])
      clear hRn
      gi_wp2
      go_end0
      exact ⟨⟨_, rfl⟩, .inl ⟨ys, HG2.out, hJs⟩⟩
    · have hRl : R.length = m := HR.out.rows_length
      obtain ⟨r, R', rfl⟩ : ∃ r R', R = r :: R' := by
        cases R with
        | nil => simp at hRl; omega
        | cons r R => exact ⟨r, R, rfl⟩
      have hRr := HR.out.below (HW.out.trans hnx) (Nat.le_refl _)
      obtain ⟨b, off, r', rfl, hB1, hrk, c0, _, _⟩ := hRr.row (show 0 < m by omega)
      obtain rfl : r = r' := by simpa using hrk
      clear hrk
      have hsz : n₀ ≤ wr.heap.size := Nat.le_trans hn₀ hnx.size
      have hq1 := leadN_pos r R'
      have hq2 := leadN_le r.key (r :: R')
      rw [hRl] at hq2
      have CL := leadingRows_any (some ⟨b, off, none⟩) m rc (r :: R') r.key wr (by omega) (hRr.more hsz)
      have HN := Lib.hid (groupsR_next r R')
      have HL := Lib.hid (lead_take (key := r.key) (r :: R'))
      have hm4 : 0 < m := by omega
      have hm5 : (0 : Int) < (m : Int) := by omega
      simp only [Nat.zero_mul, Nat.add_zero] at c0
      generalize hqe : leadN r.key (r :: R') = q at *
      have HQ := Lib.hid hqe
      clear hqe hRl
      have hq3 : (q : Int) ≤ (rc : Int) := by omega
      have hq4 : (0 : Int) ≤ (q : Int) := by omega
      have hq5 : (q : Int) ≤ (m : Int) := by omega
      have hxR : Rd w0 n₀ 3 (some ⟨b, off, none⟩) q (flat (leadL r.key (r :: R'))) := by
        rw [← HL.out]
        exact HR.out.head hq2
      have hxq : q ≤ rc ∧ q ≤ 1048576 ∧ ∃ b' off', some (⟨b, off, none⟩ : Addr) = some ⟨b', off', none⟩ := ⟨by omega, by omega, b, off, rfl⟩
      obtain ⟨x, hx⟩ : ∃ x : GrpIn w0 n₀, x = ⟨⟨r.key, some ⟨b, off, none⟩, q, rc, leadL r.key (r :: R')⟩, hxR, hxq⟩ := ⟨_, rfl⟩
      have hxe : grpsOf (ys ++ [x]) = grpsOf ys ++ [(r.key, leadL r.key (r :: R'))] := by
        unfold grpsOf
        rw [List.map_append, hx]
        rfl
      have HG2 := Lib.hid (show T = grpsOf (ys ++ [x]) ++ groupsR ((r :: R').drop q) by rw [HG.out, HN.out, hxe, List.append_assoc]; rfl)
      have efr : fromA (some ⟨b, off, none⟩) rc q = if rc = q then some ⟨b, off, none⟩ else some ⟨b, off + q * 3, none⟩ := by
        unfold fromA
        split
        · rfl
        · simp [Addr.add_mid]
      have HR2 := Lib.hid (show Rd w0 n₀ 3 (if rc = q then some ⟨b, off, none⟩ else some ⟨b, off + q * 3, none⟩) (m - q) (flat ((r :: R').drop q)) by rw [← efr]; exact HR.out.from_ hq2 hmr)
      clear efr
      obtain ⟨fn, tmps, assign, body, hy, hRd⟩ := hY ys x wr hJs (by rw [hl.out]; omega)
      rw [show grpV x = #[.string r.key, .slice (some ⟨b, off, none⟩) q rc] by rw [hx]; rfl] at hy
      have hlen : (ys ++ [x]).length + (m - q) ≤ len := by rw [List.length_append, List.length_singleton]; omega
      clear hx hxe HN HL HG hJs hY
      clear hxR hxq
      gi_wp2_with fail
      refine ⟨trivial, fun h => (by cases h), ?_⟩
      refine (callsIn_wide.2 CL).mono ?_
      rintro e w2 ⟨rfl, rfl⟩
      clear CL
      gi_wp2_with fail
      refine ⟨fun h => (by cases h), ?_⟩
      refine hRd.mono ?_
      rintro e W3 (⟨rfl, hJ3, hk3⟩ | ⟨rfl, hJx3⟩)
      · have hnx3 := hnx.trans hk3
        clear c0 hk3 hnx hRd hy
        gi_wp2_with fail
        go_roundw
        case rel => exact ⟨m - q, _, rc - q, (r :: R').drop q, ys ++ [x], rfl, by omega, hlen, HR2, HG2, hJ3, hnx3⟩
        case measure => simp; omega
      · clear c0 hnx hRd hy
        gi_wp2_with fail
        refine bodyPost_ret (results_none rfl _ _ _) rfl ?_
        exact ⟨⟨_, rfl⟩, .inr ⟨ys ++ [x], ⟨groupsR ((r :: R').drop q), HG2.out.symm⟩, hJx3⟩⟩
set_option maxRecDepth 100000 in
theorem byKey_any (a : Option Addr) (len cap : Nat) (w : World) :
    Calls Try.prog 68 #[.slice a len cap] w fun e w' => e = .returned (.func (.func 105) #[] #[.pointer (some ⟨w.heap.size, 0, none⟩)]) ∧ w' = w.alloc (.cells #[.slice a len cap] 24) := by
  go_enter Try.func68, Try.ntmps68
  go_wp2_with fail
  go_ret
  exact ⟨rfl, rfl⟩
/-- What byKey yields: the keys with their rows, in their order. -/
theorem byKey_stops (n Bl n₀ : Nat) (a : Option Addr) (len cap : Nat) (rs : List RowV) (hm : len ≤ 1048576) (hlc : len ≤ cap) (w : World) (hn₀ : n₀ ≤ w.heap.size)
    (hBl : w.cell? ⟨Bl, 0, none⟩ = some (.slice a len cap)) (hll : Bl < w.heap.size) (hR : Rd w n₀ 3 a len (flat rs)) :
    SeqStopsK Fence.wide n Try.prog 105 #[.pointer (some ⟨Bl, 0, none⟩)] (fun x : GrpIn w n₀ => grpV x) (Below n₀) (fun ys => grpsOf ys = groupsR rs) (fun pre => grpsOf pre <+: groupsR rs) rs.length w := fun l J Jx W hW _ _ hY h0 =>
  byKey1_in n l Bl n₀ a len cap rs w hm hlc J Jx W (Nat.le_trans hn₀ hW.size) (hW.mono hn₀) hY ((hW.cell (p := ⟨Bl, 0, none⟩) hll).trans hBl) hR h0
end Go.Proofs.Ytjepmcepgoncnaa

namespace Go.Proofs.Ytjepmcepgoncnaa
open Go.RowKit
def gstep (G : List (ByteArray × List RowV)) (r : RowV) : List (ByteArray × List RowV) :=
  match G.getLast? with
  | some g => if g.1 = r.key then G.dropLast ++ [(g.1, g.2 ++ [r])] else G ++ [(r.key, [r])]
  | none => [(r.key, [r])]
theorem gstep_nil (r : RowV) : gstep [] r = [(r.key, [r])] := rfl
theorem gstep_eq (G : List (ByteArray × List RowV)) (k : ByteArray) (l : List RowV) (r : RowV) (h : k = r.key) : gstep (G ++ [(k, l)]) r = G ++ [(k, l ++ [r])] := by
  unfold gstep
  rw [List.getLast?_concat]
  simp [h]
theorem gstep_ne (G : List (ByteArray × List RowV)) (k : ByteArray) (l : List RowV) (r : RowV) (h : ¬ k = r.key) : gstep (G ++ [(k, l)]) r = (G ++ [(k, l)]) ++ [(r.key, [r])] := by
  unfold gstep
  rw [List.getLast?_concat]
  simp [h]
theorem leadL_eq (r : RowV) (l : List RowV) {k : ByteArray} (h : r.key = k) : leadL k (r :: l) = r :: leadL k l := by
  unfold leadL
  rw [List.takeWhile_cons, if_pos (by simp [h])]
theorem leadL_ne (r : RowV) (l : List RowV) {k : ByteArray} (h : ¬ r.key = k) : leadL k (r :: l) = [] := by
  unfold leadL
  rw [List.takeWhile_cons, if_neg (by simp only [beq_iff_eq]; exact fun e => h (by rw [ByteArray.toList_eq, ByteArray.toList_eq] at e; exact ByteArray.ext (Array.toList_inj.1 e)))]
theorem groups_fold : ∀ (rs : List RowV) (G : List (ByteArray × List RowV)) (k : ByteArray) (l : List RowV), rs.foldl gstep (G ++ [(k, l)]) = G ++ (k, l ++ leadL k rs) :: groupsR (rs.drop (leadN k rs))
  | [], G, k, l => by simp [leadL, groupsR_nil]
  | r :: rs, G, k, l => by
    rw [List.foldl_cons]
    by_cases h : k = r.key
    · rw [gstep_eq G k l r h, groups_fold rs G k (l ++ [r])]
      have e := leadL_eq r rs h.symm
      have e2 : leadN k (r :: rs) = leadN k rs + 1 := by unfold leadN; rw [e]; rfl
      rw [e, e2, List.drop_succ_cons, List.append_assoc]
      rfl
    · rw [gstep_ne G k l r h, groups_fold rs (G ++ [(k, l)]) r.key [r]]
      have e := leadL_ne r rs (k := k) (fun x => h x.symm)
      have e2 : leadN k (r :: rs) = 0 := by unfold leadN; rw [e]; rfl
      have e3 := leadL_eq r rs rfl
      have e4 : leadN r.key (r :: rs) = leadN r.key rs + 1 := by unfold leadN; rw [e3]; rfl
      rw [e, e2, List.drop_zero, groupsR_next, e3, e4, List.drop_succ_cons, List.append_nil, List.append_assoc]
      rfl
theorem groups_steps (rs : List RowV) : rs.foldl gstep [] = groupsR rs := by
  cases rs with
  | nil => rfl
  | cons r rs =>
    rw [List.foldl_cons, gstep_nil]
    have := groups_fold rs [] r.key [r]
    rw [List.nil_append] at this
    have e3 := leadL_eq r rs rfl
    have e4 : leadN r.key (r :: rs) = leadN r.key rs + 1 := by unfold leadN; rw [e3]; rfl
    rw [this, groupsR_next, e3, e4, List.drop_succ_cons]
    rfl
/-- The groups of one row more. -/
theorem groups_snoc (rs : List RowV) (r : RowV) : groupsR (rs ++ [r]) = gstep (groupsR rs) r := by
  rw [← groups_steps, ← groups_steps, List.foldl_append]
  rfl
theorem gstep_le (G : List (ByteArray × List RowV)) (r : RowV) : (gstep G r).length ≤ G.length + 1 := by
  rcases List.eq_nil_or_concat G with rfl | ⟨G', g, rfl⟩
  · exact Nat.le_refl _
  · obtain ⟨k, l⟩ := g
    rw [List.concat_eq_append]
    by_cases h : k = r.key
    · rw [gstep_eq _ _ _ _ h]; simp
    · rw [gstep_ne _ _ _ _ h]; simp
end Go.Proofs.Ytjepmcepgoncnaa

namespace Go.Proofs.Ytjepmcepgoncnaa
open Go.RowKit
theorem rows_by_keys {g : ByteArray → List ByteArray → List PairV} (hg : ∀ k v, (g k v).length = v.length) : ∀ (K : List ByteArray) (l : List RowV), Rising K → (∀ r ∈ l, r.key ∈ K) → (K.flatMap fun k => g k (valsK l k)).length = l.length
  | [], l, _, h => by
    have : l = [] := List.eq_nil_iff_forall_not_mem.2 fun r hr => by have := h r hr; cases this
    subst this
    rfl
  | x :: K, l, hK, h => by
    obtain ⟨k1, k2⟩ := List.pairwise_cons.1 hK
    have hxK : x ∉ K := fun h => by have := k1 x h; rw [bl_irrefl] at this; cases this
    have ih := rows_by_keys hg K (l.filter fun r => !isKey x r) k2 (fun r hr => by
      rw [List.mem_filter] at hr
      refine (List.mem_cons.1 (h r hr.1)).resolve_left fun e => ?_
      rw [isKey_iff.2 e] at hr
      simp at hr)
    have e : (K.flatMap fun k => g k (valsK l k)) = K.flatMap fun k => g k (valsK (l.filter fun r => !isKey x r) k) := flatMap_congr' fun y hy => by
      have hne : y ≠ x := fun e => hxK (e ▸ hy)
      rw [valsK_rest hne]
    rw [List.flatMap_cons, List.length_append, e, ih, hg]
    unfold valsK
    rw [List.length_map]
    have : ∀ l : List RowV, (l.filter (isKey x)).length + (l.filter fun r => !isKey x r).length = l.length := by
      intro l
      induction l with
      | nil => rfl
      | cons r l ih2 => cases hr : isKey x r <;> simp [hr] <;> omega
    exact this l
theorem flatMap_len_le {α β γ : Type} {f : α → List β} {g : α → List γ} : ∀ {l : List α}, (∀ x ∈ l, (f x).length ≤ (g x).length) → (l.flatMap f).length ≤ (l.flatMap g).length
  | [], _ => by simp
  | x :: l, h => by
    have ih := flatMap_len_le (l := l) fun y hy => h y (List.mem_cons_of_mem _ hy)
    have := h x (List.mem_cons_self)
    rw [List.flatMap_cons, List.flatMap_cons, List.length_append, List.length_append]
    omega
theorem keys_all (a b : List RowV) : Rising (keysOf (sortL (a ++ b))) ∧ ∀ x, x ∈ keysOf (sortL (a ++ b)) ↔ (∃ r ∈ a, r.key = x) ∨ ∃ r ∈ b, r.key = x := by
  refine ⟨keysOf_rising (asc_keys (sortL_asc _)), fun x => ?_⟩
  rw [keysOf_mem]
  constructor
  · rintro ⟨r, hr, e⟩
    rw [(sortL_perm' _).mem_iff, List.mem_append] at hr
    rcases hr with hr | hr
    · exact .inl ⟨r, hr, e⟩
    · exact .inr ⟨r, hr, e⟩
  · rintro (⟨r, hr, e⟩ | ⟨r, hr, e⟩)
    · exact ⟨r, by rw [(sortL_perm' _).mem_iff, List.mem_append]; exact .inl hr, e⟩
    · exact ⟨r, by rw [(sortL_perm' _).mem_iff, List.mem_append]; exact .inr hr, e⟩
theorem keys_left (a b : List RowV) : ∀ r ∈ sortL a, r.key ∈ keysOf (sortL (a ++ b)) := fun r hr => ((keys_all a b).2 r.key).2 (.inl ⟨r, (sortL_perm' a).mem_iff.1 hr, rfl⟩)
/-- A row of the left side alone, for each. -/
def lonelyL (a b : List RowV) : List PairV := (keysOf (sortL (a ++ b))).flatMap fun key => (valsK (sortL a) key).map (leftP key)
theorem lonelyL_length (a b : List RowV) : (lonelyL a b).length = a.length := by
  have := rows_by_keys (g := fun k v => v.map (leftP k)) (by simp) (keysOf (sortL (a ++ b))) (sortL a) (keys_all a b).1 (keys_left a b)
  rw [sortL_length] at this
  exact this
theorem valsK_nil (key : ByteArray) : valsK (sortL []) key = [] := rfl
theorem flatMap_one {α β : Type} (f : α → β) (l : List α) : (l.flatMap fun x => [f x]) = l.map f := by
  induction l with
  | nil => rfl
  | cons x l ih => rw [List.flatMap_cons, ih]; rfl
theorem none_left {n : Int} (hn : n = 2 ∨ n = 4 ∨ n = 6) (a : List RowV) : l5J n a [] = lonelyL a [] := by
  unfold l5J lonelyL
  refine flatMap_congr' fun key _ => ?_
  rw [valsK_nil]
  rcases hn with rfl | rfl | rfl <;> simp [oneK, leftP, flatMap_one]
theorem none_none {n : Int} (hn : n = 1 ∨ n = 3 ∨ n = 5) (a : List RowV) : l5J n a [] = [] := by
  unfold l5J
  rw [List.flatMap_eq_nil_iff]
  intro key _
  rw [valsK_nil]
  rcases hn with rfl | rfl | rfl <;> simp [oneK]
theorem self_semi (a : List RowV) : l5J 5 a a = lonelyL a a := by
  unfold l5J lonelyL
  refine flatMap_congr' fun key _ => ?_
  cases h : valsK (sortL a) key with
  | nil => simp [oneK]
  | cons x l => simp [oneK, leftP, flatMap_one]
theorem self_anti (a : List RowV) : l5J 6 a a = [] := by
  unfold l5J
  rw [List.flatMap_eq_nil_iff]
  intro key _
  cases h : valsK (sortL a) key with
  | nil => simp [oneK]
  | cons x l => simp [oneK]
theorem self_full (a : List RowV) : l5J 4 a a = l5J 1 a a := by
  unfold l5J
  refine flatMap_congr' fun key _ => ?_
  cases h : valsK (sortL a) key with
  | nil => simp [oneK]
  | cons x l => simp [oneK]
theorem self_many (a : List RowV) : a.length ≤ (l5J 1 a a).length := by
  rw [← lonelyL_length a a]
  unfold l5J lonelyL
  refine flatMap_len_le fun key _ => ?_
  rw [List.length_map]
  generalize valsK (sortL a) key = v
  have h : ∀ u : List ByteArray, 0 < v.length → u.length ≤ (u.flatMap fun x => v.map fun y => (⟨key, x, y, true, true⟩ : PairV)).length := by
    intro u hv
    induction u with
    | nil => simp
    | cons x u ih =>
      rw [List.flatMap_cons, List.length_append, List.length_map, List.length_cons]
      omega
  rcases Nat.eq_zero_or_pos v.length with h0 | h0
  · omega
  · have := h v h0
    simpa [oneK] using this
end Go.Proofs.Ytjepmcepgoncnaa

namespace Go.Proofs.Ytjepmcepgoncnaa
open Go.RowKit
theorem flatMap_none {α β : Type} (l : List α) : (l.flatMap fun _ => ([] : List β)) = [] := by
  induction l with
  | nil => rfl
  | cons x l ih => rw [List.flatMap_cons, ih]; rfl
theorem filter_map_none {α β : Type} {q : β → Bool} {f : α → β} (h : ∀ x, q (f x) = false) (l : List α) : (l.map f).filter q = [] := by
  rw [List.filter_eq_nil_iff]
  intro x hx
  obtain ⟨y, _, rfl⟩ := List.mem_map.1 hx
  rw [h]; decide
theorem one_semi {key : ByteArray} {a b : List ByteArray} {p : PairV} (h : p ∈ oneK 5 key a b) : p.key = key ∧ b ≠ [] := by
  cases b with
  | nil => simp [oneK] at h
  | cons y b =>
    refine ⟨?_, by simp⟩
    simp [oneK] at h
    obtain ⟨x, _, rfl⟩ := h
    rfl
theorem one_anti {key : ByteArray} {a b : List ByteArray} {p : PairV} (h : p ∈ oneK 6 key a b) : p.key = key ∧ b = [] := by
  cases b with
  | nil =>
    refine ⟨?_, rfl⟩
    simp [oneK] at h
    obtain ⟨x, _, rfl⟩ := h
    rfl
  | cons y b => simp [oneK] at h
theorem semi_anti_keys {a b : List RowV} {p q : PairV} (hp : p ∈ l5J 5 a b) (hq : q ∈ l5J 6 a b) : (p.key.toList == q.key.toList) = false := by
  unfold l5J at hp hq
  obtain ⟨k, _, hk⟩ := List.mem_flatMap.1 hp
  obtain ⟨m, _, hm⟩ := List.mem_flatMap.1 hq
  obtain ⟨e1, h1⟩ := one_semi hk
  obtain ⟨e2, h2⟩ := one_anti hm
  rw [beq_eq_false_iff_ne]
  intro e
  have := ext_toList e
  rw [e1, e2] at this
  rw [this] at h1
  exact h1 h2
theorem flatMap_two {α β γ δ : Type} {f : α → List β} {g : α → List γ} {h : α → List δ} (hh : ∀ x, (f x).length + (g x).length = (h x).length) : ∀ l : List α, (l.flatMap f).length + (l.flatMap g).length = (l.flatMap h).length
  | [] => by simp
  | x :: l => by
    have ih := flatMap_two hh l
    have := hh x
    rw [List.flatMap_cons, List.flatMap_cons, List.flatMap_cons, List.length_append, List.length_append, List.length_append]
    omega
theorem semi_anti_length (a b : List RowV) : (l5J 5 a b).length + (l5J 6 a b).length = a.length := by
  rw [← lonelyL_length a b]
  unfold l5J lonelyL
  refine flatMap_two (fun key => ?_) _
  cases valsK (sortL b) key with
  | nil =>
    have e1 : oneK 5 key (valsK (sortL a) key) [] = [] := by simp only [oneK]; simp [flatMap_none]
    have e2 : oneK 6 key (valsK (sortL a) key) [] = (valsK (sortL a) key).map (leftP key) := by simp only [oneK]; simp [flatMap_one, leftP]
    rw [e1, e2]; simp
  | cons y l =>
    have e1 : oneK 6 key (valsK (sortL a) key) (y :: l) = [] := by simp only [oneK]; simp [flatMap_none]
    have e2 : oneK 5 key (valsK (sortL a) key) (y :: l) = (valsK (sortL a) key).map (leftP key) := by simp only [oneK]; simp [flatMap_one, leftP]
    rw [e1, e2]; simp
theorem one_left {key : ByteArray} (a b : List ByteArray) : (oneK 2 key a b).filter (fun p => !p.hr) = oneK 6 key a b := by
  cases b with
  | nil =>
    simp only [oneK]
    simp [flatMap_one]
  | cons y b =>
    have e2 : oneK 6 key a (y :: b) = [] := by simp only [oneK]; simp [flatMap_none]
    have e1 : oneK 2 key a (y :: b) = a.flatMap fun x => (y :: b).map (bothP key x) := by simp only [oneK]; simp; rfl
    rw [e1, e2, List.filter_flatMap]
    have : ∀ x, ((y :: b).map (bothP key x)).filter (fun p => !p.hr) = [] := fun x => filter_map_none (fun _ => rfl) _
    simp only [this]
    exact flatMap_none a
theorem left_anti (a b : List RowV) : (l5J 2 a b).filter (fun p => !p.hr) = l5J 6 a b := by
  unfold l5J
  rw [List.filter_flatMap]
  exact flatMap_congr' fun key _ => one_left _ _
/-- How many of the first i are left alone. -/
def aloneN (l : List PairV) (i : Nat) : Nat := (l.take i).countP fun p => !p.hr
theorem aloneN_zero (l : List PairV) : aloneN l 0 = 0 := rfl
theorem aloneN_yes {l : List PairV} {i : Nat} {p : PairV} (h : l[i]? = some p) (hr : p.hr = false) : aloneN l (i + 1) = aloneN l i + 1 := by
  unfold aloneN
  rw [List.take_add_one, h, Option.toList_some, List.countP_append]
  simp [hr]
theorem aloneN_no {l : List PairV} {i : Nat} {p : PairV} (h : l[i]? = some p) (hr : p.hr = true) : aloneN l (i + 1) = aloneN l i := by
  unfold aloneN
  rw [List.take_add_one, h, Option.toList_some, List.countP_append]
  simp [hr]
theorem alone_at {l : List PairV} {i : Nat} {p : PairV} (h : l[i]? = some p) (hr : p.hr = false) : (l.filter fun p => !p.hr)[aloneN l i]? = some p := by
  obtain ⟨hi, e⟩ := List.getElem?_eq_some_iff.1 h
  have hs : l = l.take i ++ p :: l.drop (i + 1) := by
    rw [← e, ← List.drop_eq_getElem_cons hi, List.take_append_drop]
  unfold aloneN
  rw [List.countP_eq_length_filter]
  have e2 : (l.filter fun p => !p.hr) = ((l.take i).filter fun p => !p.hr) ++ p :: ((l.drop (i + 1)).filter fun p => !p.hr) := by
    have e3 := congrArg (List.filter fun p : PairV => !p.hr) hs
    rw [List.filter_append, List.filter_cons_of_pos (by simp [hr])] at e3
    exact e3
  rw [e2, List.getElem?_append_right (Nat.le_refl _), Nat.sub_self]
  rfl
theorem aloneN_all {l : List PairV} {i : Nat} (h : l.length ≤ i) : aloneN l i = (l.filter fun p => !p.hr).length := by
  unfold aloneN
  rw [List.take_of_length_le h, List.countP_eq_length_filter]
theorem aloneN_le (l : List PairV) (i : Nat) : aloneN l i ≤ i := by
  unfold aloneN
  have := List.countP_le_length (p := fun p : PairV => !p.hr) (l := l.take i)
  rw [List.length_take] at this
  omega
end Go.Proofs.Ytjepmcepgoncnaa

namespace Go.Proofs.Ytjepmcepgoncnaa
open Go.RowKit
theorem rising_sublist : ∀ {K L : List ByteArray}, Rising K → Rising L → (∀ x ∈ K, x ∈ L) → K.Sublist L
  | [], L, _, _, _ => List.nil_sublist L
  | k :: K, [], _, _, h => by have := h k (List.mem_cons_self); cases this
  | k :: K, y :: L, hK, hL, h => by
    obtain ⟨k1, k2⟩ := List.pairwise_cons.1 hK
    obtain ⟨l1, l2⟩ := List.pairwise_cons.1 hL
    by_cases e : k = y
    · subst e
      refine List.Sublist.cons_cons _ (rising_sublist k2 l2 fun x hx => ?_)
      refine (List.mem_cons.1 (h x (List.mem_cons_of_mem _ hx))).resolve_left fun e => ?_
      subst e
      have := k1 x hx
      rw [bl_irrefl] at this; cases this
    · refine List.Sublist.cons _ (rising_sublist hK l2 fun x hx => ?_)
      refine (List.mem_cons.1 (h x hx)).resolve_left fun e2 => ?_
      subst e2
      have hk : k ∈ L := (List.mem_cons.1 (h k (List.mem_cons_self))).resolve_left e
      have h1 := l1 k hk
      rcases List.mem_cons.1 hx with e3 | hx
      · exact e e3.symm
      · have h2 := k1 x hx
        rw [bl_asymm h1] at h2; cases h2
theorem flatMap_sub {α β : Type} {f g : α → List β} (h : ∀ x, (f x).Sublist (g x)) : ∀ l : List α, (l.flatMap f).Sublist (l.flatMap g)
  | [] => List.Sublist.refl _
  | x :: l => by
    rw [List.flatMap_cons, List.flatMap_cons]
    exact (h x).append (flatMap_sub h l)
theorem sub_flatMap {α β : Type} (f : α → List β) : ∀ {k l : List α}, k.Sublist l → (k.flatMap f).Sublist (l.flatMap f)
  | _, _, .slnil => List.Sublist.refl _
  | _, _, .cons x h => by
    rw [List.flatMap_cons]
    exact (sub_flatMap f h).trans (List.sublist_append_right _ _)
  | _, _, .cons_cons x h => by
    rw [List.flatMap_cons, List.flatMap_cons]
    exact (List.Sublist.refl _).append (sub_flatMap f h)
theorem ins_sub (r : RowV) (l : List RowV) : l.Sublist (ins r l) := by
  unfold ins
  have h : (l.take (insPos r l) ++ l.drop (insPos r l)).Sublist (l.take (insPos r l) ++ [r] ++ l.drop (insPos r l)) :=
    (List.sublist_append_left _ _).append (List.Sublist.refl _)
  rwa [List.take_append_drop] at h
theorem vals_sub (b : List RowV) (r : RowV) (key : ByteArray) : (valsK (sortL b) key).Sublist (valsK (sortL (b ++ [r])) key) := by
  rw [sortL_snoc]
  unfold valsK
  exact ((ins_sub r (sortL b)).filter _).map _
theorem keys_sub (a b : List RowV) (r : RowV) : (keysOf (sortL (a ++ b))).Sublist (keysOf (sortL (a ++ (b ++ [r])))) := by
  refine rising_sublist (keys_all a b).1 (keys_all a (b ++ [r])).1 fun x hx => ?_
  rw [(keys_all a (b ++ [r])).2]
  rcases ((keys_all a b).2 x).1 hx with h | ⟨q, hq, e⟩
  · exact .inl h
  · exact .inr ⟨q, List.mem_append_left _ hq, e⟩
theorem join_sub {n : Int} (hn : ∀ key (v u u' : List ByteArray), u.Sublist u' → (oneK n key v u).Sublist (oneK n key v u')) (a b : List RowV) (r : RowV) : (l5J n a b).Sublist (l5J n a (b ++ [r])) := by
  unfold l5J
  exact (sub_flatMap _ (keys_sub a b r)).trans (flatMap_sub (fun key => hn key _ _ _ (vals_sub b r key)) _)
theorem one_inner (key : ByteArray) (v u : List ByteArray) : oneK 1 key v u = v.flatMap fun x => u.map (bothP key x) := by
  simp only [oneK]; simp; rfl
theorem one_semi_of (key : ByteArray) (v u : List ByteArray) : oneK 5 key v u = if u.length = 0 then [] else v.map (leftP key) := by
  cases u with
  | nil => simp only [oneK]; simp [flatMap_none]
  | cons y u => simp only [oneK]; simp [flatMap_one, leftP]
theorem inner_sub (a b : List RowV) (r : RowV) : (l5J 1 a b).Sublist (l5J 1 a (b ++ [r])) := by
  refine join_sub (fun key v u u' h => ?_) a b r
  rw [one_inner, one_inner]
  exact flatMap_sub (fun x => h.map _) v
theorem anti_less (a b : List RowV) (r : RowV) : (l5J 6 a (b ++ [r])).length ≤ (l5J 6 a b).length := by
  have h : (l5J 5 a b).Sublist (l5J 5 a (b ++ [r])) := by
    refine join_sub (fun key v u u' h => ?_) a b r
    rw [one_semi_of, one_semi_of]
    have hl := h.length_le
    split
    · exact List.nil_sublist _
    · rw [if_neg (by omega)]
      exact List.Sublist.refl _
  have h1 := h.length_le
  have h2 := semi_anti_length a b
  have h3 := semi_anti_length a (b ++ [r])
  omega
/-- One step of finding one list in another. -/
theorem sub_step {x y : PairV} {l f : List PairV} (h : (y :: f).Sublist (x :: l)) : (x = y → f.Sublist l) ∧ (x ≠ y → (y :: f).Sublist l) := by
  constructor
  · rintro rfl
    exact List.cons_sublist_cons.1 h
  · intro hne
    cases h with
    | cons _ h => exact h
    | cons_cons _ h => exact absurd rfl hne
end Go.Proofs.Ytjepmcepgoncnaa

namespace Go.Proofs.Ytjepmcepgoncnaa
open Go.RowKit
theorem filter_sorted5 (l : List RowV) (p : RowV → Bool) : (sortL l).filter p = sortL (l.filter p) :=
  sortL_unique (List.Pairwise.sublist List.filter_sublist (sortL_asc l)) ((sortL_perm' l).filter p)
theorem rising_eq {K L : List ByteArray} (hK : Rising K) (hL : Rising L) (h : ∀ x, x ∈ K ↔ x ∈ L) : K = L :=
  (rising_sublist hK hL fun x hx => (h x).1 hx).eq_of_length_le (rising_sublist hL hK fun x hx => (h x).2 hx).length_le
theorem flatMap_filter_none {α β : Type} {f : α → List β} {q : α → Bool} (h : ∀ x, q x = false → f x = []) : ∀ l : List α, l.flatMap f = (l.filter q).flatMap f
  | [] => rfl
  | x :: l => by
    have ih := flatMap_filter_none h l
    cases hq : q x
    · rw [List.flatMap_cons, h x hq, List.filter_cons_of_neg (by rw [hq]; decide), ih]; rfl
    · rw [List.flatMap_cons, List.filter_cons_of_pos hq, List.flatMap_cons, ih]
theorem valsK_mem {l : List RowV} {key : ByteArray} : valsK l key ≠ [] ↔ ∃ r ∈ l, r.key = key := by
  unfold valsK
  rw [Ne, List.map_eq_nil_iff, List.filter_eq_nil_iff]
  constructor
  · intro h
    have h' : ∃ r, r ∈ l ∧ isKey key r = true := by
      apply Classical.byContradiction
      intro h2
      exact h fun r hr hk => h2 ⟨r, hr, hk⟩
    obtain ⟨r, hr, hk⟩ := h'
    exact ⟨r, hr, isKey_iff.1 hk⟩
  · rintro ⟨r, hr, e⟩ h
    exact h r hr (isKey_iff.2 e)
/-- A join that tells nothing of a key that the right side lacks goes by the keys of the right side. -/
theorem by_right {n : Int} (hn : ∀ key v, oneK n key v [] = []) (a b : List RowV) : l5J n a b = (keysOf (sortL b)).flatMap fun key => oneK n key (valsK (sortL a) key) (valsK (sortL b) key) := by
  unfold l5J
  rw [flatMap_filter_none (q := fun key => !(valsK (sortL b) key).isEmpty) (fun key h => by
    have : valsK (sortL b) key = [] := by simpa using h
    rw [this]; exact hn _ _)]
  congr 1
  refine rising_eq (List.Pairwise.filter _ (keys_all a b).1) (keysOf_rising (asc_keys (sortL_asc b))) fun x => ?_
  rw [List.mem_filter, (keys_all a b).2, keysOf_mem]
  have e : (!(valsK (sortL b) x).isEmpty) = true ↔ ∃ r ∈ sortL b, r.key = x := by
    rw [← valsK_mem]; simp
  rw [e]
  constructor
  · exact fun h => h.2
  · rintro ⟨r, hr, hk⟩
    exact ⟨.inr ⟨r, (sortL_perm' b).mem_iff.1 hr, hk⟩, r, hr, hk⟩
theorem join_passed {n : Int} (hn : ∀ key v, oneK n key v [] = []) {a b : List RowV} {p : RowV → Bool} (hp : ∀ r ∈ a, (∃ q ∈ b, q.key = r.key) → p r = true) : l5J n (a.filter p) b = l5J n a b := by
  rw [by_right hn, by_right hn]
  refine flatMap_congr' fun key hkey => ?_
  obtain ⟨q, hq, e⟩ := (keysOf_mem _ _).1 hkey
  have hv : valsK (sortL (a.filter p)) key = valsK (sortL a) key := by
    rw [← filter_sorted5]
    unfold valsK
    rw [List.filter_filter]
    congr 1
    refine List.filter_congr fun r hr => ?_
    cases hk : isKey key r
    · rfl
    · rw [hp r ((sortL_perm' a).mem_iff.1 hr) ⟨q, (sortL_perm' b).mem_iff.1 hq, by rw [e, isKey_iff.1 hk]⟩]; rfl
  rw [hv]
theorem inner_none (key : ByteArray) (v : List ByteArray) : oneK 1 key v [] = [] := by
  rw [one_inner]
  exact flatMap_none v
theorem semi_none (key : ByteArray) (v : List ByteArray) : oneK 5 key v [] = [] := by
  rw [one_semi_of]; rfl
end Go.Proofs.Ytjepmcepgoncnaa

namespace Go.Proofs.Ytjepmcepgoncnaa
open Go.RowKit
theorem groups_of : ∀ (n : Nat) (l : List RowV), l.length ≤ n → KAsc l →
    (∀ g ∈ groupsR l, g.2 = l.filter (isKey g.1) ∧ ∃ r ∈ l, r.key = g.1) ∧ Rising ((groupsR l).map (·.1)) ∧ ∀ r ∈ l, r.key ∈ (groupsR l).map (·.1)
  | _, [], _, _ => ⟨fun g hg => by simp [groupsR_nil] at hg, List.Pairwise.nil, fun r hr => by cases hr⟩
  | 0, _ :: _, h, _ => by simp at h
  | n + 1, r :: l, h, ha => by
    have hge : ∀ x ∈ r :: l, Op.bytesLess x.key.toList r.key.toList = false := by
      intro x hx
      rcases List.mem_cons.1 hx with rfl | hx
      · exact bl_irrefl _
      · exact (List.pairwise_cons.1 ha).1 x hx
    obtain ⟨h1, h2⟩ := lead_filter ha hge
    have hp := leadN_pos r l
    have hl2 : ((r :: l).drop (leadN r.key (r :: l))).length ≤ n := by
      rw [List.length_drop]
      rw [List.length_cons] at h ⊢
      omega
    obtain ⟨g1, g2, g3⟩ := groups_of n _ hl2 (ha.drop _)
    rw [groupsR_next, h1]
    generalize hd : (r :: l).drop (leadN r.key (r :: l)) = d at *
    have hne : ∀ x ∈ d, x.key ≠ r.key := by
      intro x hx e
      rw [h2, List.mem_filter] at hx
      have := isKey_iff.2 e
      rw [this] at hx
      exact absurd hx.2 (by decide)
    refine ⟨?_, ?_, ?_⟩
    · intro g hg
      rcases List.mem_cons.1 hg with rfl | hg
      · exact ⟨rfl, r, List.mem_cons_self, rfl⟩
      · obtain ⟨e1, x, hx, e2⟩ := g1 g hg
        have hgk : g.1 ≠ r.key := by rw [← e2]; exact hne x hx
        refine ⟨?_, x, ?_, e2⟩
        · rw [e1, h2, List.filter_filter]
          refine List.filter_congr fun y _ => ?_
          cases e : isKey g.1 y
          · rfl
          · have e3 := isKey_iff.1 e
            have : isKey r.key y = false := by
              cases e4 : isKey r.key y
              · rfl
              · exact absurd ((e3.symm.trans (isKey_iff.1 e4))) hgk
            rw [this]; rfl
        · rw [h2, List.mem_filter] at hx
          exact hx.1
    · rw [List.map_cons]
      refine List.pairwise_cons.2 ⟨?_, g2⟩
      intro k hk
      obtain ⟨g, hg, rfl⟩ := List.mem_map.1 hk
      obtain ⟨_, x, hx, e2⟩ := g1 g hg
      show Op.bytesLess r.key.toList g.1.toList = true
      rw [← e2]
      have hxm : x ∈ r :: l := by
        rw [h2, List.mem_filter] at hx
        exact hx.1
      rcases bl_total (hge x hxm) with e3 | e3
      · exact absurd (ext_toList e3).symm (by first | exact hne x hx | exact fun e => hne x hx e.symm)
      · exact e3
    · intro x hx
      rw [List.map_cons]
      by_cases e : x.key = r.key
      · rw [e]; exact List.mem_cons_self
      · refine List.mem_cons_of_mem _ (g3 x ?_)
        rw [h2, List.mem_filter]
        refine ⟨hx, ?_⟩
        cases e4 : isKey r.key x
        · rfl
        · exact absurd (isKey_iff.1 e4) e
theorem groups_keys {l : List RowV} (h : KAsc l) : (groupsR l).map (·.1) = keysOf l := by
  obtain ⟨h1, h2, h3⟩ := groups_of _ l (Nat.le_refl _) h
  refine rising_eq h2 (keysOf_rising h) fun x => ?_
  rw [keysOf_mem]
  constructor
  · intro hx
    obtain ⟨g, hg, rfl⟩ := List.mem_map.1 hx
    exact (h1 g hg).2
  · rintro ⟨r, hr, rfl⟩
    exact h3 r hr
/-- How many rows have a key. -/
def manyK (l : List RowV) (key : ByteArray) : Nat := l.countP (isKey key)
theorem manyK_le (l : List RowV) (key : ByteArray) : manyK l key ≤ l.length := List.countP_le_length
theorem groups_many {l : List RowV} (h : KAsc l) : ∀ g ∈ groupsR l, g.2.length = manyK l g.1 := by
  intro g hg
  rw [((groups_of _ l (Nat.le_refl _) h).1 g hg).1, manyK, List.countP_eq_length_filter]
/-- The keys of more than so many rows: of groups, and of keys. -/
def skewG (M : Nat) (gs : List (ByteArray × List RowV)) : List ByteArray := (gs.filter fun g => decide (M < g.2.length)).map (·.1)
def skewK (M : Nat) (rs : List RowV) (K : List ByteArray) : List ByteArray := K.filter fun k => decide (M < manyK rs k)
theorem filter_map_congr {α β : Type} {f : α → β} {p : α → Bool} {q : β → Bool} : ∀ {l : List α}, (∀ x ∈ l, p x = q (f x)) → (l.filter p).map f = (l.map f).filter q
  | [], _ => rfl
  | x :: l, h => by
    have ih := filter_map_congr (l := l) (fun y hy => h y (List.mem_cons_of_mem _ hy))
    have hx := h x List.mem_cons_self
    rw [List.map_cons, List.filter_cons, List.filter_cons, ← hx]
    cases p x
    · exact ih
    · rw [if_pos rfl, if_pos rfl, List.map_cons, ih]
theorem many_sort (rs : List RowV) (k : ByteArray) : manyK (sortL rs) k = manyK rs k := (sortL_perm' rs).countP_eq _
theorem skew_same (M : Nat) (rs : List RowV) : skewG M (groupsR (sortL rs)) = skewK M rs (keysOf (sortL rs)) := by
  have ha : KAsc (sortL rs) := asc_keys (sortL_asc rs)
  unfold skewG skewK
  rw [← groups_keys ha]
  refine filter_map_congr fun g hg => ?_
  rw [groups_many ha g hg, many_sort]
theorem skewG_snoc (M : Nat) (gs : List (ByteArray × List RowV)) (g : ByteArray × List RowV) : skewG M (gs ++ [g]) = skewG M gs ++ (if M < g.2.length then [g.1] else []) := by
  unfold skewG
  rw [List.filter_append, List.map_append]
  congr 1
  by_cases h : M < g.2.length
  · rw [if_pos h]; simp [h]
  · rw [if_neg h]; simp [h]
theorem skewG_le (M : Nat) (gs : List (ByteArray × List RowV)) : (skewG M gs).length ≤ gs.length := by
  unfold skewG
  rw [List.length_map]
  exact List.length_filter_le _ _
theorem skewK_take {M : Nat} {rs : List RowV} {K : List ByteArray} {i : Nat} {k : ByteArray} (h : K[i]? = some k) : skewK M rs (K.take (i + 1)) = skewK M rs (K.take i) ++ (if M < manyK rs k then [k] else []) := by
  rw [List.take_add_one, h, Option.toList_some]
  unfold skewK
  rw [List.filter_append]
  congr 1
  by_cases h : M < manyK rs k
  · rw [if_pos h]; simp [h]
  · rw [if_neg h]; simp [h]
theorem skewK_le (M : Nat) (rs : List RowV) (K : List ByteArray) : (skewK M rs K).length ≤ K.length := List.length_filter_le _ _
theorem manyK_take {l : List RowV} {i : Nat} {r : RowV} {key : ByteArray} (h : l[i]? = some r) : manyK (l.take (i + 1)) key = manyK (l.take i) key + (if isKey key r = true then 1 else 0) := by
  rw [List.take_add_one, h, Option.toList_some]
  unfold manyK
  rw [List.countP_append, List.countP_singleton]
def skewedB (rs : List RowV) (N : Int) : Bool := rowsOk rs && decide (0 ≤ N)
def skewedS (rs : List RowV) (N : Int) : List ByteArray := if skewedB rs N = true then skewK N.toNat rs (keysOf (sortL rs)) else []
theorem skewedS_le (rs : List RowV) (N : Int) : (skewedS rs N).length ≤ 1048576 := by
  unfold skewedS
  split
  · rename_i h
    simp only [skewedB, Bool.and_eq_true] at h
    have h1 := rowsOk_le5 h.1
    have h2 := skewK_le N.toNat rs (keysOf (sortL rs))
    have h3 := keysOf_le (sortL rs)
    rw [sortL_length] at h3
    omega
  · exact Nat.zero_le _
end Go.Proofs.Ytjepmcepgoncnaa

namespace Go.Proofs.Ytjepmcepgoncnaa
open Go.RowKit
set_option maxRecDepth 100000 in
set_option maxHeartbeats 1000000 in
theorem l12Many_any (a : Option Addr) (n cap : Nat) (rs : List RowV) (key : ByteArray) (w : World) (hm : n ≤ 1048576) (hR : Rd w w.heap.size 3 a n (flat rs)) :
    Calls Try.prog 81 #[.slice a n cap, .string key] w fun e w' => e = .returned (.int .i64 (manyK rs key)) ∧ Below w.heap.size w w' := by
  have hl := Lib.hid hR.rows_length
  go_enter Try.func81, Try.ntmps81
  go_wp2_with fail
  go_loopw [5, 6] (fun v i wr => ∃ (k q : Nat), k ≤ n ∧ i = .int .i64 k ∧ v = .int .i64 q ∧ q ≤ k ∧ Hid (manyK (rs.take k) key = q) ∧ Below w.heap.size w wr) (fun _ j _ => n - (intOf j).toNat)
  case atStart => exact ⟨0, 0, Nat.zero_le _, rfl, rfl, Nat.le_refl _, Lib.hid rfl, Below.refl _ _⟩
  case round =>
    obtain ⟨k, q, hk, rfl, rfl, hqk, HQ, hb⟩ := hrel
    by_cases hlt : k < n
    · obtain ⟨b, off, r, rfl, hB, hr, c0, c1, c2⟩ := (hR.below hb (Nat.le_refl _)).row hlt
      have E := manyK_take (key := key) hr
      clear hr c1 c2
      cases hd : isKey key r
      · rw [hd, if_neg (by decide)] at E
        have HE := Lib.hid E
        have hd2 : (r.key == key) = false := by rw [beq_toListBytes]; exact hd
        have hd3 : (r.key.toList == key.toList) = false := hd
        clear E hd
        obtain ⟨rk, rt, rv⟩ := r
        go_wp2_with fail
        go_roundw
        case rel => exact ⟨k + 1, q, by omega, by go_num, rfl, by omega, Lib.hid (by rw [HE.out, HQ.out, Nat.add_zero]), hb⟩
        case measure => simp [intOf]; omega
      · rw [hd, if_pos rfl] at E
        have HE := Lib.hid E
        have hd2 : (r.key == key) = true := by rw [beq_toListBytes]; exact hd
        have hd3 : (r.key.toList == key.toList) = true := hd
        clear E hd
        obtain ⟨rk, rt, rv⟩ := r
        go_wp2_with fail
        go_roundw
        case rel => exact ⟨k + 1, q + 1, by omega, by go_num, by go_num, by omega, Lib.hid (by rw [HE.out, HQ.out]), hb⟩
        case measure => simp [intOf]; omega
    · obtain rfl : k = n := by omega
      have e : rs.take k = rs := List.take_of_length_le (by rw [hl.out]; omega)
      rw [e] at HQ
      go_wp2_with fail
      go_ret
      exact ⟨by rw [HQ.out]; rfl, hb⟩
def SkewOut (rs : List RowV) (N : Int) (w : World) (e : Ending) (w' : World) : Prop :=
  ∃ b c, e = .returned (.tuple #[.slice b (skewedS rs N).length c, .bool (skewedB rs N)]) ∧ Below w.heap.size w w' ∧ w'.ownsRow w.heap.size 9 1 (.slice b (skewedS rs N).length c) (skewedS rs N).length (strC (skewedS rs N))
set_option maxRecDepth 100000 in
set_option maxHeartbeats 4000000 in
theorem specSkewed_any (a : Option Addr) (n cap : Nat) (rs : List RowV) (N : Int) (w : World) (hm : n ≤ 1048576) (hok : ∀ r ∈ rs, r.Ok) (hR : Rd w w.heap.size 3 a n (flat rs)) :
    Calls Try.prog 27 #[.slice a n cap, .int .i64 N] w (SkewOut rs N w) := by
  have hOn := World.ownsRow_lit (base := w.heap.size) (e := 9) (size := 1) w #[] 0 (Nat.le_refl _) (Nat.zero_le _) rfl
  have hb0 := bl1 w (.cells #[] 9)
  have C0 := specRowsOk_any a n cap rs (w.alloc (.cells #[] 9)) hm hok ((hR.below hb0 (Nat.le_refl _)).more hb0.size)
  have H0 := Lib.hid (show (w.alloc (.cells #[] 9)).heap.size = w.heap.size + 1 by simp)
  unfold SkewOut
  cases hq : rowsOk rs
  case false =>
    rw [hq] at C0
    have E : skewedB rs N = false := by unfold skewedB; rw [hq]; rfl
    have E2 : skewedS rs N = [] := by unfold skewedS; rw [E]; rfl
    rw [E2, E]
    clear hq E E2 H0
    go_enter Try.func27, Try.ntmps27
    go_wp2_with fail
    generalize w.alloc (.cells #[] 9) = w0 at *
    refine C0.mono ?_
    rintro e w1 ⟨rfl, hb⟩
    go_wp2_with fail
    go_ret2
    exact ⟨none, 0, rfl, hb0.trans (hb.mono hb0.size), World.ownsRow_nil _ _ _ _⟩
  rw [hq] at C0
  cases hp : decide (0 ≤ N)
  case false =>
    have E : skewedB rs N = false := by unfold skewedB; rw [hp, Bool.and_false]
    have E2 : skewedS rs N = [] := by unfold skewedS; rw [E]; rfl
    rw [E2, E]
    have hN : decide (N < 0) = true := by simpa using hp
    clear hq E E2 hp H0
    go_enter Try.func27, Try.ntmps27
    go_wp2_with fail
    generalize w.alloc (.cells #[] 9) = w0 at *
    refine C0.mono ?_
    rintro e w1 ⟨rfl, hb⟩
    go_wp2_with fail
    go_ret2
    exact ⟨none, 0, rfl, hb0.trans (hb.mono hb0.size), World.ownsRow_nil _ _ _ _⟩
  have hN1 : 0 ≤ N := by simpa using hp
  obtain ⟨M, rfl⟩ : ∃ M : Nat, N = (M : Int) := ⟨N.toNat, by omega⟩
  clear hN1
  have E : skewedB rs M = true := by unfold skewedB; rw [hp, hq]; rfl
  have E2 : skewedS rs M = skewK M rs (keysOf (sortL rs)) := by unfold skewedS; rw [if_pos E]; rfl
  rw [E2, E]
  have hM0 : decide ((M : Int) < 0) = false := decide_eq_false (by omega)
  have hrl := Lib.hid hR.rows_length
  generalize hK : keysOf (sortL rs) = K
  have HK := Lib.hid hK
  have hkl : K.length ≤ n := by
    have := keysOf_le (sortL rs)
    rw [sortL_length, hrl.out, hK] at this
    exact this
  have HML := Lib.hid (fun key => manyK_le rs key)
  clear hq E E2 hp hK
  generalize hT : skewK M rs K = T
  have HT := Lib.hid hT
  clear hT
  obtain ⟨i0, hi, hz0, hz1, hz2⟩ := info_parts infoStr
  go_enter Try.func27, Try.ntmps27
  go_wp2_with fail
  generalize w.alloc (.cells #[] 9) = w0 at *
  refine C0.mono ?_
  clear C0
  rintro e w1 ⟨rfl, hb⟩
  have O1 := own_below hOn hb
  have B1 := hb0.trans (hb.mono hb0.size)
  have s0 := hb.size
  clear hb hOn hb0
  have R1 := (hR.below B1 (Nat.le_refl _)).more B1.size
  go_wp2_with fail
  refine (l5Keys_any a n cap rs w1 hm R1).mono ?_
  rintro e w2 ⟨ka, kc, rfl, hb2, hO2⟩
  rw [HK.out] at hO2 ⊢
  have O2 := own_below O1 hb2
  have B2 := B1.trans (hb2.mono B1.size)
  have S2 := RdIn.of_own hO2
  have s1 := hb2.size
  have A2 : Apart w1.heap.size w2.heap.size (.slice (some ⟨w.heap.size, 0, none⟩) 0 0) := Apart.at_ (.inl (by have := H0.out; omega))
  clear hO2 hb2 R1 B1 O1
  obtain ⟨nk, hnk⟩ : ∃ k, K.length = k := ⟨_, rfl⟩
  rw [hnk] at hkl S2 ⊢
  go_wp2_with fail
  go_loopw [6, 8] (fun v i wr => ∃ (k q : Nat) (g : Option Addr) (c : Nat), k ≤ nk ∧ i = .int .i64 k ∧ v = .slice g q c ∧ q ≤ k ∧ Hid ((skewK M rs (K.take k)).length = q) ∧ wr.ownsRow w.heap.size 9 1 (.slice g q c) q (strC (skewK M rs (K.take k))) ∧ Below w.heap.size w wr ∧ RdIn wr w1.heap.size w2.heap.size 1 ka nk (strC K) ∧ Hid (Apart w1.heap.size w2.heap.size (.slice g q c)) ∧ w2.heap.size ≤ wr.heap.size) (fun _ j _ => nk - (intOf j).toNat)
  case atStart => exact ⟨0, 0, _, _, Nat.zero_le _, rfl, rfl, Nat.le_refl _, Lib.hid rfl, O2, B2, S2, Lib.hid A2, Nat.le_refl _⟩
  case round =>
    obtain ⟨k, q, g, c, hk, rfl, rfl, hqk, HQ, hO, hb, hS, HA, hs⟩ := hrel
    clear O2 B2 S2 A2
    by_cases hlt : k < nk
    · obtain ⟨b, off, key, rfl, hB, hkey, c0⟩ := hS.rd.str hlt
      have HE := Lib.hid (skewK_take (M := M) (rs := rs) hkey)
      clear hkey
      have R1 := (hR.below hb (Nat.le_refl _)).more hb.size
      have CM := l12Many_any a n cap rs key wr hm R1
      have hmk := HML.out key
      rw [hrl.out] at hmk
      generalize manyK rs key = mk at *
      go_wp2_with fail
      refine CM.mono ?_
      clear CM R1
      rintro e w3 ⟨rfl, hb3⟩
      have hO3 := own_below hO hb3
      have B3 := hb.trans (hb3.mono hb.size)
      have hS3 := hS.below hb3 hs
      have hs3 : w2.heap.size ≤ w3.heap.size := Nat.le_trans hs hb3.size
      have c03 := (hb3.cell (p := ⟨b, off + k, none⟩) (Nat.lt_of_lt_of_le hB hs)).trans c0
      clear hO hb hS c0 hs hb3
      by_cases hgt : M < mk
      · have E := Lib.hid (show skewK M rs (K.take (k + 1)) = skewK M rs (K.take k) ++ [key] by rw [HE.out, if_pos hgt])
        clear HE
        have hg8 : w.heap.size ≤ w3.heap.size := B3.size
        go_wp2_with (at_builtin; refine wpList_append_own_at _ rfl _ _ 41 rfl w.heap.size 9 i0 (.string ⟨#[]⟩) 1 16 Try.underlying41 hi hz0 hz1 hz2 rfl (by decide) _ _ _ rfl (hO3.alloc _) ⟨w3.heap.size, 0, none⟩ 1 1 [.string key] rfl rfl (cell_one_new _ _ _) ?c2 ?c3 ?c4 ?c5 ?_)
        case c2 => first | rfl | (intro u hu; simp at hu; subst hu; rfl)
        case c3 => unfold maxLen; omega
        case c4 => omega
        case c5 => first | omega | (simp; omega)
        intro v' w4 hO4 hg4 _ hat
        obtain ⟨a', cap', rfl⟩ := own_slice' hO4
        have hb4 := below_grown1 B3 hO3 hg4
        have hS4 := hS3.gb1 hg4 hs3 HA.out
        have HA4 := Lib.hid (HA.out.next1 hat hs3)
        have hs4 := size_grown1 hg4 hs3
        have hO5 : w4.ownsRow w.heap.size 9 1 (.slice a' (q + 1) cap') (q + 1) (strC (skewK M rs (K.take (k + 1)))) := by
          rw [E.out, strC_snoc]; exact hO4
        have HQ2 := Lib.hid (show (skewK M rs (K.take (k + 1))).length = q + 1 by rw [E.out, List.length_append, HQ.out]; rfl)
        clear hg4 hat hO3 hO4 hS3 HA HQ c03 B3 hs3
        go_wp2_with fail
        go_roundw
        case rel => exact ⟨k + 1, q + 1, a', cap', by omega, by go_num, rfl, by omega, HQ2, hO5, hb4, hS4, HA4, hs4⟩
        case measure => simp [intOf]; omega
      · have E := Lib.hid (show skewK M rs (K.take (k + 1)) = skewK M rs (K.take k) by rw [HE.out, if_neg hgt, List.append_nil])
        clear HE
        go_wp2_with fail
        go_roundw
        case rel => exact ⟨k + 1, q, g, c, by omega, by go_num, rfl, by omega, Lib.hid (by rw [E.out]; exact HQ.out), by rw [E.out]; exact hO3, B3, hS3, HA, hs3⟩
        case measure => simp [intOf]; omega
    · obtain rfl : k = nk := by omega
      have e : K.take k = K := List.take_of_length_le (by omega)
      have hl := HQ.out
      rw [e, HT.out] at hO hl
      have HL := Lib.hid hl
      clear e hl HQ
      go_wp2_with fail
      go_ret2
      refine ⟨g, c, ?_, hb, ?_⟩
      · rw [HL.out]; rfl
      · rw [HL.out]; exact hO
end Go.Proofs.Ytjepmcepgoncnaa

namespace Go.Proofs.Ytjepmcepgoncnaa
open Go.RowKit
def noDefer (o : Oper) : Bool := match o.op with | .defer _ => false | _ => true
theorem noDefer_out {o : Oper} (h : noDefer o = true) : ∀ c, o.op ≠ .defer c := by
  intro c e
  unfold noDefer at h
  rw [e] at h
  cases h
theorem wpIn_round {P : Program} {l n : Nat} {o : Oper} {a : Act} {w : World} {K : Act → World → Prop} {Q : Exit → Act → World → Prop} (hd : noDefer o = true) (h : o.wp P a w K Q) : o.wpIn (Fence.wide.inRound l) n P a w K Q := by
  refine ⟨fun _ _ => trivial, ?_⟩
  rw [Oper.semAt_plain _ _ _ (noDefer_out hd)]
  unfold Oper.wp at h
  revert h
  generalize (execOp a.eval o).run P w = r
  intro h
  cases r with
  | ok x w' =>
    cases x with
    | value v => exact h
    | skip => exact h
    | defer d => exact h
    | enter f args => exact ⟨fun h => (by cases h), (callsIn_wide (n := n - 1)).2 h⟩
    | row r args => exact ⟨fun h => (by cases h), fun c cs _ => let ⟨v, w2, h1, h2⟩ := h c cs; ⟨v, w2, h1, stepsIn_wide.2 h2⟩⟩
    | _ => exact h.elim
  | halt x w' => cases x <;> first | exact h | exact h.elim
theorem wpOpsIn_round {P : Program} {l n : Nat} {ops : Array Oper} {Q : Exit → Act → World → Prop} (hd : ∀ o ∈ ops.toList, noDefer o = true) (hQ : ¬ LetsOut Q) : ∀ (is : List Nat) (a : Act) (w : World), wpOps P ops Q is a w → wpOpsIn (Fence.wide.inRound l) n P ops Q is a w := by
  intro is
  induction is with
  | nil => exact fun a w h => h
  | cons i is ih =>
    intro a w h
    unfold wpOps at h
    unfold wpOpsIn
    cases ho : ops[i]? with
    | none => rw [ho] at h; exact ih _ _ h
    | some o =>
      rw [ho] at h
      have hm : o ∈ ops.toList := by
        obtain ⟨hi, rfl⟩ := Array.getElem?_eq_some_iff.1 ho
        simp
      simp only at h ⊢
      split
      · rename_i hw
        rw [if_pos hw] at h
        rcases h with h | ⟨_, h⟩
        · exact wpIn_round (hd o hm) (Oper.wp_mono (fun a w h => ih a w h) h)
        · exact absurd h hQ
      · rename_i hw
        rw [if_neg hw] at h
        exact ⟨fun _ _ => trivial, ih _ _ h⟩
theorem wpIn_region_round {P : Program} {l n id : Nat} {ops : List Oper} {Q : Exit → Act → World → Prop} {a : Act} {w : World} (hm : P.follows .mixedOrders = true) (hd : ops.all noDefer = true) (hQ : ¬ LetsOut Q)
    (h : wpAny P .any ops.toArray Q ops.length (Array.replicate ops.length false) a w.drew) : (Code.region id ops.toArray true).wpIn (Fence.wide.inRound l) n P Q a w := by
  refine wpIn_region_draw fun t => ?_
  refine wpOpsIn_round (fun o ho => List.all_eq_true.1 hd o (by simpa using ho)) hQ _ _ _ ?_
  simp only [Region.schedule, hm, Bool.true_or, if_true]
  have := wpAny_sound ops.length t _ a _ h
  simpa [Region.linearise] using this
end Go.Proofs.Ytjepmcepgoncnaa

namespace Go.Proofs.Ytjepmcepgoncnaa
open Go.RowKit Go.Shelf
attribute [local go_sem] Oper.semAt_some
def firstB (rs : List RowV) (N : Int) : Bool := sortedOk rs && decide (0 ≤ N)
/-- The first rows of each group. -/
def firstL (N : Nat) (gs : List (ByteArray × List RowV)) : List RowV := gs.flatMap fun g => g.2.take N
def firstS (rs : List RowV) (N : Int) : List RowV := if firstB rs N = true then firstL N.toNat (groupsR rs) else []
theorem firstL_snoc (N : Nat) (gs : List (ByteArray × List RowV)) (g : ByteArray × List RowV) : firstL N (gs ++ [g]) = firstL N gs ++ g.2.take N := by simp [firstL]
theorem firstL_bound (N : Nat) {w : World} {B : Nat} : ∀ (l : List (GrpIn w B)), (firstL N (grpsOf l)).length ≤ l.length * 1048576
  | [] => by simp [firstL, grpsOf]
  | x :: l => by
    have h1 : x.1.rows.length = x.1.n := x.2.1.rows_length
    have h2 := x.2.2.2.1
    have ih := firstL_bound N l
    have e : (firstL N (grpsOf (x :: l))).length = (x.1.rows.take N).length + (firstL N (grpsOf l)).length := by simp [firstL, grpsOf]
    rw [e, List.length_take, List.length_cons]
    omega
theorem grps_snoc (N : Nat) {w : World} {B : Nat} (l : List (GrpIn w B)) (x : GrpIn w B) : firstL N (grpsOf (l ++ [x])) = firstL N (grpsOf l) ++ x.1.rows.take N := by
  unfold grpsOf
  rw [List.map_append]
  exact firstL_snoc N _ _
/-- A box and another beside an append behind a draw, and the store of what came. -/
theorem boxed_appended {W w1 : World} {n₀ B : Nat} {t e : TypeId} {size : Nat} {v v' : Value} {k m : Nat} {xs ys : List Value}
    (hv : Boxed W B t v) (hte : t ≠ e) (hrow : W.ownsRow n₀ e size v k xs) (hn₀ : n₀ ≤ W.heap.size) (hB : n₀ ≤ B)
    (hown' : w1.ownsRow n₀ e size v' m ys) (hgrow : W.drew.grownBy w1 v.ownBlock) :
    Boxed w1 B t v ∧ Boxed (w1.setCell ⟨B, 0, none⟩ v') B t v' ∧ (w1.setCell ⟨B, 0, none⟩ v').ownsRow n₀ e size v' m ys ∧ KeepsOthers W (w1.setCell ⟨B, 0, none⟩ v') ∧ Below n₀ W (w1.setCell ⟨B, 0, none⟩ v') := by
  have hv1 : Boxed w1 B t v := (show Boxed W.drew B t v from hv).kept hgrow (hv.not_row hte hrow)
  refine ⟨hv1, hv1.set v', hown'.kept (grownBy_setCell' w1 B v') (.inr (hv1.not_row hte hown').symm), ?_, ?_⟩
  · refine ((KeepsOthers.drew W).trans (KeepsOthers.of_grownBy hgrow fun j o ej hj => ?_)).trans (KeepsOthers.setCell _ _ _)
    rcases hrow.2 with ⟨rfl, _⟩ | ⟨g, cap, cur, rfl, _, hgb, _⟩
    · simp [Value.ownBlock] at ej
    · obtain rfl : g = j := by simpa [Value.ownBlock] using ej
      rw [show W.drew.heap = W.heap from rfl, hgb] at hj; cases hj; rfl
  · refine (((Below.refl n₀ W).drew).grown hgrow hn₀ fun j ej => ?_).setCell (p := ⟨B, 0, none⟩) hB v'
    rcases hrow.2 with ⟨rfl, _⟩ | ⟨g, cap, cur, rfl, hb, _, _⟩
    · simp [Value.ownBlock] at ej
    · obtain rfl : g = j := by simpa [Value.ownBlock] using ej
      exact hb
theorem flat_one0 (l : List RowV) : ∀ u ∈ flat l, u.oneCell' = true := by
  induction l with
  | nil => simp [flat]
  | cons r l ih =>
    intro u hu
    rw [flat_cons] at hu
    simp only [List.mem_cons] at hu
    rcases hu with rfl | rfl | rfl | hu
    · rfl
    · rfl
    · rfl
    · exact ih u hu
def FirstOfOut (rs : List RowV) (N : Int) (w : World) (e : Ending) (w' : World) : Prop :=
  ∃ b c, e = .returned (.tuple #[.slice b (firstS rs N).length c, .bool (firstB rs N)]) ∧ Below w.heap.size w w' ∧ w'.ownsRow w.heap.size 77 3 (.slice b (firstS rs N).length c) (firstS rs N).length (flat (firstS rs N))
set_option maxRecDepth 100000 in
set_option maxHeartbeats 4000000 in
theorem implFirstOf_yes (a : Option Addr) (n cap M : Nat) (rs : List RowV) (w : World) (hm : n ≤ 120) (hnc : n ≤ cap) (hok : ∀ r ∈ rs, r.Ok) (hR : Rd w w.heap.size 3 a n (flat rs)) (hs : sortedOk rs = true) :
    Calls Try.prog 18 #[.slice a n cap, .int .i64 M] w fun e w' => ∃ b c, e = .returned (.tuple #[.slice b (firstL M (groupsR rs)).length c, .bool true]) ∧ Below w.heap.size w w' ∧ w'.ownsRow w.heap.size 77 3 (.slice b (firstL M (groupsR rs)).length c) (firstL M (groupsR rs)).length (flat (firstL M (groupsR rs))) := by
  obtain ⟨i0, hi, hz0, hz1, hz2⟩ := info_parts infoRow
  have hb0 := bl1 w (.cells #[.int .i64 M] 2)
  have bN := Boxed.new w 2 (.int .i64 M)
  have C0 := implSortedOk_any a n cap rs _ (by omega) hok ((hR.below hb0 (Nat.le_refl _)).more hb0.size)
  rw [hs] at C0
  have CB := fun w => byKey_any a n cap w
  have hM0 : decide ((M : Int) < 0) = false := decide_eq_false (by omega)
  refine (callsIn_wide (n := 5)).1 ?_
  refine callsIn_of_wp_marks Try.func18 rfl trivial ?_ rfl
  simp only [Try.ntmps18, List.size_toArray, List.length_cons, List.length_nil, Nat.reduceAdd, Nat.reduceSub, Array.replicate_succ, Array.replicate_zero, List.push_toArray, List.append_toArray, List.nil_append, List.cons_append]
  gi_wp2_with fail
  refine ⟨trivial, ?_⟩
  refine (callsIn_wide.2 C0).mono ?_
  rintro e w1 ⟨rfl, hb1⟩
  have hb := hb0.trans (hb1.mono hb0.size)
  have n1 := (hb1.cell (p := ⟨w.heap.size, 0, none⟩) bN.lt).trans bN.cell
  have bN1 : Boxed w1 w.heap.size 2 (.int .i64 M) := (hb1.block _ bN.lt).trans bN
  have l1 := bN1.lt
  clear C0 hb0 hb1 bN
  have bF := Boxed.new w1 24 (.slice none 0 0)
  have bF2 := bl1 w1 (.cells #[.slice none 0 0] 24)
  gi_wp2_with fail
  refine ⟨trivial, ?_⟩
  refine (callsIn_wide.2 (CB _)).mono ?_
  rintro e w2 ⟨rfl, rfl⟩
  gi_wp2_with fail
  have hW0 := (hb.trans (bF2.mono hb.size)).alloc (by have := bF2.size; have := hb.size; omega) (.cells #[.slice a n cap] 24)
  have bF3 := bF.alloc (.cells #[.slice a n cap] 24)
  have bN2 := (bN1.alloc (.cells #[.slice none 0 0] 24)).alloc (.cells #[.slice a n cap] 24)
  have bC := Boxed.new (w1.alloc (.cells #[.slice none 0 0] 24)) 24 (.slice a n cap)
  rw [World.size_alloc] at bC
  have hR0 := hR.below hW0 (Nat.le_refl _)
  generalize hWe : ((w1.alloc (.cells #[.slice none 0 0] 24)).alloc (.cells #[.slice a n cap] 24)) = W0 at *
  have hsz : w.heap.size ≤ W0.heap.size := hW0.size
  have hl1 : w1.heap.size < W0.heap.size := bF3.lt
  clear hWe
  refine wpIn_rangeFunc_ownF rfl (by omega) (gf := 105) (lb := #[.pointer (some ⟨w1.heap.size + 1, 0, none⟩)]) rfl trivial (enters_of Try.func105 (by kernel_rfl) rfl)
    (byKey_stops _ (w1.heap.size + 1) w.heap.size a n cap rs (by omega) hnc W0 hsz bC.cell bC.lt hR0) belowK_t (belowK_b hsz) (Below.refl _ _) (fun _ => rfl)
    (fun (pre : List (GrpIn W0 w.heap.size)) W => ((∃ v, Boxed W w1.heap.size 24 v ∧ W.ownsRow w.heap.size 77 3 v (firstL M (grpsOf pre)).length (flat (firstL M (grpsOf pre))) ∧ True) ∧ Boxed W w.heap.size 2 (.int .i64 M)) ∧ Below w.heap.size W0 W)
    (fun _ _ _ => False)
    (OwnFrom.and (OwnFrom.and (Own.from (holdsRow_own w.heap.size w1.heap.size 24 77 3 (fun pre => (firstL M (grpsOf pre)).length) (fun pre => flat (firstL M (grpsOf pre))) (fun _ _ => True)) _) (Own.from (boxed_own _ _ _) _)) (ownFrom_below hsz hsz))
    (fun _ _ _ _ _ hs _ _ => hs)
    ⟨⟨⟨_, bF3, World.ownsRow_nil _ _ _ _, trivial⟩, bN2⟩, Below.refl _ _⟩
    (fun x => { tmps := #[.slice a n cap, .int .i64 M, undef, .pointer (some ⟨w.heap.size, 0, none⟩), .slice none 0 0, .bool false, .pointer (some ⟨w1.heap.size, 0, none⟩), undef, .slice x.1.a x.1.n x.1.c, .slice a n cap, .bool true, .bool false, .bool false, .int .i64 M, .bool false, .bool false, .slice a n cap, .func (.func 105) #[] #[.pointer (some ⟨w1.heap.size + 1, 0, none⟩)], .string x.1.key, .slice x.1.a x.1.n x.1.c, undef, undef, undef, undef, undef, undef, undef, undef, undef], defers := [] })
    ?assign ?body ?done ?stop
  case assign =>
    intro l x W K hK
    simp only [grpV] at *
    gi_wp2_with fail
    exact hK
  case body =>
    rintro l pre x W ⟨⟨⟨v, hv, hrow, _⟩, hN⟩, hB⟩ hlt
    have hEq0 := grps_snoc M pre x
    obtain ⟨⟨key, xa, xn, xc, rows⟩, hxp⟩ := x
    obtain ⟨hxR, hxc, hxb, xb, xo, hxe⟩ := id hxp
    dsimp only at hxR hxc hxb hxe hEq0 ⊢
    subst hxe
    have hc := hv.cell
    have hcN := hN.cell
    obtain ⟨q, hq1, hqe⟩ : ∃ q : Nat, min (M : Int) (xn : Int) = (q : Int) ∧ q = min M xn := ⟨min M xn, by omega, rfl⟩
    have hq6 : q ≤ xc := by omega
    have hq3 : (q : Int) ≤ (xc : Int) := by omega
    have hq4 : (0 : Int) ≤ (q : Int) := by omega
    have hq5 : (q : Int) ≤ (xn : Int) := by omega
    have hqn : q ≤ xn := by omega
    have hxl : rows.length = xn := hxR.rows_length
    have hxW : Rd W w.heap.size 3 (some ⟨xb, xo, none⟩) q (flat (rows.take q)) := (hxR.below hB (Nat.le_refl _)).head hqn
    have HQ := Lib.hid hqe
    have hTk : rows.take M = rows.take q := by
      rw [hqe]
      rcases Nat.le_total M xn with h | h
      · rw [Nat.min_eq_left h]
      · rw [Nat.min_eq_right h, List.take_of_length_le (by omega), List.take_of_length_le (by omega)]
    have hEq := Lib.hid (hEq0.trans (congrArg (firstL M (grpsOf pre) ++ ·) hTk))
    clear hEq0 hTk
    have hfl := firstL_bound M pre
    have hpl : pre.length ≤ 120 := by have := hR.rows_length; omega
    have hsW : w.heap.size ≤ W.heap.size := Nat.le_trans hsz hB.size
    clear hqe
    refine wpIn_block ?_
    refine wpIn_region_round (by kernel_rfl) (by rfl) (by rintro ⟨a, w, h⟩; exact h) ?_
    refine wpAny_take (i := 1) (v := .slice (some ⟨xb, xo, none⟩) xn xc) rfl (by kernel_rfl) (by kernel_rfl) (by kernel_rfl) (fun _ _ _ h => h) (Or.inl ⟨by rfl, fun w => by go_simp⟩) ?_
    refine wpAny_take (i := 3) (v := .slice (some ⟨xb, xo, none⟩) xn xc) rfl (by kernel_rfl) (by kernel_rfl) (by kernel_rfl) (fun _ _ _ h => h) (Or.inl ⟨by rfl, fun w => by go_simp⟩) ?_
    refine wpAny_take (i := 4) (v := .int .i64 (xn : Int)) rfl (by kernel_rfl) (by kernel_rfl) (by kernel_rfl) (fun _ _ _ h => h) (Or.inl ⟨by rfl, fun w => by go_simp⟩) ?_
    refine wpAny_ready (rs := [0, 2]) (by kernel_rfl) (by simp) ?_
    refine AllReady.cons rfl (fun K hK => ?_) ?_
    · go_simp
      refine hK _ _ ?_
      clear hK K
      refine wpAny_ready (rs := [2]) (by kernel_rfl) (by simp) ?_
      refine AllReady.cons rfl (fun K hK => ?_) AllReady.nil
      go_simp
      refine hK _ _ ?_
      clear hK K
      refine wpAny_take (i := 5) (v := .int .i64 (q : Int)) rfl (by kernel_rfl) (by kernel_rfl) (by kernel_rfl) (fun _ _ _ h => h) (Or.inl ⟨by rfl, fun w => by go_simp⟩) ?_
      refine wpAny_take (i := 6) (v := .slice (some ⟨xb, xo, none⟩) q xc) rfl (by kernel_rfl) (by kernel_rfl) (by kernel_rfl) (fun _ _ _ h => h) (Or.inl ⟨by rfl, fun w => by go_simp⟩) ?_
      refine wpAny_ready (rs := [7]) (by kernel_rfl) (by simp) ?_
      refine AllReady.cons rfl (fun K hK => ?_) AllReady.nil
      refine step_append_rd rfl _ _ 24 rfl w.heap.size 77 i0 (.agg #[.string ⟨#[]⟩, .int .i64 0, .string ⟨#[]⟩]) 3 40 Try.underlying24 hi hz0 hz1 hz2 rfl (by decide) v _ _ rfl (show W.drew.ownsRow _ _ _ _ _ _ from hrow) (some ⟨xb, xo, none⟩) w.heap.size q _ (flat (rows.take q)) rfl (show Rd W.drew _ _ _ _ _ from hxW) (flat_one0 _) (by unfold maxLen; omega) (by omega) hsW ?_
      intro v' w2 hown' hgrow hblk
      obtain ⟨vb, vc, rfl, _⟩ := own_slice2 hown'
      obtain ⟨hv1, hv2, hr2, hk2, hb2⟩ := boxed_appended hv (by decide) hrow hsW (by omega) hown' hgrow
      have hc1 := hv1.cell
      have hf1 := hv1.frozen
      refine hK _ _ ?_
      clear hK K
      refine wpAny_ready (rs := [8]) (by kernel_rfl) (by simp) ?_
      refine AllReady.cons rfl (fun K hK => ?_) AllReady.nil
      go_simp
      refine hK _ _ ?_
      clear hK K
      refine wpAny_done (by kernel_rfl) ?_ _
      exact ⟨hk2, hb2, ⟨⟨_, hv2, by rw [hEq.out, List.length_append, List.length_take, hxl, Nat.min_eq_left hqn, flat_append]; exact hr2, trivial⟩, ((show Boxed W.drew _ _ _ from hN).kept hgrow (hN.not_row (by decide) hrow)).other (by omega) _⟩, hB.trans hb2⟩
    · refine AllReady.cons rfl (fun K hK => ?_) AllReady.nil
      go_simp
      refine hK _ _ ?_
      clear hK K
      refine wpAny_take (i := 5) (v := .int .i64 (q : Int)) rfl (by kernel_rfl) (by kernel_rfl) (by kernel_rfl) (fun _ _ _ h => h) (Or.inl ⟨by rfl, fun w => by go_simp⟩) ?_
      refine wpAny_take (i := 6) (v := .slice (some ⟨xb, xo, none⟩) q xc) rfl (by kernel_rfl) (by kernel_rfl) (by kernel_rfl) (fun _ _ _ h => h) (Or.inl ⟨by rfl, fun w => by go_simp⟩) ?_
      refine wpAny_ready (rs := [0]) (by kernel_rfl) (by simp) ?_
      refine AllReady.cons rfl (fun K hK => ?_) AllReady.nil
      go_simp
      refine hK _ _ ?_
      clear hK K
      refine wpAny_ready (rs := [7]) (by kernel_rfl) (by simp) ?_
      refine AllReady.cons rfl (fun K hK => ?_) AllReady.nil
      refine step_append_rd rfl _ _ 24 rfl w.heap.size 77 i0 (.agg #[.string ⟨#[]⟩, .int .i64 0, .string ⟨#[]⟩]) 3 40 Try.underlying24 hi hz0 hz1 hz2 rfl (by decide) v _ _ rfl (show W.drew.ownsRow _ _ _ _ _ _ from hrow) (some ⟨xb, xo, none⟩) w.heap.size q _ (flat (rows.take q)) rfl (show Rd W.drew _ _ _ _ _ from hxW) (flat_one0 _) (by unfold maxLen; omega) (by omega) hsW ?_
      intro v' w2 hown' hgrow hblk
      obtain ⟨vb, vc, rfl, _⟩ := own_slice2 hown'
      obtain ⟨hv1, hv2, hr2, hk2, hb2⟩ := boxed_appended hv (by decide) hrow hsW (by omega) hown' hgrow
      have hc1 := hv1.cell
      have hf1 := hv1.frozen
      refine hK _ _ ?_
      clear hK K
      refine wpAny_ready (rs := [8]) (by kernel_rfl) (by simp) ?_
      refine AllReady.cons rfl (fun K hK => ?_) AllReady.nil
      go_simp
      refine hK _ _ ?_
      clear hK K
      refine wpAny_done (by kernel_rfl) ?_ _
      exact ⟨hk2, hb2, ⟨⟨_, hv2, by rw [hEq.out, List.length_append, List.length_take, hxl, Nat.min_eq_left hqn, flat_append]; exact hr2, trivial⟩, ((show Boxed W.drew _ _ _ from hN).kept hgrow (hN.not_row (by decide) hrow)).other (by omega) _⟩, hB.trans hb2⟩
  case done =>
    rintro D ys W hD hys ⟨⟨⟨v, hv, hrow, _⟩, hN⟩, hB⟩ hK
    obtain ⟨fb, fc, rfl, _⟩ := own_slice2 hrow
    have hc := hv.cell
    gi_wp2_with fail
    rw [hys] at hrow
    refine ⟨by simp, .inl ⟨_, _, rfl, run_takeDeferred hK, ?_⟩⟩
    exact ⟨_, results_tmp2 rfl _ _ _, fb, fc, by simp, (hW0.trans hB).trans (belowK_b (w := w) (Nat.le_refl _) W D _ _ (by omega) hK rfl rfl), ownsRow_putObj hrow _ hK rfl⟩
  case stop =>
    rintro D c pre W _ _ h _
    exact h.elim
set_option maxRecDepth 100000 in
set_option maxHeartbeats 1000000 in
theorem implFirstOf_no (a : Option Addr) (n cap : Nat) (N : Int) (rs : List RowV) (w : World) (hm : n ≤ 1048576) (hok : ∀ r ∈ rs, r.Ok) (hR : Rd w w.heap.size 3 a n (flat rs)) (hq : firstB rs N = false) :
    Calls Try.prog 18 #[.slice a n cap, .int .i64 N] w fun e w' => e = .returned (.tuple #[.slice none 0 0, .bool false]) ∧ Below w.heap.size w w' := by
  have hb0 := bl1 w (.cells #[.int .i64 N] 2)
  have bN := Boxed.new w 2 (.int .i64 N)
  have C0 := implSortedOk_any a n cap rs _ hm hok ((hR.below hb0 (Nat.le_refl _)).more hb0.size)
  unfold firstB at hq
  cases hs : sortedOk rs
  case false =>
    rw [hs] at C0
    clear hq hs
    go_enter Try.func18, Try.ntmps18
    go_wp2_with fail
    refine C0.mono ?_
    rintro e w1 ⟨rfl, hb⟩
    have hb' := hb0.trans (hb.mono hb0.size)
    go_wp2_with fail
    go_ret2
    exact ⟨rfl, hb'⟩
  rw [hs] at C0 hq
  have hN : N < 0 := by simpa using hq
  have hN0 : decide (N < 0) = true := decide_eq_true hN
  clear hq hs
  go_enter Try.func18, Try.ntmps18
  go_wp2_with fail
  refine C0.mono ?_
  rintro e w1 ⟨rfl, hb⟩
  have hb' := hb0.trans (hb.mono hb0.size)
  have n1 := (hb.cell (p := ⟨w.heap.size, 0, none⟩) bN.lt).trans bN.cell
  go_wp2_with fail
  go_ret2
  exact ⟨rfl, hb'⟩
theorem sortedOk_le4 {rs : List RowV} (h : sortedOk rs = true) : rs.length ≤ 120 := by
  unfold sortedOk at h
  rw [Bool.and_eq_true] at h
  have h1 := h.1
  unfold rowsOk at h1
  rw [Bool.and_eq_true] at h1
  exact of_decide_eq_true h1.1
theorem implFirstOf_any (a : Option Addr) (n cap : Nat) (rs : List RowV) (N : Int) (w : World) (hm : n ≤ 1048576) (hnc : n ≤ cap) (hok : ∀ r ∈ rs, r.Ok) (hR : Rd w w.heap.size 3 a n (flat rs)) :
    Calls Try.prog 18 #[.slice a n cap, .int .i64 N] w fun e w' => ∃ b c, e = .returned (.tuple #[.slice b (firstS rs N).length c, .bool (firstB rs N)]) ∧ Below w.heap.size w w' ∧ w'.ownsRow w.heap.size 77 3 (.slice b (firstS rs N).length c) (firstS rs N).length (flat (firstS rs N)) := by
  unfold firstS
  cases hq : firstB rs N
  case false =>
    refine (implFirstOf_no a n cap N rs w hm hok hR hq).mono ?_
    rintro e w' ⟨rfl, hb⟩
    exact ⟨none, 0, rfl, hb, World.ownsRow_nil _ _ _ _⟩
  have hq2 := hq
  unfold firstB at hq2
  rw [Bool.and_eq_true] at hq2
  have hN : 0 ≤ N := of_decide_eq_true hq2.2
  obtain ⟨M, rfl⟩ : ∃ M : Nat, N = (M : Int) := ⟨N.toNat, by omega⟩
  exact implFirstOf_yes a n cap M rs w (by have := hR.rows_length; have := sortedOk_le4 hq2.1; omega) hnc hok hR hq2.1
end Go.Proofs.Ytjepmcepgoncnaa

namespace Go.Proofs.Ytjepmcepgoncnaa
open Go.RowKit Go.Shelf
attribute [local go_sem] Oper.semAt_some
theorem skewG_snocG (M : Nat) {w : World} {B : Nat} (l : List (GrpIn w B)) (x : GrpIn w B) : skewG M (grpsOf (l ++ [x])) = skewG M (grpsOf l) ++ (if M < x.1.rows.length then [x.1.key] else []) := by
  unfold grpsOf
  rw [List.map_append]
  exact skewG_snoc M _ _
theorem skewG_bound (M : Nat) {w : World} {B : Nat} (l : List (GrpIn w B)) : (skewG M (grpsOf l)).length ≤ l.length := by
  have := skewG_le M (grpsOf l)
  unfold grpsOf at this ⊢
  rw [List.length_map] at this
  exact this
set_option maxRecDepth 100000 in
set_option maxHeartbeats 4000000 in
theorem implSkewed_yes (a : Option Addr) (n cap M : Nat) (rs : List RowV) (w : World) (hm : n ≤ 1048576) (hok : ∀ r ∈ rs, r.Ok) (hR : Rd w w.heap.size 3 a n (flat rs)) (hs : rowsOk rs = true) :
    Calls Try.prog 28 #[.slice a n cap, .int .i64 M] w fun e w' => ∃ b c, e = .returned (.tuple #[.slice b (skewG M (groupsR (sortL rs))).length c, .bool true]) ∧ Below w.heap.size w w' ∧ w'.ownsRow w.heap.size 9 1 (.slice b (skewG M (groupsR (sortL rs))).length c) (skewG M (groupsR (sortL rs))).length (strC (skewG M (groupsR (sortL rs)))) := by
  obtain ⟨i0, hi, hz0, hz1, hz2⟩ := info_parts infoStr
  have hb0 := bl1 w (.cells #[.int .i64 M] 2)
  have bN := Boxed.new w 2 (.int .i64 M)
  have C0 := implSorted_any a n cap rs _ (by omega) hok ((hR.below hb0 (Nat.le_refl _)).more hb0.size)
  unfold SortedOut at C0
  rw [sortedR_yes hs, hs, sortL_length, hR.rows_length] at C0
  have hn120 : n ≤ 120 := by rw [← hR.rows_length]; exact rowsOk_le5 hs
  have hSl : (sortL rs).length = n := by rw [sortL_length, hR.rows_length]
  have HSL := Lib.hid hSl
  generalize sortL rs = S at *
  have CB := fun p pc w => byKey_any p n pc w
  have hM0 : decide ((M : Int) < 0) = false := decide_eq_false (by omega)
  clear hR hok hs hSl
  refine (callsIn_wide (n := 5)).1 ?_
  refine callsIn_of_wp_marks Try.func28 rfl trivial ?_ rfl
  simp only [Try.ntmps28, List.size_toArray, List.length_cons, List.length_nil, Nat.reduceAdd, Nat.reduceSub, Array.replicate_succ, Array.replicate_zero, List.push_toArray, List.append_toArray, List.nil_append, List.cons_append]
  gi_wp2_with fail
  refine ⟨trivial, ?_⟩
  refine (callsIn_wide.2 C0).mono ?_
  rintro e w1 ⟨p, pc, rfl, hb1, hO1⟩
  obtain ⟨bp, pc', e0, hpc⟩ := own_slice2 hO1
  injection e0 with e1 _ e3
  subst e3
  have R1 := Rd.of_own hO1
  have hb := hb0.trans (hb1.mono hb0.size)
  have n1 := (hb1.cell (p := ⟨w.heap.size, 0, none⟩) bN.lt).trans bN.cell
  have bN1 : Boxed w1 w.heap.size 2 (.int .i64 M) := (hb1.block _ bN.lt).trans bN
  have l1 := bN1.lt
  clear C0 hb0 hb1 bN hO1 e1
  have bF := Boxed.new w1 41 (.slice none 0 0)
  have bF2 := bl1 w1 (.cells #[.slice none 0 0] 41)
  gi_wp2_with fail
  refine ⟨trivial, ?_⟩
  refine (callsIn_wide.2 (CB _ _ _)).mono ?_
  rintro e w2 ⟨rfl, rfl⟩
  gi_wp2_with fail
  have hW1 := bF2.alloc (by have := bF2.size; omega) (.cells #[.slice p n pc] 24)
  have bF3 := bF.alloc (.cells #[.slice p n pc] 24)
  have bN2 := (bN1.alloc (.cells #[.slice none 0 0] 41)).alloc (.cells #[.slice p n pc] 24)
  have bC := Boxed.new (w1.alloc (.cells #[.slice none 0 0] 41)) 24 (.slice p n pc)
  rw [World.size_alloc] at bC
  have hR0 := R1.below hW1 (Nat.le_refl _)
  have hW0 := hb.trans (hW1.mono hb.size)
  generalize hWe : ((w1.alloc (.cells #[.slice none 0 0] 41)).alloc (.cells #[.slice p n pc] 24)) = W0 at *
  have hsz : w1.heap.size ≤ W0.heap.size := hW1.size
  have hl1 : w1.heap.size < W0.heap.size := bF3.lt
  clear hWe
  refine wpIn_rangeFunc_ownF rfl (by omega) (gf := 105) (lb := #[.pointer (some ⟨w1.heap.size + 1, 0, none⟩)]) rfl trivial (enters_of Try.func105 (by kernel_rfl) rfl)
    (byKey_stops _ (w1.heap.size + 1) w1.heap.size p n pc S (by omega) hpc W0 hsz bC.cell bC.lt hR0) belowK_t (belowK_b hsz) (Below.refl _ _) (fun _ => rfl)
    (fun (pre : List (GrpIn W0 w1.heap.size)) W => ((∃ v, Boxed W w1.heap.size 41 v ∧ W.ownsRow w1.heap.size 9 1 v (skewG M (grpsOf pre)).length (strC (skewG M (grpsOf pre))) ∧ True) ∧ Boxed W w.heap.size 2 (.int .i64 M)) ∧ Below w1.heap.size W0 W)
    (fun _ _ _ => False)
    (OwnFrom.and (OwnFrom.and (Own.from (holdsRow_own w1.heap.size w1.heap.size 41 9 1 (fun pre => (skewG M (grpsOf pre)).length) (fun pre => strC (skewG M (grpsOf pre))) (fun _ _ => True)) _) (Own.from (boxed_own _ _ _) _)) (ownFrom_below hsz hsz))
    (fun _ _ _ _ _ hs _ _ => hs)
    ⟨⟨⟨_, bF3, World.ownsRow_nil _ _ _ _, trivial⟩, bN2⟩, Below.refl _ _⟩
    (fun x => { tmps := #[.slice a n cap, .int .i64 M, undef, .pointer (some ⟨w.heap.size, 0, none⟩), .slice none 0 0, .bool false, .slice p n pc, .bool true, .pointer (some ⟨w1.heap.size, 0, none⟩), .string x.1.key, .slice x.1.a x.1.n x.1.c, .tuple #[.slice p n pc, .bool true], .slice a n cap, .tuple #[.slice p n pc, .bool true], .slice p n pc, .bool true, .bool true, .bool false, .bool false, .int .i64 M, .bool false, .bool false, .slice p n pc, .func (.func 105) #[] #[.pointer (some ⟨w1.heap.size + 1, 0, none⟩)], .string x.1.key, .slice x.1.a x.1.n x.1.c, undef, undef, undef, undef, undef, undef, undef, undef, undef], defers := [] })
    ?assign ?body ?done ?stop
  case assign =>
    intro l x W K hK
    simp only [grpV] at *
    gi_wp2_with fail
    exact hK
  case body =>
    rintro l pre x W ⟨⟨⟨v, hv, hrow, _⟩, hN⟩, hB⟩ hlt
    have hEq0 := skewG_snocG M pre x
    have hxR := x.2.1
    obtain ⟨⟨key, xa, xn, xc, rows⟩, hxp⟩ := x
    dsimp only at hxR hEq0 ⊢
    have hxl : rows.length = xn := hxR.rows_length
    rw [hxl] at hEq0
    have hc := hv.cell
    have hcN := hN.cell
    have hfl := skewG_bound M pre
    have hpl : pre.length ≤ 120 := by have := HSL.out; omega
    have hsW : w1.heap.size ≤ W.heap.size := Nat.le_trans hsz hB.size
    by_cases hgt : M < xn
    · have hEq := Lib.hid (show skewG M (grpsOf (pre ++ [⟨⟨key, xa, xn, xc, rows⟩, hxp⟩])) = skewG M (grpsOf pre) ++ [key] by rw [hEq0, if_pos hgt])
      clear hEq0
      gi_wp2_with (gi_at_builtin; refine wpListIn_append_own _ rfl _ _ 41 rfl w1.heap.size 9 i0 (.string ⟨#[]⟩) 1 16 Try.underlying41 hi hz0 hz1 hz2 rfl (by decide) _ _ _ rfl (hrow.alloc _) ⟨W.heap.size, 0, none⟩ 1 1 [.string key] rfl rfl (cell_one_new _ _ _) (by simp [Value.oneCell']) (by unfold maxLen; omega) (by omega) (by have := hB.size; simp; omega) ?_; intro v' w3 hown' hgrow _; obtain ⟨g', cap', rfl⟩ := ownsRow_succ hown'; obtain ⟨hv1, hv2, hr2, hk2, hb2⟩ := hv.appended (by decide) hrow hsW (Nat.le_refl _) hown' hgrow; have hc1 := hv1.cell; have hf1 := hv1.frozen)
      exact ⟨hk2, hb2, ⟨⟨_, hv2, by rw [hEq.out, List.length_append, strC_snoc]; exact hr2, trivial⟩, ((hN.alloc _).kept hgrow (hN.not_row (by decide) hrow)).other (by omega) _⟩, hB.trans hb2⟩
    · have hEq := Lib.hid (show skewG M (grpsOf (pre ++ [⟨⟨key, xa, xn, xc, rows⟩, hxp⟩])) = skewG M (grpsOf pre) by rw [hEq0, if_neg hgt, List.append_nil])
      clear hEq0
      gi_wp2_with fail
      exact ⟨KeepsOthers.refl W, Below.refl _ _, ⟨⟨v, hv, by rw [hEq.out]; exact hrow, trivial⟩, hN⟩, hB⟩
  case done =>
    rintro D ys W hD hys ⟨⟨⟨v, hv, hrow, _⟩, hN⟩, hB⟩ hK
    obtain ⟨fb, fc, rfl, _⟩ := own_slice2 hrow
    have hc := hv.cell
    gi_wp2_with fail
    rw [hys] at hrow
    refine ⟨by simp, .inl ⟨_, _, rfl, run_takeDeferred hK, ?_⟩⟩
    exact ⟨_, results_tmp2 rfl _ _ _, fb, fc, by simp, (hW0.trans (hB.mono hb.size)).trans (belowK_b (w := w) (Nat.le_refl _) W D _ _ (by omega) hK rfl rfl), own_base' (ownsRow_putObj hrow _ hK rfl) hb.size⟩
  case stop =>
    rintro D c pre W _ _ h _
    exact h.elim
set_option maxRecDepth 100000 in
set_option maxHeartbeats 1000000 in
theorem implSkewed_no (a : Option Addr) (n cap : Nat) (N : Int) (rs : List RowV) (w : World) (hm : n ≤ 1048576) (hok : ∀ r ∈ rs, r.Ok) (hR : Rd w w.heap.size 3 a n (flat rs)) (hq : skewedB rs N = false) :
    Calls Try.prog 28 #[.slice a n cap, .int .i64 N] w fun e w' => e = .returned (.tuple #[.slice none 0 0, .bool false]) ∧ Below w.heap.size w w' := by
  have hb0 := bl1 w (.cells #[.int .i64 N] 2)
  have bN := Boxed.new w 2 (.int .i64 N)
  have C0 := implSorted_any a n cap rs _ hm hok ((hR.below hb0 (Nat.le_refl _)).more hb0.size)
  unfold SortedOut at C0
  unfold skewedB at hq
  cases hs : rowsOk rs
  case false =>
    rw [hs] at C0
    clear hq hs
    go_enter Try.func28, Try.ntmps28
    go_wp2_with fail
    refine C0.mono ?_
    rintro e w1 ⟨p, pc, rfl, hb, _⟩
    have hb' := hb0.trans (hb.mono hb0.size)
    go_wp2_with fail
    go_ret2
    exact ⟨rfl, hb'⟩
  rw [hs] at C0 hq
  have hN : N < 0 := by simpa using hq
  have hN0 : decide (N < 0) = true := decide_eq_true hN
  clear hq hs
  go_enter Try.func28, Try.ntmps28
  go_wp2_with fail
  refine C0.mono ?_
  rintro e w1 ⟨p, pc, rfl, hb, _⟩
  have hb' := hb0.trans (hb.mono hb0.size)
  have n1 := (hb.cell (p := ⟨w.heap.size, 0, none⟩) bN.lt).trans bN.cell
  go_wp2_with fail
  go_ret2
  exact ⟨rfl, hb'⟩
theorem implSkewed_any (a : Option Addr) (n cap : Nat) (rs : List RowV) (N : Int) (w : World) (hm : n ≤ 1048576) (hok : ∀ r ∈ rs, r.Ok) (hR : Rd w w.heap.size 3 a n (flat rs)) :
    Calls Try.prog 28 #[.slice a n cap, .int .i64 N] w (SkewOut rs N w) := by
  unfold SkewOut skewedS
  cases hq : skewedB rs N
  · rw [if_neg (by decide)]
    refine (implSkewed_no a n cap N rs w hm hok hR hq).mono ?_
    rintro e w1 ⟨rfl, hb⟩
    exact ⟨none, 0, rfl, hb, World.ownsRow_nil _ _ _ _⟩
  · rw [if_pos rfl]
    have h := hq
    simp only [skewedB, Bool.and_eq_true, decide_eq_true_eq] at h
    obtain ⟨M, rfl⟩ : ∃ M : Nat, N = (M : Int) := ⟨N.toNat, by omega⟩
    have C := implSkewed_yes a n cap M rs w hm hok hR h.1
    rw [skew_same] at C
    exact C
end Go.Proofs.Ytjepmcepgoncnaa

namespace Go.Proofs.Ytjepmcepgoncnaa
open Go.RowKit
theorem sub_stepB {x y : ByteArray} {l f : List ByteArray} (h : (y :: f).Sublist (x :: l)) : (x = y → f.Sublist l) ∧ (x ≠ y → (y :: f).Sublist l) := by
  constructor
  · rintro rfl
    exact List.cons_sublist_cons.1 h
  · intro hne
    cases h with
    | cons _ h => exact h
    | cons_cons _ h => exact absurd rfl hne
theorem skew_sub (M : Nat) (rs : List RowV) (K : List ByteArray) : (skewK (M + 1) rs K).Sublist (skewK M rs K) := by
  have e : skewK (M + 1) rs K = (skewK M rs K).filter fun k => decide (M + 1 < manyK rs k) := by
    unfold skewK
    rw [List.filter_filter]
    refine List.filter_congr fun k _ => ?_
    by_cases h : M + 1 < manyK rs k
    · have h2 : M < manyK rs k := by omega
      simp [h, h2]
    · simp [h]
  rw [e]
  exact List.filter_sublist
set_option maxRecDepth 100000 in
set_option maxHeartbeats 1000000 in
theorem sameTextsL (a b : Option Addr) (n ca cb : Nat) (ss : List ByteArray) (w : World) (hm : n ≤ 1048576) (hA : Rd w w.heap.size 1 a n (strC ss)) (hB : Rd w w.heap.size 1 b n (strC ss)) :
    Calls Try.prog 40 #[.slice a n ca, .slice b n cb] w fun e w' => e = .returned (.bool true) ∧ Below w.heap.size w w' := by
  go_enter Try.func40, Try.ntmps40
  go_wp2
  go_loopw [5] (fun i wr => ∃ k : Nat, k ≤ n ∧ i = .int .i64 k ∧ Below w.heap.size w wr) (fun i _ => n - (intOf i).toNat)
  case atStart => exact ⟨0, Nat.zero_le _, rfl, Below.refl _ _⟩
  case round =>
    obtain ⟨k, hk, rfl, hb⟩ := hrel
    by_cases hlt : k < n
    · obtain ⟨b1, o1, r, rfl, hB1, hr, c0⟩ := (hA.below hb (Nat.le_refl _)).str hlt
      obtain ⟨b2, o2, r', rfl, hB2, hr', d0⟩ := (hB.below hb (Nat.le_refl _)).str hlt
      obtain rfl : r = r' := by rw [hr] at hr'; injection hr'
      clear hr hr'
      go_wp2_with fail
      go_quiet (fail)
      have hb1 := below_drewN hb nq
      generalize wr.drewN nq = w1 at *
      clear c0 d0
      go_wp2_with fail
      go_roundw
      case rel => exact ⟨k + 1, by omega, by go_num, hb1⟩
      case measure => simp [intOf]; omega
    · go_wp2_with fail
      go_ret
      exact ⟨rfl, hb⟩
set_option maxRecDepth 100000 in
set_option maxRecDepth 100000 in
set_option maxHeartbeats 4000000 in
theorem walk_SkewLess (a : Option Addr) (len cap : Nat) (xs : List Value) (w : World) (hI : IsCode w a len cap xs) :
    Calls Try.prog 8 #[.slice a len cap] w fun e w' => e = .returned (.bool true) ∧ Below w.heap.size w w' := by
  have hI0 := hI.by_
  obtain ⟨hlc, hcm, _, _⟩ := hI
  go_enter Try.func8, Try.ntmps8
  go_wp2_with fail
  refine (big_any a len cap w (by omega)).mono ?_
  rintro e w0 ⟨rfl, rfl⟩
  by_cases hbig : 1048576 < len
  · have hd : decide (1048576 < len) = true := by simpa using hbig
    rw [hd]
    go_wp2_with fail
    go_ret
    exact ⟨rfl, Below.refl _ _⟩
  have hd : decide (1048576 < len) = false := by simpa using hbig
  rw [hd]
  go_wp2_with fail
  refine (drawSkewed_any a len cap w (by omega) hI0).mono ?_
  rintro e w1 ⟨l, lb, lc, z, hll, hok, hz0, hz1, rfl, hO, hb⟩
  have B := hb
  clear hb
  have L := Rd.of_own hO
  clear hO
  have hn3 := skewedS_le l z
  cases hB : skewedB l z
  · have hS : skewedS l z = [] := by unfold skewedS; rw [hB]; exact if_neg (by decide)
    have CI : ∀ w : World, Rd w w.heap.size 3 (some ⟨lb, 0, none⟩) l.length (flat l) → Calls Try.prog 28 #[.slice (some ⟨lb, 0, none⟩) l.length lc, .int .i64 z] w (fun e w' => ∃ a c, e = .returned (.tuple #[.slice a 0 c, .bool false]) ∧ Below w.heap.size w w' ∧ w'.ownsRow w.heap.size 9 1 (.slice a 0 c) 0 (strC [])) := fun w h => by
      have := implSkewed_any (some ⟨lb, 0, none⟩) l.length lc l z w (by omega) hok h
      unfold SkewOut at this
      rw [hS, hB, List.length_nil] at this
      exact this
    have CS : ∀ w : World, Rd w w.heap.size 3 (some ⟨lb, 0, none⟩) l.length (flat l) → Calls Try.prog 27 #[.slice (some ⟨lb, 0, none⟩) l.length lc, .int .i64 z] w (fun e w' => ∃ a c, e = .returned (.tuple #[.slice a 0 c, .bool false]) ∧ Below w.heap.size w w' ∧ w'.ownsRow w.heap.size 9 1 (.slice a 0 c) 0 (strC [])) := fun w h => by
      have := specSkewed_any (some ⟨lb, 0, none⟩) l.length lc l z w (by omega) hok h
      unfold SkewOut at this
      rw [hS, hB, List.length_nil] at this
      exact this
    clear hB hS hn3
    go_wp2_with fail
    refine (CI w1 L).mono ?_
    rintro e w2 ⟨pa, pc, rfl, hb, hO⟩
    replace B := B.trans (hb.mono B.size)
    replace L := (L.below hb (Nat.le_refl _)).more hb.size
    clear hb
    have P := Rd.of_own hO
    clear hO
    go_wp2_with fail
    refine (CS w2 L).mono ?_
    rintro e w3 ⟨qa, qc, rfl, hb, hO⟩
    replace B := B.trans (hb.mono B.size)
    replace L := (L.below hb (Nat.le_refl _)).more hb.size
    replace P := (P.below hb (Nat.le_refl _)).more hb.size
    clear hb
    have Q := Rd.of_own hO
    clear hO
    go_wp2_with fail
    refine (sameTextsL pa qa 0 pc qc [] w3 (by omega) P Q).mono ?_
    rintro e w4 ⟨rfl, hb⟩
    replace B := B.trans (hb.mono B.size)
    replace L := (L.below hb (Nat.le_refl _)).more hb.size
    replace P := (P.below hb (Nat.le_refl _)).more hb.size
    replace Q := (Q.below hb (Nat.le_refl _)).more hb.size
    clear hb
    go_wp2_with fail
    refine (sameTextsL pa qa 0 pc qc [] w4 (by omega) P Q).mono ?_
    rintro e w5 ⟨rfl, hb⟩
    replace B := B.trans (hb.mono B.size)
    replace L := (L.below hb (Nat.le_refl _)).more hb.size
    replace P := (P.below hb (Nat.le_refl _)).more hb.size
    replace Q := (Q.below hb (Nat.le_refl _)).more hb.size
    clear hb
    go_wp2_with fail
    go_ret
    exact ⟨rfl, B⟩
  have h0 : 0 ≤ z := by simp only [skewedB, Bool.and_eq_true, decide_eq_true_eq] at hB; exact hB.2
  obtain ⟨M, rfl⟩ : ∃ M : Nat, z = (M : Int) := ⟨z.toNat, by omega⟩
  have hS : skewedS l M = skewK M l (keysOf (sortL l)) := by unfold skewedS; rw [if_pos hB]; rfl
  obtain ⟨n1, hn⟩ : ∃ j, (skewK M l (keysOf (sortL l))).length = j := ⟨_, rfl⟩
  rw [hS, hn] at hn3
  have CI : ∀ w : World, Rd w w.heap.size 3 (some ⟨lb, 0, none⟩) l.length (flat l) → Calls Try.prog 28 #[.slice (some ⟨lb, 0, none⟩) l.length lc, .int .i64 (M : Int)] w (fun e w' => ∃ a c, e = .returned (.tuple #[.slice a n1 c, .bool true]) ∧ Below w.heap.size w w' ∧ w'.ownsRow w.heap.size 9 1 (.slice a n1 c) n1 (strC (skewK M l (keysOf (sortL l))))) := fun w h => by
    have := implSkewed_any (some ⟨lb, 0, none⟩) l.length lc l (M : Int) w (by omega) hok h
    unfold SkewOut at this
    rw [hS, hB, hn] at this
    exact this
  have CS : ∀ w : World, Rd w w.heap.size 3 (some ⟨lb, 0, none⟩) l.length (flat l) → Calls Try.prog 27 #[.slice (some ⟨lb, 0, none⟩) l.length lc, .int .i64 (M : Int)] w (fun e w' => ∃ a c, e = .returned (.tuple #[.slice a n1 c, .bool true]) ∧ Below w.heap.size w w' ∧ w'.ownsRow w.heap.size 9 1 (.slice a n1 c) n1 (strC (skewK M l (keysOf (sortL l))))) := fun w h => by
    have := specSkewed_any (some ⟨lb, 0, none⟩) l.length lc l (M : Int) w (by omega) hok h
    unfold SkewOut at this
    rw [hS, hB, hn] at this
    exact this
  by_cases hM : (1000 : Int) < (M : Int)
  · have hM2 : 1000 < M := by omega
    clear hB hS
    generalize skewK M l (keysOf (sortL l)) = F at *
    go_wp2_with fail
    refine (CI w1 L).mono ?_
    rintro e w2 ⟨pa, pc, rfl, hb, hO⟩
    replace B := B.trans (hb.mono B.size)
    replace L := (L.below hb (Nat.le_refl _)).more hb.size
    clear hb
    have P := Rd.of_own hO
    clear hO
    go_wp2_with fail
    refine (CS w2 L).mono ?_
    rintro e w3 ⟨qa, qc, rfl, hb, hO⟩
    replace B := B.trans (hb.mono B.size)
    replace L := (L.below hb (Nat.le_refl _)).more hb.size
    replace P := (P.below hb (Nat.le_refl _)).more hb.size
    clear hb
    have Q := Rd.of_own hO
    clear hO
    go_wp2_with fail
    refine (sameTextsL pa qa n1 pc qc F w3 hn3 P Q).mono ?_
    rintro e w4 ⟨rfl, hb⟩
    replace B := B.trans (hb.mono B.size)
    replace L := (L.below hb (Nat.le_refl _)).more hb.size
    replace P := (P.below hb (Nat.le_refl _)).more hb.size
    replace Q := (Q.below hb (Nat.le_refl _)).more hb.size
    clear hb
    go_wp2_with fail
    refine (sameTextsL pa qa n1 pc qc F w4 hn3 P Q).mono ?_
    rintro e w5 ⟨rfl, hb⟩
    replace B := B.trans (hb.mono B.size)
    replace L := (L.below hb (Nat.le_refl _)).more hb.size
    replace P := (P.below hb (Nat.le_refl _)).more hb.size
    replace Q := (Q.below hb (Nat.le_refl _)).more hb.size
    clear hb
    go_wp2_with fail
    go_ret
    exact ⟨rfl, B⟩
  have hM2 : ¬ 1000 < M := by omega
  have hB2 : skewedB l ((M : Int) + 1) = true := by
    simp only [skewedB, Bool.and_eq_true, decide_eq_true_eq] at hB ⊢
    exact ⟨hB.1, by omega⟩
  have hS2 : skewedS l ((M : Int) + 1) = skewK (M + 1) l (keysOf (sortL l)) := by
    unfold skewedS
    rw [if_pos hB2, show ((M : Int) + 1).toNat = M + 1 by omega]
  obtain ⟨f1, hf⟩ : ∃ j, (skewK (M + 1) l (keysOf (sortL l))).length = j := ⟨_, rfl⟩
  have HSub := Lib.hid (skew_sub M l (keysOf (sortL l)))
  have hfn : f1 ≤ n1 := by rw [← hf, ← hn]; exact HSub.out.length_le
  have CJ : ∀ w : World, Rd w w.heap.size 3 (some ⟨lb, 0, none⟩) l.length (flat l) → Calls Try.prog 28 #[.slice (some ⟨lb, 0, none⟩) l.length lc, .int .i64 ((M : Int) + 1)] w (fun e w' => ∃ a c, e = .returned (.tuple #[.slice a f1 c, .bool true]) ∧ Below w.heap.size w w' ∧ w'.ownsRow w.heap.size 9 1 (.slice a f1 c) f1 (strC (skewK (M + 1) l (keysOf (sortL l))))) := fun w h => by
    have := implSkewed_any (some ⟨lb, 0, none⟩) l.length lc l ((M : Int) + 1) w (by omega) hok h
    unfold SkewOut at this
    rw [hS2, hB2, hf] at this
    exact this
  have HN1 := Lib.hid hn
  have HF1 := Lib.hid hf
  clear hB hS hB2 hS2 hn hf
  generalize skewK M l (keysOf (sortL l)) = F at *
  generalize skewK (M + 1) l (keysOf (sortL l)) = E at *
  go_wp2_with fail
  refine (CI w1 L).mono ?_
  rintro e w2 ⟨pa, pc, rfl, hb, hO⟩
  replace B := B.trans (hb.mono B.size)
  replace L := (L.below hb (Nat.le_refl _)).more hb.size
  clear hb
  have P := Rd.of_own hO
  clear hO
  go_wp2_with fail
  refine (CS w2 L).mono ?_
  rintro e w3 ⟨qa, qc, rfl, hb, hO⟩
  replace B := B.trans (hb.mono B.size)
  replace L := (L.below hb (Nat.le_refl _)).more hb.size
  replace P := (P.below hb (Nat.le_refl _)).more hb.size
  clear hb
  have Q := Rd.of_own hO
  clear hO CI CS
  go_wp2_with fail
  refine (sameTextsL pa qa n1 pc qc F w3 hn3 P Q).mono ?_
  rintro e w4 ⟨rfl, hb⟩
  replace B := B.trans (hb.mono B.size)
  replace L := (L.below hb (Nat.le_refl _)).more hb.size
  replace P := (P.below hb (Nat.le_refl _)).more hb.size
  replace Q := (Q.below hb (Nat.le_refl _)).more hb.size
  clear hb
  clear Q
  go_wp2_with fail
  have hwm : IntKind.i64.wrap ((M : Int) + 1) = (M : Int) + 1 := IntWalk.i64_in _ (by omega)
  refine (CJ w4 L).mono ?_
  rintro e w5 ⟨ra, rc, rfl, hb, hO⟩
  replace B := B.trans (hb.mono B.size)
  replace L := (L.below hb (Nat.le_refl _)).more hb.size
  replace P := (P.below hb (Nat.le_refl _)).more hb.size
  clear hb
  have R := Rd.of_own hO
  clear hO CJ
  clear L
  go_wp2_with fail
  go_loopw [11, 12] (fun q i wr => ∃ k j : Nat, j ≤ n1 ∧ k ≤ f1 ∧ i = .int .i64 j ∧ q = .int .i64 k ∧ Hid ((E.drop k).Sublist (F.drop j)) ∧ Below w5.heap.size w5 wr) (fun _ i _ => n1 - (intOf i).toNat)
  case atStart => exact ⟨0, 0, Nat.zero_le _, Nat.zero_le _, rfl, rfl, Lib.hid HSub.out, Below.refl _ _⟩
  case round =>
    obtain ⟨k, j, hj, hk, rfl, rfl, HS, hb⟩ := hrel
    by_cases hgo : j < n1 ∧ k < f1
    · obtain ⟨hlt, hkt⟩ := hgo
      obtain ⟨b1, o1, x, rfl, hB1, hx, c0⟩ := (P.below hb (Nat.le_refl _)).str hlt
      obtain ⟨b2, o2, y, rfl, hB2, hy, d0⟩ := (R.below hb (Nat.le_refl _)).str hkt
      have hst := HS.out
      obtain ⟨hx1, hx2⟩ := List.getElem?_eq_some_iff.1 hx
      obtain ⟨hy1, hy2⟩ := List.getElem?_eq_some_iff.1 hy
      rw [List.drop_eq_getElem_cons hx1, List.drop_eq_getElem_cons hy1, hx2, hy2] at hst
      obtain ⟨st1, st2⟩ := sub_stepB hst
      cases hs : (x.toList == y.toList)
      · have HS2 := Lib.hid (show (E.drop k).Sublist (F.drop (j + 1)) by
          rw [List.drop_eq_getElem_cons hy1, hy2]
          exact st2 fun e => by rw [e] at hs; simp at hs)
        have hs2 : (x == y) = false := by rw [beq_toListBytes]; exact hs
        clear hst hx hy hx1 hx2 hy1 hy2 st1 st2 HS
        go_wp2_with fail
        go_quiet (fail)
        have hb1 := hb.trans ((show Below wr.heap.size wr (wr.drewN nq) from below_drewN (Below.refl _ _) nq).mono hb.size)
        generalize wr.drewN nq = w1 at *
        clear c0 d0 hb
        go_wp2_with fail
        go_roundw
        case rel => exact ⟨k, j + 1, by omega, by omega, by go_num, rfl, HS2, hb1⟩
        case measure => simp [intOf]; omega
      · have HS2 := Lib.hid (show (E.drop (k + 1)).Sublist (F.drop (j + 1)) from st1 (ext_toList (eq_of_beq hs)))
        have hs2 : (x == y) = true := by rw [beq_toListBytes]; exact hs
        clear hst hx hy hx1 hx2 hy1 hy2 st1 st2 HS
        go_wp2_with fail
        go_quiet (fail)
        have hb1 := hb.trans ((show Below wr.heap.size wr (wr.drewN nq) from below_drewN (Below.refl _ _) nq).mono hb.size)
        generalize wr.drewN nq = w1 at *
        clear c0 d0 hb
        go_wp2_with fail
        go_roundw
        case rel => exact ⟨k + 1, j + 1, by omega, by omega, by go_num, by go_num, HS2, hb1⟩
        case measure => simp [intOf]; omega
    · have hkf : k = f1 := by
        rcases Nat.lt_or_ge k f1 with h | h
        · have hj2 : j = n1 := by omega
          have h2 := HS.out
          rw [List.drop_of_length_le (show F.length ≤ j by rw [HN1.out]; omega)] at h2
          have h3 := List.eq_nil_of_sublist_nil h2
          have h4 := congrArg List.length h3
          rw [List.length_drop, HF1.out] at h4
          simp at h4
          omega
        · omega
      have hd : decide (j < n1) = true ∧ decide ((j : Int) < (n1 : Int)) = true ∨ decide (j < n1) = false ∧ decide ((j : Int) < (n1 : Int)) = false := by
        rcases Nat.lt_or_ge j n1 with h | h
        · left; simp; omega
        · right; simp; omega
      have hk1 : decide (k < f1) = false := by simp; omega
      have hk2 : decide ((k : Int) < (f1 : Int)) = false := by simp; omega
      have hk3 : ((k : Int) == (f1 : Int)) = true := by simp; omega
      have hk4 : (k == f1) = true := by simp; omega
      have B9 := B.trans (hb.mono B.size)
      clear hgo HS hkf
      rcases hd with ⟨hd1, hd2⟩ | ⟨hd1, hd2⟩
      all_goals
        go_wp2_with fail
        go_ret
        exact ⟨rfl, B9⟩
end Go.Proofs.Ytjepmcepgoncnaa

namespace Go.Proofs.Ytjepmcepgoncnaa
open Go.ChangeShapes Go.WideShapes Go.ChangeAt Go.RowKit Go.Joins
open Go.ChangeMaps (open_string shut_string)
namespace SkewLess

set_option maxRecDepth 100000 in
theorem lifted (os : Os) (started : os.Started) (H : Type) (enc : TypeId × Value → H) :
    ReturnsInHanded {} Try.checked os 8 .any (Rows.fnSkewLessSpec.pre6 enc Try.prog Try.f8 Rows.fnSkewLessRow.domain false) (Rows.fnSkewLessSpec.post enc Try.prog Try.f8 false true false false) := by
  refine returnsInHanded_of_change (C := Try.checked) own started (by kernel_rfl) Try.func8
    (ChangeSpec.witness6 (enc := enc) (C := Try.checked) false ⟨#[], #[.slice none 0 0], []⟩ 8 (by kernel_rfl) (by kernel_rfl) (by kernel_rfl) (by kernel_rfl)) ?_
  intro W base args ds gs before hval0 hW _ _
  have hval : ∀ (j : Nat) t v, Try.f8.params[j]? = some t → args[j]? = some v → Value.okWide Try.prog W .any base t v := hval0
  have hW' := hW
  obtain ⟨p, q, hA0, hV, rfl, _, _⟩ := hW
  have hA : DataW.TrodAll enc Try.prog W 0 (fun _ => true) true Try.f8.params.toList args.toList ds p := hA0
  rw [Try.params8] at hA hval
  obtain ⟨v0, vs0, d0, ds0, p0, q0, hargs, rfl, rfl, h0, r0⟩ := trodAll_cons hA
  obtain ⟨rfl, rfl, rfl⟩ := trodAll_nil r0
  obtain rfl : args = #[v0] := by cases args; simp_all
  obtain ⟨rfl, rfl⟩ := trodVars_none hV
  have k0 := h0
  have lt0 : ∀ x ∈ p0, x.block < W.heap.size := by obtain ⟨m, hm⟩ := k0; exact DataW.trod_lt m _ _ _ hm
  obtain ⟨a0, len0, cap0, z0, rfl, w0⟩ := open_Bytes (hval 0 31 v0 rfl rfl) h0
  clear hA0 hval0
  refine (walk_SkewLess a0 len0 cap0 z0 W w0).mono fun e W' ⟨he, bel⟩ => ?_
  subst he
  exact ⟨_, rfl, _, _, _, [], _, [], hW', trodAll_mk1 (shut_bool Try.underlying4 _), (trodAll_cons_mk (Below.trod laidOut (by kernel_rfl) (of_decide_eq_true (by kernel_rfl)) k0 bel lt0) trodAll_mk0), rfl, bel.frame _, fun h => by cases h⟩

theorem over : Rows.fnSkewLessRow.holds Try.pinned (OpenSpec.ofChange Rows.fnSkewLessSpec) :=
  OpenClaim.holds_of_wide 8 Try.f8 rfl rfl rfl rfl rfl rfl rfl ⟨rfl, rfl, rfl, rfl, rfl⟩ rfl rfl rfl rfl rfl (by kernel_rfl) Try.func8 (by kernel_rfl)
    (of_decide_eq_true (by kernel_rfl)) (by unfold Func.isWrapper; first | (rw [if_pos (by decide +kernel)]; kernel_rfl) | (rw [if_neg (by decide +kernel)]; exact ⟨rfl, rfl⟩))
    (fun os started H enc _ => lifted os started H enc)
end SkewLess
theorem fnSkewLess_holds : Rows.FnSkewLessSaid := SkewLess.over
end Go.Proofs.Ytjepmcepgoncnaa
