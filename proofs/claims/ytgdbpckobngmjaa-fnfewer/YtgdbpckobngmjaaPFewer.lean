/-
  Rows.FnFewerSaid: laws.FnFewer returns true for every input, and each argument reads afterwards as it read before. No conditions.
-/
import Derived.Test.YtgdbpckobngmjaaLowA
import Derived.Test.YtgdbpckobngmjaaPartMem
import Derived.StillTailTactics
import Derived.Test.YtgdbpckobngmjaaIterRows
import Derived.Test.YtgdbpckobngmjaaJoined
import Derived.Test.YtgdbpckobngmjaaLowB
import Derived.Test.YtgdbpckobngmjaaRdIn
import Derived.Test.YtgdbpckobngmjaaSortedList
import Derived.Maps.AppendAt
import Derived.Test.YtgdbpckobngmjaaPlain
import Derived.OwnWalkIn
import Derived.RangeFuncCalls
import Derived.Test.YtgdbpckobngmjaaStepOne
import Derived.Test.YtgdbpckobngmjaaRunsOk
import Derived.Test.YtgdbpckobngmjaaRowOrd
import Derived.Test.YtgdbpckobngmjaaCmpRows
import Derived.Test.YtgdbpckobngmjaaSortedOkFns
import Derived.Test.YtgdbpckobngmjaaCutsMath
import Derived.Test.YtgdbpckobngmjaaAppendAny
import Derived.Test.YtgdbpckobngmjaaSortedFns
import Derived.Test.YtgdbpckobngmjaaWQ
import Derived.Laws.EntriesVeiled
import Derived.Test.YtgdbpckobngmjaaOpen
namespace Go.Proofs.Ytgdbpckobngmjaa
open Go.RowKit
set_option maxRecDepth 100000 in
set_option maxHeartbeats 1000000 in
theorem sameParts_eq (a b : Option Addr) (n ca cb : Nat) (ps : List (List RowV)) (w : World) (hm : n ≤ 1048576) (hr : rowsIn ps ≤ 1048576) (hA : PRd w w.heap.size a n ps) (hB : PRd w w.heap.size b n ps) :
    Calls Try.prog 34 #[.slice a n ca, .slice b n cb] w fun e w' => e = .returned (.bool true) ∧ Below w.heap.size w w' := by
  go_enter Try.func34, Try.ntmps34
  go_wp2
  go_loopw [5] (fun i wr => ∃ k : Nat, k ≤ n ∧ i = .int .i64 k ∧ Below w.heap.size w wr) (fun i _ => n - (intOf i).toNat)
  case atStart => exact ⟨0, Nat.zero_le _, rfl, Below.refl _ _⟩
  case round =>
    obtain ⟨k, hk, rfl, hb⟩ := hrel
    by_cases hlt : k < n
    · obtain ⟨b1, o1, a1, c1, rs, rfl, hB1, hr1, d1, R1⟩ := (hA.below hb (Nat.le_refl _)).at_ hlt
      obtain ⟨b2, o2, a2, c2, rs', rfl, hB2, hr2, d2, R2⟩ := (hB.below hb (Nat.le_refl _)).at_ hlt
      obtain rfl : rs = rs' := by rw [hr1] at hr2; injection hr2
      have hl := rowsIn_at hr1
      have R1' := (R1.more hb.size)
      have R2' := (R2.more hb.size)
      clear hr1 hr2 R1 R2
      go_wp2_with fail
      refine wp_region_still_tail 10 (by kernel_rfl) (by kernel_rfl) ?_
      simp only [List.take_succ_cons, List.take_zero, List.drop_succ_cons, List.drop_zero]
      change wpStill _ _ wr.drew _ _ _
      repeat still_step
      refine wpStill_nil ?_
      change wpList _ _ _ _ _ wr.drew
      go_wp2_with fail
      refine (sameRows_same a1 a2 rs.length c1 c2 rs _ (by omega) R1'.drew' R2'.drew').mono ?_
      rintro e w1 ⟨rfl, hb1⟩
      clear d1 d2
      go_wp2_with fail
      go_roundw
      case rel => exact ⟨k + 1, by omega, by go_num, hb.drew.trans (hb1.mono hb.size)⟩
      case measure => simp [intOf]; omega
    · go_wp2_with fail
      go_ret
      exact ⟨rfl, hb⟩
end Go.Proofs.Ytgdbpckobngmjaa

namespace Go.Proofs.Ytgdbpckobngmjaa
open Go.RowKit Go.Shelf
attribute [local go_sem] Oper.semAt_some
/-- Stretches of so many rows; no more than so many. -/
def chunksF (N : Nat) : Nat → List RowV → List (List RowV)
  | 0, _ => []
  | f + 1, l => if l.length = 0 then [] else l.take N :: chunksF N f (l.drop N)
def chunksL (N : Nat) (l : List RowV) : List (List RowV) := chunksF N l.length l
theorem chunksF_fuel {N : Nat} (hN : 1 ≤ N) : ∀ (f g : Nat) (l : List RowV), l.length ≤ f → l.length ≤ g → chunksF N f l = chunksF N g l
  | 0, 0, _, _, _ => rfl
  | 0, g + 1, l, h, _ => by rw [chunksF, chunksF, if_pos (by omega)]
  | f + 1, 0, l, _, h => by rw [chunksF, chunksF, if_pos (by omega)]
  | f + 1, g + 1, l, hf, hg => by
    rw [chunksF, chunksF]
    by_cases h : l.length = 0
    · rw [if_pos h, if_pos h]
    · rw [if_neg h, if_neg h, chunksF_fuel hN f g _ (by rw [List.length_drop]; omega) (by rw [List.length_drop]; omega)]
theorem chunksL_none {N : Nat} {l : List RowV} (h : l.length = 0) : chunksL N l = [] := by
  unfold chunksL
  rw [h]; rfl
theorem chunksL_next {N : Nat} (hN : 1 ≤ N) {l : List RowV} (h : l.length ≠ 0) : chunksL N l = l.take N :: chunksL N (l.drop N) := by
  unfold chunksL
  obtain ⟨f, hf⟩ : ∃ f, l.length = f + 1 := ⟨l.length - 1, by omega⟩
  rw [hf, chunksF, if_neg h, chunksF_fuel hN f (l.drop N).length _ (by rw [List.length_drop]; omega) (Nat.le_refl _)]
/-- A stretch of rows, where it lies. -/
structure ChV where
  a : Option Addr
  n : Nat
  rows : List RowV
def ChIn (w : World) (B : Nat) : Type := {x : ChV // Rd w B 3 x.a x.n (flat x.rows) ∧ x.n ≤ 1048576 ∧ ∃ b off, x.a = some ⟨b, off, none⟩}
def chOf {w : World} {B : Nat} (ys : List (ChIn w B)) : List (List RowV) := ys.map fun x => x.1.rows
def chV {w : World} {B : Nat} (x : ChIn w B) : Array Value := #[.slice x.1.a x.1.n x.1.n]
/-- What lies below a bound is kept, and two more blocks. -/
def KeepTwo (n₀ B1 B2 : Nat) (W W' : World) : Prop := Below n₀ W W' ∧ W'.heap[B1]? = W.heap[B1]? ∧ W'.heap[B2]? = W.heap[B2]?
theorem KeepTwo.refl (n₀ B1 B2 : Nat) (W : World) : KeepTwo n₀ B1 B2 W W := ⟨Below.refl _ _, rfl, rfl⟩
theorem keepTwo_t {n₀ B1 B2 : Nat} {A B C : World} (h : KeepTwo n₀ B1 B2 A B) (k : KeepTwo n₀ B1 B2 B C) : KeepTwo n₀ B1 B2 A C := ⟨h.1.trans k.1, k.2.1.trans h.2.1, k.2.2.trans h.2.2⟩
theorem keepTwo_b {n₀ B1 B2 : Nat} {w : World} (hn : n₀ ≤ w.heap.size) (h1 : B1 < w.heap.size) (h2 : B2 < w.heap.size) (W : World) (l : Nat) (o o' : Obj) (hl : w.heap.size ≤ l) (h : W.heap[l]? = some o) (hc : o.isCells = false) (hw : o.isWalk = false) : KeepTwo n₀ B1 B2 W (W.putObj l o') := by
  have hb := belowK_b (n₀ := w.heap.size) (Nat.le_refl _) W l o o' hl h hc hw
  exact ⟨belowK_b hn W l o o' hl h hc hw, hb.block _ h1, hb.block _ h2⟩
theorem KeepTwo.cell1 {n₀ B1 B2 : Nat} {W W' : World} (h : KeepTwo n₀ B1 B2 W W') : W'.cell? ⟨B1, 0, none⟩ = W.cell? ⟨B1, 0, none⟩ := World.cell?_of_block (a := ⟨B1, 0, none⟩) h.2.1
theorem KeepTwo.cell2 {n₀ B1 B2 : Nat} {W W' : World} (h : KeepTwo n₀ B1 B2 W W') : W'.cell? ⟨B2, 0, none⟩ = W.cell? ⟨B2, 0, none⟩ := World.cell?_of_block (a := ⟨B2, 0, none⟩) h.2.2
set_option maxRecDepth 100000 in
set_option maxHeartbeats 2000000 in
theorem chunk1_in (n l Bs Bn n₀ N : Nat) (a : Option Addr) (len cap : Nat) (rs : List RowV) (w0 : World) (hN1 : 1 ≤ N) (hN2 : N ≤ 120) (hm : len ≤ 1048576) (hlc : len ≤ cap) (J Jx : List (ChIn w0 n₀) → World → Prop) (W : World)
    (hY : ∀ pre x W1, J pre W1 → pre.length < rs.length → YieldAt Fence.wide (n - 1) Try.prog l (chV x) W1 fun e W' =>
      (e = .returned (.bool true) ∧ J (pre ++ [x]) W' ∧ KeepTwo n₀ Bs Bn W1 W') ∨ (e = .returned (.bool false) ∧ Jx (pre ++ [x]) W'))
    (hA : ∀ s X, J s X → J s (World.drew X)) (hBs : W.cell? ⟨Bs, 0, none⟩ = some (.slice a len cap)) (hBn : W.cell? ⟨Bn, 0, none⟩ = some (.int .i64 N)) (hR : Rd w0 n₀ 3 a len (flat rs)) (h0 : J [] W) :
    CallsIn Fence.wide n Try.prog 116 #[.func (.yield l) #[] #[], .pointer (some ⟨Bs, 0, none⟩), .pointer (some ⟨Bn, 0, none⟩)] W fun e W' => (∃ v, e = .returned v) ∧
      ((∃ ys, chOf ys = chunksL N rs ∧ J ys W') ∨ (∃ pre, chOf pre <+: chunksL N rs ∧ Jx pre W')) := by
  have hl := Lib.hid hR.rows_length
  have HR := Lib.hid hR
  generalize hT : chunksL N rs = T
  have HT := Lib.hid hT
  clear hT hR
  have HBs := Lib.hid hBs
  have HBn := Lib.hid hBn
  refine callsIn_of_wp Try.func116 rfl trivial ?_ rfl
  simp only [Try.ntmps116, List.size_toArray, List.length_cons, List.length_nil, Nat.reduceAdd, Nat.reduceSub, Array.replicate_succ, Array.replicate_zero, List.push_toArray, List.append_toArray, List.nil_append, List.cons_append]
  clear hBs hBn
  gi_wp2
  gi_loopw [4] (fun v wr => ∃ (p : Nat) (ys : List (ChIn w0 n₀)), v = .int .i64 p ∧ p ≤ len + 120 ∧ ys.length ≤ p ∧ Hid (T = chOf ys ++ chunksL N (rs.drop p)) ∧ J ys wr ∧ KeepTwo n₀ Bs Bn W wr)
    (fun v _ => len - (intOf v).toNat)
  case atStart => exact ⟨0, [], rfl, by omega, by simp, Lib.hid HT.out.symm, h0, KeepTwo.refl _ _ _ _⟩
  case round =>
    obtain ⟨p, ys, rfl, hp, hyp, HG, hJs, hK⟩ := hrel
    have cS : wr.cell? ⟨Bs, 0, none⟩ = some (.slice a len cap) := hK.cell1.trans HBs.out
    have cN : wr.cell? ⟨Bn, 0, none⟩ = some (.int .i64 N) := hK.cell2.trans HBn.out
    by_cases hlt : p < len
    · have hdl : (rs.drop p).length = len - p := by rw [List.length_drop, hl.out]
      obtain ⟨q, hq1, hq2⟩ : ∃ q : Nat, min (N : Int) ((len - p : Nat) : Int) = (q : Int) ∧ q = min N (len - p) := ⟨min N (len - p), by omega, rfl⟩
      have HN := Lib.hid (chunksL_next hN1 (l := rs.drop p) (by omega))
      have hRp := (show 0 < len by omega)
      obtain ⟨b, off, e, hb, hcell⟩ := HR.out.2 hRp
      subst e
      have hq3 : 1 ≤ q := by omega
      have hq4 : p + q ≤ len := by omega
      clear hRp
      gi_wp2_with fail
      gi_region
      rw [← hq2]
      have hJ2 := hA _ _ hJs
      have hK2 : KeepTwo n₀ Bs Bn W wr.drew := ⟨hK.1.drew, hK.2⟩
      have cS2 : wr.drew.cell? ⟨Bs, 0, none⟩ = some (.slice (some ⟨b, off, none⟩) len cap) := cS
      have cN2 : wr.drew.cell? ⟨Bn, 0, none⟩ = some (.int .i64 N) := cN
      have hrl : ((rs.drop p).take q).length = q := by rw [List.length_take, hdl]; omega
      have hxR : Rd w0 n₀ 3 (some ⟨b, off + p * 3, none⟩) q (flat ((rs.drop p).take q)) := by
        refine Rd.head (n := len - p) ⟨by rw [flat_length, hdl], fun _ => ⟨b, off + p * 3, rfl, hb, fun j u hu => ?_⟩⟩ (by omega)
        have e : flat rs = flat (rs.take p) ++ flat (rs.drop p) := by rw [← flat_append, List.take_append_drop]
        have := hcell (p * 3 + j) u (by
          rw [e, List.getElem?_append_right (by rw [flat_length, List.length_take]; omega), flat_length, List.length_take, show p * 3 + j - min p rs.length * 3 = j by rw [hl.out, Nat.min_eq_left (by omega)]; omega]
          exact hu)
        rw [Nat.add_assoc]; exact this
      have hxq : q ≤ 1048576 ∧ ∃ b' off', some (⟨b, off + p * 3, none⟩ : Addr) = some ⟨b', off', none⟩ := ⟨by omega, b, off + p * 3, rfl⟩
      obtain ⟨x, hx⟩ : ∃ x : ChIn w0 n₀, x = ⟨⟨some ⟨b, off + p * 3, none⟩, q, (rs.drop p).take q⟩, hxR, hxq⟩ := ⟨_, rfl⟩
      have hxe : chOf (ys ++ [x]) = chOf ys ++ [(rs.drop p).take q] := by
        unfold chOf
        rw [List.map_append, hx]
        rfl
      have htk : (rs.drop p).take N = (rs.drop p).take q := by
        rw [hq2]
        rcases Nat.le_total N (len - p) with h | h
        · rw [Nat.min_eq_left h]
        · rw [Nat.min_eq_right h, List.take_of_length_le (by omega), List.take_of_length_le (by omega)]
      have HG2 := Lib.hid (show T = chOf (ys ++ [x]) ++ chunksL N (rs.drop (p + N)) by rw [HG.out, HN.out, hxe, htk, List.append_assoc, List.drop_drop]; rfl)
      obtain ⟨fn, tmps, assign, body, hy, hRd⟩ := hY ys x wr.drew hJ2 (by rw [hl.out]; omega)
      rw [show chV x = #[.slice (some ⟨b, off + p * 3, none⟩) q q] by rw [hx]; rfl] at hy
      have hlen : (ys ++ [x]).length ≤ p + N := by rw [List.length_append, List.length_singleton]; omega
      have hs1 : p + q - p = q := by omega
      clear hx hxe HN HG hJs hJ2 hY hxR hxq htk hrl cS cN hK hq1 hq2 hdl
      gi_wp2_with fail
      refine ⟨fun h => (by cases h), ?_⟩
      refine hRd.mono ?_
      rintro e W3 (⟨rfl, hJ3, hk3⟩ | ⟨rfl, hJx3⟩)
      · have hK3 := keepTwo_t hK2 hk3
        have cN3 : W3.cell? ⟨Bn, 0, none⟩ = some (.int .i64 N) := hK3.cell2.trans HBn.out
        clear hk3 hRd hy cS2 cN2 hK2
        gi_wp2_with fail
        go_roundw
        case rel => exact ⟨p + N, ys ++ [x], by go_num, by omega, hlen, HG2, hJ3, hK3⟩
        case measure => simp [intOf]; omega
      · clear hRd hy cS2 cN2 hK2
        gi_wp2_with fail
        refine bodyPost_ret (results_none rfl _ _ _) rfl ?_
        exact ⟨⟨_, rfl⟩, .inr ⟨ys ++ [x], ⟨chunksL N (rs.drop (p + N)), HG2.out.symm⟩, hJx3⟩⟩
    · have hd : rs.drop p = [] := List.drop_of_length_le (by rw [hl.out]; omega)
      have HG2 := Lib.hid (show chOf ys = T by rw [HG.out, hd, chunksL_none rfl, List.append_nil])
      clear hd
      gi_wp2
      go_end0
      exact ⟨⟨_, rfl⟩, .inl ⟨ys, HG2.out, hJs⟩⟩
set_option maxRecDepth 100000 in
theorem chunk_any (a : Option Addr) (len cap N : Nat) (w : World) (hN : 1 ≤ N) (hN2 : N ≤ 120) :
    Calls Try.prog 71 #[.slice a len cap, .int .i64 N] w fun e w' => e = .returned (.func (.func 116) #[] #[.pointer (some ⟨w.heap.size, 0, none⟩), .pointer (some ⟨w.heap.size + 1, 0, none⟩)]) ∧ w' = (w.alloc (.cells #[.slice a len cap] 27)).alloc (.cells #[.int .i64 N] 3) := by
  have hd : ¬ N < 1 := by omega
  go_enter Try.func71, Try.ntmps71
  go_wp2_with fail
  go_ret
  exact ⟨rfl, rfl⟩
theorem runs_chunks (N : Nat) : ∀ (f : Nat) (l : List RowV), (chunksF N f l).length ≤ f
  | 0, _ => Nat.le_refl _
  | f + 1, l => by
    rw [chunksF]
    split
    · exact Nat.zero_le _
    · rw [List.length_cons]; exact Nat.succ_le_succ (runs_chunks N f _)
/-- What a chunk's range yields. -/
theorem chunk_stops (n Bs Bn n₀ N : Nat) (a : Option Addr) (len cap : Nat) (rs : List RowV) (hN1 : 1 ≤ N) (hN2 : N ≤ 120) (hm : len ≤ 1048576) (hlc : len ≤ cap) (w : World)
    (hBs : w.cell? ⟨Bs, 0, none⟩ = some (.slice a len cap)) (hls : Bs < w.heap.size) (hBn : w.cell? ⟨Bn, 0, none⟩ = some (.int .i64 N)) (hln : Bn < w.heap.size) (hR : Rd w n₀ 3 a len (flat rs)) :
    SeqStopsK Fence.wide n Try.prog 116 #[.pointer (some ⟨Bs, 0, none⟩), .pointer (some ⟨Bn, 0, none⟩)] (fun x : ChIn w n₀ => chV x) (KeepTwo n₀ Bs Bn) (fun ys => chOf ys = chunksL N rs) (fun pre => chOf pre <+: chunksL N rs) rs.length w := fun l J Jx W hW hA _ hY h0 =>
  chunk1_in n l Bs Bn n₀ N a len cap rs w hN1 hN2 hm hlc J Jx W hY (fun s X h => hA s X X.drew none h (gb_of_below (Below.refl X.heap.size X).drew none) (fun r e => by cases e)) ((hW.cell (p := ⟨Bs, 0, none⟩) hls).trans hBs) ((hW.cell (p := ⟨Bn, 0, none⟩) hln).trans hBn) hR h0
end Go.Proofs.Ytgdbpckobngmjaa

namespace Go.Proofs.Ytgdbpckobngmjaa
open Go.RowKit
def HaltR_ (p : Prop) : Prop := p
theorem haltR_ {p : Prop} (h : HaltR_ p) : p := h
theorem unhaltR_ {p : Prop} (h : p) : HaltR_ p := h
/-- Stretches of so many rows, each sorted; no more than so many. -/
def runsF (N : Nat) : Nat → List RowV → List (List RowV)
  | 0, _ => []
  | f + 1, l => if l.length = 0 then [] else sortL (l.take N) :: runsF N f (l.drop N)
def runsL (N : Nat) (l : List RowV) : List (List RowV) := runsF N l.length l
theorem runsF_fuel {N : Nat} (hN : 1 ≤ N) : ∀ (f g : Nat) (l : List RowV), l.length ≤ f → l.length ≤ g → runsF N f l = runsF N g l
  | 0, 0, _, _, _ => rfl
  | 0, g + 1, l, h, _ => by rw [runsF, runsF, if_pos (by omega)]
  | f + 1, 0, l, _, h => by rw [runsF, runsF, if_pos (by omega)]
  | f + 1, g + 1, l, hf, hg => by
    rw [runsF, runsF]
    by_cases h : l.length = 0
    · rw [if_pos h, if_pos h]
    · rw [if_neg h, if_neg h, runsF_fuel hN f g _ (by rw [List.length_drop]; omega) (by rw [List.length_drop]; omega)]
theorem runsL_none {N : Nat} {l : List RowV} (h : l.length = 0) : runsL N l = [] := by
  unfold runsL
  rw [h]; rfl
theorem runsL_next {N : Nat} (hN : 1 ≤ N) {l : List RowV} (h : l.length ≠ 0) : runsL N l = sortL (l.take N) :: runsL N (l.drop N) := by
  unfold runsL
  obtain ⟨f, hf⟩ : ∃ f, l.length = f + 1 := ⟨l.length - 1, by omega⟩
  rw [hf, runsF, if_neg h, runsF_fuel hN f (l.drop N).length _ (by rw [List.length_drop]; omega) (Nat.le_refl _)]
theorem runsF_le (N : Nat) : ∀ (f : Nat) (l : List RowV), (runsF N f l).length ≤ f
  | 0, _ => Nat.le_refl _
  | f + 1, l => by
    rw [runsF]
    split
    · exact Nat.zero_le _
    · rw [List.length_cons]; exact Nat.succ_le_succ (runsF_le N f _)
theorem runsL_le (N : Nat) (l : List RowV) : (runsL N l).length ≤ l.length := runsF_le N _ _
def runsOfB (rs : List RowV) (N : Int) : Bool := rowsOk rs && (decide (1 ≤ N) && decide (N ≤ 120))
def runsOfS (rs : List RowV) (N : Int) : List (List RowV) := if runsOfB rs N = true then runsL N.toNat rs else []
/-- One more part at the end of a list of parts. -/
theorem POwn.snoc {w w3 w4 : World} {lo n c n' c' : Nat} {a a' : Option Addr} {vs : List Value} {ps : List (List RowV)} {v : Value} {rs : List RowV} {o : Obj} (h : POwn w lo a n c vs ps) (hlo : lo ≤ w.heap.size) (hb : Below w.heap.size w w3)
    (hO3 : w3.ownsRow w.heap.size 68 3 v rs.length (flat rs)) (hg4 : (w3.alloc o).grownBy w4 (Value.slice a n c).ownBlock) (hO4 : w4.ownsRow lo 50 1 (.slice a' n' c') n' (vs ++ [v]))
    (hat : (Value.slice a' n' c').ownBlock = (Value.slice a n c).ownBlock ∨ (Value.slice a' n' c').ownBlock = some (w3.heap.size + 1)) : POwn w4 lo a' n' c' (vs ++ [v]) (ps ++ [rs]) := by
  have hv : ∀ g, v.ownBlock = some g → w.heap.size ≤ g := fun g e => (own_ge hO3 g e).1
  have F := (h.fam.snoc hb (own_base' hO3 hlo) hv).below (bl1 w3 o)
  have hne : ∀ u ∈ vs ++ [v], ∀ g, u.ownBlock = some g → (Value.slice a n c).ownBlock ≠ some g := by
    intro u hu g hg
    rcases List.mem_append.1 hu with hu | hu
    · exact h.out u hu g hg
    · rw [List.mem_singleton] at hu
      subst hu
      intro e
      have h1 := (own_ge h.outer g e).2
      have h2 := hv g hg
      omega
  have F3 := h.fam.snoc hb (own_base' hO3 hlo) hv
  refine ⟨hO4, ⟨F.len, fun i u rs' hu hr => own_other (F.own i u rs' hu hr) hg4 (fun g h1 h2 => hne u (List.mem_of_getElem? hu) g h1 h2), F.sep⟩, fun u hu g hg => ?_⟩
  rcases hat with e | e
  · rw [e]; exact hne u hu g hg
  · rw [e]
    intro e2
    injection e2 with e2
    obtain ⟨i, hi⟩ := List.getElem?_of_mem hu
    have hil : i < (ps ++ [rs]).length := by
      have := (List.getElem?_eq_some_iff.1 hi).1
      rw [F3.len] at this
      exact this
    have := F3.own i u _ hi (List.getElem?_eq_getElem hil)
    have := (own_ge this g hg).2
    omega
set_option maxRecDepth 100000 in
theorem l1In_size (n : Int) (b : Bool) (w : World) (h : (decide (1 ≤ n) && decide (n ≤ 120)) = b) : Calls Try.prog 66 #[.int .i64 n, .int .i64 1, .int .i64 120] w fun e w' => e = .returned (.bool b) ∧ Below w.heap.size w w' := by
  have E := Lib.hid h
  clear h
  by_cases h1 : 1 ≤ n
  · have d1 : decide (1 ≤ n) = true := by simp [h1]
    go_enter Try.func66, Try.ntmps66
    go_wp2
    go_ret
    exact ⟨ret_bool (by rw [← E.out, d1, Bool.true_and]), Below.refl _ _⟩
  · have d1 : decide (1 ≤ n) = false := by simp [h1]
    go_enter Try.func66, Try.ntmps66
    go_wp2
    go_ret
    exact ⟨ret_bool (by rw [← E.out, d1, Bool.false_and]), Below.refl _ _⟩
def RunsOut (rs : List RowV) (N : Int) (w : World) (e : Ending) (w' : World) : Prop :=
  ∃ a c vs, e = .returned (.tuple #[.slice a (runsOfS rs N).length c, .bool (runsOfB rs N)]) ∧ Below w.heap.size w w' ∧ POwn w' w.heap.size a (runsOfS rs N).length c vs (runsOfS rs N)
set_option maxRecDepth 100000 in
set_option maxHeartbeats 2000000 in
theorem specRunsOf_any (a : Option Addr) (n cap : Nat) (rs : List RowV) (N : Int) (w : World) (hm : n ≤ 1048576) (hnc : n ≤ cap) (hok : ∀ r ∈ rs, r.Ok) (hR : Rd w w.heap.size 3 a n (flat rs)) :
    Calls Try.prog 16 #[.slice a n cap, .int .i64 N] w (RunsOut rs N w) := by
  have C0 := specRowsOk_any a n cap rs w hm hok hR
  unfold RunsOut
  cases hq : rowsOk rs
  case false =>
    rw [hq] at C0
    have E : runsOfB rs N = false := by unfold runsOfB; rw [hq]; rfl
    have E2 : runsOfS rs N = [] := by unfold runsOfS; rw [E]; rfl
    rw [E2, E]
    clear hq E E2
    go_enter Try.func16, Try.ntmps16
    go_wp2_with fail
    refine C0.mono ?_
    rintro e w1 ⟨rfl, hb⟩
    go_wp2_with fail
    go_ret2
    exact ⟨none, 0, [], rfl, hb, World.ownsRow_nil _ _ _ _, Fam.nil _ _, fun v hv => by cases hv⟩
  rw [hq] at C0
  have CI := fun b h w => l1In_size N b w h
  cases hp : (decide (1 ≤ N) && decide (N ≤ 120))
  case false =>
    have E : runsOfB rs N = false := by unfold runsOfB; rw [hp, Bool.and_false]
    have E2 : runsOfS rs N = [] := by unfold runsOfS; rw [E]; rfl
    rw [E2, E]
    have CI2 := CI _ hp
    clear hq E E2 hp CI
    go_enter Try.func16, Try.ntmps16
    go_wp2_with fail
    refine C0.mono ?_
    rintro e w1 ⟨rfl, hb⟩
    go_wp2_with fail
    refine (CI2 _).mono ?_
    rintro e w2 ⟨rfl, hb2⟩
    have hb' := hb.trans (hb2.mono hb.size)
    go_wp2_with fail
    go_ret2
    exact ⟨none, 0, [], rfl, hb', World.ownsRow_nil _ _ _ _, Fam.nil _ _, fun v hv => by cases hv⟩
  obtain ⟨hN1, hN2⟩ : 1 ≤ N ∧ N ≤ 120 := by simpa using hp
  obtain ⟨M, rfl⟩ : ∃ M : Nat, N = (M : Int) := ⟨N.toNat, by omega⟩
  have hM1 : 1 ≤ M := by omega
  have hM2 : M ≤ 120 := by omega
  have E : runsOfB rs M = true := by unfold runsOfB; rw [hp, hq]; rfl
  have E2 : runsOfS rs M = runsL M rs := by unfold runsOfS; rw [E]; rfl
  rw [E2, E]
  have CI2 := CI _ hp
  have hrl := Lib.hid hR.rows_length
  generalize hT : runsL M rs = T
  have HT := Lib.hid hT
  clear hq E E2 hp CI hN1 hN2 hT
  obtain ⟨i1, hi, hy0, hy1, hy2⟩ := info_parts infoPart
  go_enter Try.func16, Try.ntmps16
  go_wp2_with fail
  refine C0.mono ?_
  rintro e w1 ⟨rfl, hb⟩
  go_wp2_with fail
  refine (CI2 _).mono ?_
  rintro e w2 ⟨rfl, hb2⟩
  have hb' := hb.trans (hb2.mono hb.size)
  have hb3 := bl1 w2 (.cells #[] 50)
  have O0 := World.ownsRow_lit (base := w.heap.size) (e := 50) (size := 1) w2 #[] 0 hb'.size (Nat.zero_le _) rfl
  have B0 := hb'.trans (hb3.mono hb'.size)
  clear hb hb2 hb' hb3 C0 CI2
  go_wp2_with fail
  generalize w2.alloc (.cells #[] 50) = w3 at *
  go_loopw [6, 7] (fun v i wr => ∃ (k q : Nat) (g : Option Addr) (c : Nat) (vs : List Value) (D : List (List RowV)), i = .int .i64 k ∧ v = .slice g q c ∧ k ≤ n + 120 ∧ q ≤ k ∧ (k < n → k + M ≤ n + 120) ∧ Hid (D.length = q) ∧ Hid (T = D ++ runsL M (rs.drop k)) ∧ POwn wr w.heap.size g q c vs D ∧ Below w.heap.size w wr) (fun _ i _ => n + 121 - (intOf i).toNat)
  case atStart => exact ⟨0, 0, _, _, [], [], rfl, rfl, Nat.zero_le _, Nat.le_refl _, fun _ => by omega, Lib.hid rfl, Lib.hid HT.out.symm, ⟨O0, Fam.nil _ _, fun v hv => by cases hv⟩, B0⟩
  case round =>
    obtain ⟨k, q, g, c, vs, D, rfl, rfl, hkn, hqk, _, HD, HJ, hP, hb⟩ := hrel
    clear O0 B0
    by_cases hlt : k < n
    · obtain ⟨m, hmm⟩ : ∃ m, m = min (k + M) n := ⟨_, rfl⟩
      have hm1 : m ≤ n := by omega
      have hm2 : k < m := by omega
      have R1 := ((hR.below hb (Nat.le_refl _)).more hb.size)
      have R2 := R1.from_ (k := k) (by omega) hnc
      have R3 := R2.head (k := m - k) (by omega)
      have ef : fromA a cap k = Option.map (fun x => x.add (k * 3)) a := if_neg (by omega)
      have hdl : (rs.drop k).length = n - k := by rw [List.length_drop, hrl.out]
      have htk : (rs.drop k).take (m - k) = (rs.drop k).take M := by
        by_cases h : k + M ≤ n
        · rw [show m - k = M by omega]
        · rw [List.take_of_length_le (by omega), List.take_of_length_le (by omega)]
      have hne : (rs.drop k).length ≠ 0 := by omega
      have hjl : (sortL ((rs.drop k).take M)).length = m - k := by rw [sortL_length, ← htk, List.length_take]; omega
      have HJ2 := Lib.hid (show T = (D ++ [sortL ((rs.drop k).take M)]) ++ runsL M (rs.drop (k + M)) by rw [HJ.out, runsL_next hM1 hne, List.append_assoc, List.drop_drop]; rfl)
      have HD2 := Lib.hid (show (D ++ [sortL ((rs.drop k).take M)]).length = q + 1 by rw [List.length_append, HD.out]; rfl)
      rw [ef, htk] at R3
      have CS := l3Sort_any (Option.map (fun x => x.add (k * 3)) a) (m - k) (cap - k) _ wr (by omega) R3
      generalize sortL ((rs.drop k).take M) = X at *
      have hq1 : q + 1 ≤ maxLen := by unfold maxLen; omega
      have hq2 : (q + 1) * 24 ≤ 140737488355328 := by omega
      have hk2 : k + M ≤ n + 120 := by omega
      have hk3 : k + M < n → k + M + M ≤ n + 120 := by omega
      have hk4 : q + 1 ≤ k + M := by omega
      have hk5 : n + 121 - (k + M) < n + 121 - k := by omega
      have HM := Lib.hid (show min ((k : Int) + (M : Int)) (n : Int) = (m : Int) by omega)
      clear R1 R2 R3 ef hdl htk hne HJ HD hmm
      go_wp2_with fail
      simp only [HM.out, Int.toNat_natCast]
      refine CS.mono ?_
      rintro e w4 ⟨b4, c4, rfl, hO4, hb4⟩
      have hO6 : w4.ownsRow wr.heap.size 68 3 (.slice b4 (m - k) c4) X.length (flat X) := by rw [hjl]; exact hO4
      have hb5 := hb.trans (hb4.mono hb.size)
      have hPo := own_below hP.outer hb4
      have hg8 : w.heap.size ≤ w4.heap.size := hb5.size
      clear CS hO4
      go_wp2_with (at_builtin; refine wpList_append_own_at _ rfl _ _ 24 rfl w.heap.size 50 i1 (.agg #[.slice none 0 0]) 1 24 Try.underlying24 hi hy0 hy1 hy2 rfl (by decide) (.slice g q c) _ _ rfl (hPo.alloc _) ⟨w4.heap.size, 0, none⟩ 1 1 [.slice b4 (m - k) c4] rfl rfl (cell_one_new _ _ _) (by simp [Value.oneCell']) hq1 hq2 (Nat.le_trans hg8 (bl1 w4 _).size) ?_; intro v' w5 hO5 hg5 _ hat; refine haltR_ ?_)
      refine unhaltR_ ?_
      obtain ⟨a', cap', rfl⟩ := own_slice' hO5
      have hb6 := below_grown1 hb5 hPo hg5
      have hP2 := hP.snoc hb.size hb4 hO6 hg5 hO5 (by simpa using hat)
      clear hg5 hat hO5 hPo hb5 hb4 hO6 hP hb
      go_wp2_with fail
      go_roundw
      case rel => exact ⟨k + M, q + 1, a', cap', _, D ++ [X], by go_num, rfl, hk2, hk4, hk3, HD2, HJ2, hP2, hb6⟩
      case measure => simp [intOf]; omega
    · have hJ := HJ.out
      have hdl : (rs.drop k).length = 0 := by rw [List.length_drop, hrl.out]; omega
      rw [runsL_none hdl, List.append_nil] at hJ
      have HTD := Lib.hid hJ
      clear hJ hdl HJ
      go_wp2_with fail
      go_ret2
      rw [HTD.out, HD.out]
      exact ⟨g, c, vs, rfl, hb, hP⟩
end Go.Proofs.Ytgdbpckobngmjaa

namespace Go.Proofs.Ytgdbpckobngmjaa
open Go.RowKit
def noDefer (o : Oper) : Bool := match o.op with | .defer _ => false | _ => true
theorem noDefer_out {o : Oper} (h : noDefer o = true) : ∀ c, o.op ≠ .defer c := by
  intro c e
  unfold noDefer at h
  rw [e] at h
  cases h
theorem wpIn_round {P : Program} {l n : Nat} {o : Oper} {a : Act} {w : World} {K : Act → World → Prop} {Q : Exit → Act → World → Prop} (hd : noDefer o = true) (h : o.wp P a w K Q) : o.wpIn (Fence.wide.inRound l) n P a w K Q := by
  refine ⟨fun _ _ => trivial, ?_⟩
  rw [Oper.semAt_plain _ _ _ (noDefer_out hd)]
  unfold Oper.wp at h
  revert h
  generalize (execOp a.eval o).run P w = r
  intro h
  cases r with
  | ok x w' =>
    cases x with
    | value v => exact h
    | skip => exact h
    | defer d => exact h
    | enter f args => exact ⟨fun h => (by cases h), (callsIn_wide (n := n - 1)).2 h⟩
    | row r args => exact ⟨fun h => (by cases h), fun c cs _ => let ⟨v, w2, h1, h2⟩ := h c cs; ⟨v, w2, h1, stepsIn_wide.2 h2⟩⟩
    | _ => exact h.elim
  | halt x w' => cases x <;> first | exact h | exact h.elim
theorem wpOpsIn_round {P : Program} {l n : Nat} {ops : Array Oper} {Q : Exit → Act → World → Prop} (hd : ∀ o ∈ ops.toList, noDefer o = true) (hQ : ¬ LetsOut Q) : ∀ (is : List Nat) (a : Act) (w : World), wpOps P ops Q is a w → wpOpsIn (Fence.wide.inRound l) n P ops Q is a w := by
  intro is
  induction is with
  | nil => exact fun a w h => h
  | cons i is ih =>
    intro a w h
    unfold wpOps at h
    unfold wpOpsIn
    cases ho : ops[i]? with
    | none => rw [ho] at h; exact ih _ _ h
    | some o =>
      rw [ho] at h
      have hm : o ∈ ops.toList := by
        obtain ⟨hi, rfl⟩ := Array.getElem?_eq_some_iff.1 ho
        simp
      simp only at h ⊢
      split
      · rename_i hw
        rw [if_pos hw] at h
        rcases h with h | ⟨_, h⟩
        · exact wpIn_round (hd o hm) (Oper.wp_mono (fun a w h => ih a w h) h)
        · exact absurd h hQ
      · rename_i hw
        rw [if_neg hw] at h
        exact ⟨fun _ _ => trivial, ih _ _ h⟩
theorem wpIn_region_round {P : Program} {l n id : Nat} {ops : List Oper} {Q : Exit → Act → World → Prop} {a : Act} {w : World} (hm : P.follows .mixedOrders = true) (hd : ops.all noDefer = true) (hQ : ¬ LetsOut Q)
    (h : wpAny P .any ops.toArray Q ops.length (Array.replicate ops.length false) a w.drew) : (Code.region id ops.toArray true).wpIn (Fence.wide.inRound l) n P Q a w := by
  refine wpIn_region_draw fun t => ?_
  refine wpOpsIn_round (fun o ho => List.all_eq_true.1 hd o (by simpa using ho)) hQ _ _ _ ?_
  simp only [Region.schedule, hm, Bool.true_or, if_true]
  have := wpAny_sound ops.length t _ a _ h
  simpa [Region.linearise] using this
end Go.Proofs.Ytgdbpckobngmjaa

namespace Go.Proofs.Ytgdbpckobngmjaa
open Go.RowKit Go.Shelf
attribute [local go_sem] Oper.semAt_some
theorem runsF_chunks (N : Nat) : ∀ (f : Nat) (l : List RowV), runsF N f l = (chunksF N f l).map sortL
  | 0, _ => rfl
  | f + 1, l => by
    rw [runsF, chunksF]
    split
    · rfl
    · rw [List.map_cons, runsF_chunks N f]
theorem runsL_chunks (N : Nat) (l : List RowV) : runsL N l = (chunksL N l).map sortL := runsF_chunks N _ l
theorem kept_row {X Y : World} {row : Option Nat} {n₀ e size n : Nat} {v : Value} {xs : List Value} (hr : X.ownsRow n₀ e size v n xs) (hg : X.grownBy Y row) (hrow : ∀ r, row = some r → ∃ o : Obj, X.heap[r]? = some o ∧ o.isCells = false) : Y.ownsRow n₀ e size v n xs := by
  refine hr.kept hg ?_
  rcases hr.2 with ⟨rfl, _⟩ | ⟨g, cap, cur, rfl, _, hgb, _⟩
  · exact .inl rfl
  · refine .inr fun e' => ?_
    obtain ⟨o, ho, hc⟩ := hrow g (by simpa [Value.ownBlock] using e'.symm)
    rw [hgb] at ho; cases ho; cases hc
theorem POwn.keptRow {X Y : World} {row : Option Nat} {lo n c : Nat} {a : Option Addr} {vs : List Value} {ps : List (List RowV)} (h : POwn X lo a n c vs ps) (hg : X.grownBy Y row) (hrow : ∀ r, row = some r → ∃ o : Obj, X.heap[r]? = some o ∧ o.isCells = false) : POwn Y lo a n c vs ps :=
  ⟨kept_row h.outer hg hrow, ⟨h.fam.len, fun i v rs hv hr => kept_row (h.fam.own i v rs hv hr) hg hrow, h.fam.sep⟩, h.out⟩
/-- A box holds a slice of parts. -/
def BoxParts (B n₀ : Nat) (W : World) (ps : List (List RowV)) : Prop := ∃ a c vs, Boxed W B 24 (.slice a ps.length c) ∧ POwn W n₀ a ps.length c vs ps
theorem boxParts_own {β : Type} (B n₀ : Nat) (f : β → List (List RowV)) : Own (fun s W => BoxParts B n₀ W (f s)) := by
  rintro s X Y row ⟨a, c, vs, hv, hP⟩ hg hrow
  refine ⟨a, c, vs, hv.kept hg (fun e' => ?_), hP.keptRow hg hrow⟩
  obtain ⟨o, ho, hc⟩ := hrow B e'.symm
  rw [show X.heap[B]? = _ from hv] at ho; cases ho; cases hc
theorem POwn.setBox {W : World} {B lo n c : Nat} {t : TypeId} {u x : Value} {a : Option Addr} {vs : List Value} {ps : List (List RowV)} (h : POwn W lo a n c vs ps) (hv : Boxed W B t u) (h1 : t ≠ 50) (h2 : t ≠ 68) : POwn (W.setCell ⟨B, 0, none⟩ x) lo a n c vs ps :=
  ⟨h.outer.kept (grownBy_setCell' W B x) (.inr (hv.not_row h1 h.outer).symm), ⟨h.fam.len, fun i v rs hw hr => (h.fam.own i v rs hw hr).kept (grownBy_setCell' W B x) (.inr (hv.not_row h2 (h.fam.own i v rs hw hr)).symm), h.fam.sep⟩, h.out⟩
theorem keeps_of_below {W W' : World} (h : Below W.heap.size W W') : KeepsOthers W W' := ⟨h.size, fun i _ hi _ => (h.block i (Array.getElem?_eq_some_iff.1 hi).1).trans hi⟩
theorem keeps_row {X Y : World} {n₀ e size n : Nat} {v : Value} {xs : List Value} (hr : X.ownsRow n₀ e size v n xs) (hg : X.grownBy Y v.ownBlock) : KeepsOthers X Y := by
  refine KeepsOthers.of_grownBy hg fun j o ej hj => ?_
  rcases hr.2 with ⟨rfl, _⟩ | ⟨g, cap, cur, rfl, _, hgb, _⟩
  · simp [Value.ownBlock] at ej
  · obtain rfl : g = j := by simpa [Value.ownBlock] using ej
    rw [hgb] at hj; cases hj; rfl
/-- One more part at the end of the list in the box: a call that makes its rows, an append, a store. -/
theorem round_parts {W w2 w4 : World} {B B1 B2 n₀ c c' : Nat} {b a' : Option Addr} {t1 t2 : TypeId} {v v1 v2 : Value} {vs : List Value} {D : List (List RowV)} {rs : List RowV} {o : Obj} (hv : Boxed W B 24 (.slice b D.length c)) (hP : POwn W n₀ b D.length c vs D) (hn : n₀ ≤ W.heap.size) (hB : n₀ ≤ B)
    (b1 : Boxed W B1 t1 v1) (b2 : Boxed W B2 t2 v2) (d1 : B1 ≠ B) (d2 : B2 ≠ B) (e1 : t1 ≠ 50) (e2 : t2 ≠ 50) (hb : Below W.heap.size W w2) (hO : w2.ownsRow W.heap.size 68 3 v rs.length (flat rs))
    (hg4 : (w2.alloc o).grownBy w4 (Value.slice b D.length c).ownBlock) (hO4 : w4.ownsRow n₀ 50 1 (.slice a' (D.length + 1) c') (D.length + 1) (vs ++ [v])) (hat : (Value.slice a' (D.length + 1) c').ownBlock = (Value.slice b D.length c).ownBlock ∨ (Value.slice a' (D.length + 1) c').ownBlock = some (w2.heap.size + 1)) :
    Boxed w4 B 24 (.slice b D.length c) ∧ BoxParts B n₀ (w4.setCell ⟨B, 0, none⟩ (.slice a' (D.length + 1) c')) (D ++ [rs]) ∧ KeepTwo n₀ B1 B2 W (w4.setCell ⟨B, 0, none⟩ (.slice a' (D.length + 1) c')) ∧ KeepsOthers W (w4.setCell ⟨B, 0, none⟩ (.slice a' (D.length + 1) c')) := by
  have hv2 : Boxed w2 B 24 (.slice b D.length c) := (hb.block _ hv.lt).trans hv
  have hP2 := hP.below hb
  have hv4 : Boxed w4 B 24 (.slice b D.length c) := (hv2.alloc o).kept hg4 (hv2.not_row (by decide) hP2.outer)
  have hP4 := hP.snoc hn hb hO hg4 hO4 hat
  have k1 : Boxed w4 B1 t1 v1 := ((show Boxed w2 B1 t1 v1 from (hb.block _ b1.lt).trans b1).alloc o).kept hg4 ((show Boxed w2 B1 t1 v1 from (hb.block _ b1.lt).trans b1).not_row e1 hP2.outer)
  have k2 : Boxed w4 B2 t2 v2 := ((show Boxed w2 B2 t2 v2 from (hb.block _ b2.lt).trans b2).alloc o).kept hg4 ((show Boxed w2 B2 t2 v2 from (hb.block _ b2.lt).trans b2).not_row e2 hP2.outer)
  have hl : (D ++ [rs]).length = D.length + 1 := by rw [List.length_append, List.length_singleton]
  have hb4 : Below n₀ W w4 := ((hb.mono hn).alloc (Nat.le_trans hn hb.size) o).grown hg4 (by have := hb.size; simp; omega) (fun q e => (own_ge hP2.outer q e).1)
  refine ⟨hv4, ⟨a', c', vs ++ [v], by rw [hl]; exact hv4.set _, by rw [hl]; exact hP4.setBox hv4 (by decide) (by decide)⟩, ⟨hb4.setCell (p := ⟨B, 0, none⟩) hB _, ?_, ?_⟩, ?_⟩
  · exact (show Boxed _ B1 t1 v1 from k1.other d1 _).trans b1.symm
  · exact (show Boxed _ B2 t2 v2 from k2.other d2 _).trans b2.symm
  · exact (((keeps_of_below hb).trans (KeepsOthers.alloc _ _)).trans (keeps_row (hP2.outer.alloc o) hg4)).trans (KeepsOthers.setCell _ _ _)
theorem chOf_snoc {w : World} {B : Nat} (l : List (ChIn w B)) (x : ChIn w B) : (chOf (l ++ [x])).map sortL = (chOf l).map sortL ++ [sortL x.1.rows] := by
  unfold chOf
  simp
set_option maxRecDepth 100000 in
theorem sizeOk_any (n : Int) (b : Bool) (w : World) (h : (decide (1 ≤ n) && decide (n ≤ 120)) = b) : Calls Try.prog 70 #[.int .i64 n] w fun e w' => e = .returned (.bool b) ∧ w' = w := by
  have E := Lib.hid h
  clear h
  by_cases h1 : 1 ≤ n
  · have d1 : decide (1 ≤ n) = true := by simp [h1]
    go_enter Try.func70, Try.ntmps70
    go_wp2
    go_ret
    exact ⟨ret_bool (by rw [← E.out, d1, Bool.true_and]), rfl⟩
  · have d1 : decide (1 ≤ n) = false := by simp [h1]
    go_enter Try.func70, Try.ntmps70
    go_wp2
    go_ret
    exact ⟨ret_bool (by rw [← E.out, d1, Bool.false_and]), rfl⟩
set_option maxRecDepth 100000 in
set_option maxHeartbeats 4000000 in
theorem implRunsOf_yes (a : Option Addr) (n cap M : Nat) (rs : List RowV) (w : World) (hm : n ≤ 1048576) (hnc : n ≤ cap) (hok : ∀ r ∈ rs, r.Ok) (hR : Rd w w.heap.size 3 a n (flat rs)) (hs : rowsOk rs = true) (hM1 : 1 ≤ M) (hM2 : M ≤ 120) :
    Calls Try.prog 18 #[.slice a n cap, .int .i64 M] w fun e w' => ∃ b c vs, e = .returned (.tuple #[.slice b (runsL M rs).length c, .bool true]) ∧ Below w.heap.size w w' ∧ POwn w' w.heap.size b (runsL M rs).length c vs (runsL M rs) := by
  obtain ⟨i0, hi, hz0, hz1, hz2⟩ := info_parts infoPart
  have C0 := implRowsOk_any a n cap rs w hm hok hR
  rw [hs] at C0
  have HRL := Lib.hid hR.rows_length
  have hn120 : n ≤ 120 := by rw [← HRL.out]; unfold rowsOk at hs; exact of_decide_eq_true (Bool.and_eq_true _ _ ▸ hs).1
  have CS := fun w => sizeOk_any (M : Int) true w (by simp; omega)
  have CC := fun w => chunk_any a n cap M w hM1 hM2
  rw [runsL_chunks]
  clear hok hs
  refine (callsIn_wide (n := 5)).1 ?_
  refine callsIn_of_wp_marks Try.func18 rfl trivial ?_ rfl
  simp only [Try.ntmps18, List.size_toArray, List.length_cons, List.length_nil, Nat.reduceAdd, Nat.reduceSub, Array.replicate_succ, Array.replicate_zero, List.push_toArray, List.append_toArray, List.nil_append, List.cons_append]
  gi_wp2_with fail
  refine ⟨trivial, ?_⟩
  refine (callsIn_wide.2 C0).mono ?_
  rintro e w0 ⟨rfl, hb1⟩
  gi_wp2_with fail
  refine ⟨trivial, ?_⟩
  refine (callsIn_wide.2 (CS _)).mono ?_
  rintro e w1 ⟨rfl, rfl⟩
  have bF := Boxed.new w1 24 (.slice none 0 0)
  have bF2 := bl1 w1 (.cells #[.slice none 0 0] 24)
  have hR1 := hR.below hb1 (Nat.le_refl _)
  clear C0 CS
  gi_wp2_with fail
  refine ⟨trivial, ?_⟩
  refine (callsIn_wide.2 (CC _)).mono ?_
  rintro e w2 ⟨rfl, rfl⟩
  gi_wp2_with fail
  have hW1 := (bF2.alloc (by have := bF2.size; omega) (.cells #[.slice a n cap] 27)).alloc (by simp; omega) (.cells #[.int .i64 M] 3)
  have bF3 := (bF.alloc (.cells #[.slice a n cap] 27)).alloc (.cells #[.int .i64 M] 3)
  have bS := (Boxed.new (w1.alloc (.cells #[.slice none 0 0] 24)) 27 (.slice a n cap)).alloc (.cells #[.int .i64 M] 3)
  have bN := Boxed.new ((w1.alloc (.cells #[.slice none 0 0] 24)).alloc (.cells #[.slice a n cap] 27)) 3 (.int .i64 M)
  rw [World.size_alloc] at bS
  rw [World.size_alloc, World.size_alloc] at bN
  have hR0 := hR1.below (hW1.mono hb1.size) (Nat.le_refl _)
  have hW0 := hb1.trans (hW1.mono hb1.size)
  generalize hWe : (((w1.alloc (.cells #[.slice none 0 0] 24)).alloc (.cells #[.slice a n cap] 27)).alloc (.cells #[.int .i64 M] 3)) = W0 at *
  have hsz : w.heap.size ≤ W0.heap.size := hW0.size
  have hl1 : w1.heap.size < W0.heap.size := bF3.lt
  have hl2 : w.heap.size ≤ w1.heap.size := hb1.size
  clear hWe
  refine wpIn_rangeFunc_ownF rfl (by omega) (gf := 116) (lb := #[.pointer (some ⟨w1.heap.size + 1, 0, none⟩), .pointer (some ⟨w1.heap.size + 1 + 1, 0, none⟩)]) rfl trivial (enters_of Try.func116 (by kernel_rfl) rfl)
    (chunk_stops _ (w1.heap.size + 1) (w1.heap.size + 1 + 1) w.heap.size M a n cap rs hM1 hM2 hm hnc W0 bS.cell bS.lt bN.cell bN.lt hR0) keepTwo_t (keepTwo_b hsz bS.lt bN.lt) (Below.refl _ _) (fun _ => rfl)
    (fun (pre : List (ChIn W0 w.heap.size)) W => BoxParts w1.heap.size w.heap.size W ((chOf pre).map sortL) ∧ KeepTwo w.heap.size (w1.heap.size + 1) (w1.heap.size + 1 + 1) W0 W)
    (fun _ _ _ => False)
    (OwnFrom.and (Own.from (boxParts_own _ _ _) _) ?keepown)
    (fun _ _ _ _ _ hs _ _ => hs)
    ⟨⟨_, _, [], bF3, World.ownsRow_nil _ _ _ _, Fam.nil _ _, fun v hv => by cases hv⟩, KeepTwo.refl _ _ _ _⟩
    (fun x => { tmps := #[.slice a n cap, .int .i64 M, undef, undef, .slice none 0 0, .bool false, .pointer (some ⟨w1.heap.size, 0, none⟩), .slice x.1.a x.1.n x.1.n, .slice a n cap, .bool true, .bool false, .bool false, .int .i64 M, .bool true, .bool false, .bool false, .slice a n cap, .int .i64 M, .func (.func 116) #[] #[.pointer (some ⟨w1.heap.size + 1, 0, none⟩), .pointer (some ⟨w1.heap.size + 1 + 1, 0, none⟩)], .slice x.1.a x.1.n x.1.n, undef, undef, undef, undef, undef, undef, undef, undef], defers := [] })
    ?assign ?body ?done ?stop
  case keepown =>
    rintro s X Y row h hg hr
    have hk : ∀ k, some k = row → W0.heap.size ≤ k := fun k e => (hr k e.symm).1
    refine ⟨h.1.grown hg (Nat.le_trans hsz h.1.size) (fun k e => Nat.le_trans hsz (hk k e.symm)), ?_, ?_⟩
    · refine (hg.block _ (Nat.lt_of_lt_of_le bS.lt h.1.size) (fun e => ?_)).trans h.2.1
      have h1 : W0.heap.size ≤ w1.heap.size + 1 := hk _ e
      have h2 := bS.lt
      omega
    · refine (hg.block _ (Nat.lt_of_lt_of_le bN.lt h.1.size) (fun e => ?_)).trans h.2.2
      have h1 : W0.heap.size ≤ w1.heap.size + 1 + 1 := hk _ e
      have h2 := bN.lt
      omega
  case assign =>
    intro l x W K hK
    simp only [chV] at *
    gi_wp2_with fail
    exact hK
  case body =>
    rintro l pre x W ⟨⟨b, c, vs, hv, hP⟩, hB⟩ hlt
    have hEq0 := chOf_snoc pre x
    have hxR := x.2.1
    have hxm := x.2.2.1
    obtain ⟨⟨xa, xn, rows⟩, hxp⟩ := x
    dsimp only at hxR hxm hEq0 ⊢
    have hxl : rows.length = xn := hxR.rows_length
    have hc := hv.cell
    have hpl : pre.length ≤ 120 := by have := HRL.out; omega
    have hDl : ((chOf pre).map sortL).length ≤ 120 := by rw [show ((chOf pre).map sortL).length = pre.length by simp [chOf]]; exact hpl
    have hsW : w.heap.size ≤ W.heap.size := Nat.le_trans hsz hB.1.size
    generalize (chOf pre).map sortL = D at *
    have HEQ := Lib.hid hEq0
    clear hEq0
    have RX : Rd W.drew W.drew.heap.size 3 xa xn (flat rows) := (hxR.below hB.1 (Nat.le_refl _)).more hsW
    have bS1 : Boxed W (w1.heap.size + 1) 27 (.slice a n cap) := hB.2.1.trans bS
    have bN1 : Boxed W (w1.heap.size + 1 + 1) 3 (.int .i64 M) := hB.2.2.trans bN
    refine wpIn_block ?_
    refine wpIn_region_round (by kernel_rfl) (by rfl) (by rintro ⟨a, w, h⟩; exact h) ?_
    refine wpAny_take (i := 1) (v := .slice xa xn xn) rfl (by kernel_rfl) (by kernel_rfl) (by kernel_rfl) (fun _ _ _ h => h) (Or.inl ⟨by rfl, fun w => by go_simp⟩) ?_
    refine wpAny_ready (rs := [0, 2]) (by kernel_rfl) (by simp) ?_
    refine AllReady.cons rfl (fun K hK => ?_) ?_
    · go_simp
      refine hK _ _ ?_
      clear hK K
      refine wpAny_ready (rs := [2]) (by kernel_rfl) (by simp) ?_
      refine AllReady.cons rfl (fun K hK => ?_) AllReady.nil
      go_simp
      refine (sortedListOf_any xa xn xn rows W.drew hxm RX).mono ?_
      rintro e w2 ⟨b2, c2, rfl, hO2, hb2⟩
      refine hK _ _ ?_
      clear hK K
      refine wpAny_take (i := 3) (v := .slice b2 xn c2) rfl (by kernel_rfl) (by kernel_rfl) (by kernel_rfl) (fun _ _ _ h => h) (Or.inl ⟨by rfl, fun w => by kernel_rfl⟩) ?_
      refine wpAny_take (i := 4) (v := .agg #[.slice b2 xn c2]) rfl (by kernel_rfl) (by kernel_rfl) (by kernel_rfl) (fun _ _ _ h => h) (Or.inl ⟨by rfl, fun w => by go_simp⟩) ?_
      have hb2' : Below W.heap.size W w2 := (Below.refl W.heap.size W).drew.trans hb2
      have hO2' : w2.ownsRow W.heap.size 68 3 (.slice b2 xn c2) (sortL rows).length (flat (sortL rows)) := by rw [sortL_length, hxl]; exact hO2
      have hv2 : Boxed w2 w1.heap.size 24 (.slice b D.length c) := (hb2'.block _ hv.lt).trans hv
      have hc2 := hv2.cell
      refine wpAny_ready (rs := [5]) (by kernel_rfl) (by simp) ?_
      refine AllReady.cons rfl (fun K hK => ?_) AllReady.nil
      go_simp
      refine hK _ _ ?_
      clear hK K
      refine wpAny_ready (rs := [6]) (by kernel_rfl) (by simp) ?_
      refine AllReady.cons rfl (fun K hK => ?_) AllReady.nil
      refine step_append_one rfl _ _ 24 rfl w.heap.size 50 i0 (.agg #[.slice none 0 0]) 1 24 Try.underlying24 hi hz0 hz1 hz2 rfl (by decide) (.slice b D.length c) _ _ rfl ((hP.below hb2').outer.alloc _) ⟨w2.heap.size, 0, none⟩ 1 1 [.slice b2 xn c2] rfl rfl (cell_one_new _ _ _) (by intro u hu; simp at hu; subst hu; rfl) (by unfold maxLen; omega) (by omega) (by have := hb2.size; simp at this ⊢; omega) ?_
      intro v' w4 hO4 hg4 hat
      obtain ⟨a4, c4, rfl⟩ := own_slice' hO4
      obtain ⟨hv4, hf1, hf2, hf3⟩ := round_parts hv hP hsW hl2 bS1 bN1 (by omega) (by omega) (by decide) (by decide) hb2' hO2' hg4 hO4 (by simpa using hat)
      have hc4 := hv4.cell
      have hz4 := hv4.frozen
      refine hK _ _ ?_
      clear hK K
      refine wpAny_ready (rs := [7]) (by kernel_rfl) (by simp) ?_
      refine AllReady.cons rfl (fun K hK => ?_) AllReady.nil
      go_simp
      refine hK _ _ ?_
      clear hK K
      refine wpAny_done (by kernel_rfl) ?_ _
      exact ⟨hf3, hf2, by rw [HEQ.out]; exact hf1, keepTwo_t hB hf2⟩
    · refine AllReady.cons rfl (fun K hK => ?_) AllReady.nil
      go_simp
      refine (sortedListOf_any xa xn xn rows W.drew hxm RX).mono ?_
      rintro e w2 ⟨b2, c2, rfl, hO2, hb2⟩
      refine hK _ _ ?_
      clear hK K
      refine wpAny_take (i := 3) (v := .slice b2 xn c2) rfl (by kernel_rfl) (by kernel_rfl) (by kernel_rfl) (fun _ _ _ h => h) (Or.inl ⟨by rfl, fun w => by kernel_rfl⟩) ?_
      refine wpAny_take (i := 4) (v := .agg #[.slice b2 xn c2]) rfl (by kernel_rfl) (by kernel_rfl) (by kernel_rfl) (fun _ _ _ h => h) (Or.inl ⟨by rfl, fun w => by go_simp⟩) ?_
      have hb2' : Below W.heap.size W w2 := (Below.refl W.heap.size W).drew.trans hb2
      have hO2' : w2.ownsRow W.heap.size 68 3 (.slice b2 xn c2) (sortL rows).length (flat (sortL rows)) := by rw [sortL_length, hxl]; exact hO2
      have hv2 : Boxed w2 w1.heap.size 24 (.slice b D.length c) := (hb2'.block _ hv.lt).trans hv
      have hc2 := hv2.cell
      refine wpAny_ready (rs := [0, 5]) (by kernel_rfl) (by simp) ?_
      refine AllReady.cons rfl (fun K hK => ?_) ?_
      · go_simp
        refine hK _ _ ?_
        clear hK K
        refine wpAny_ready (rs := [5]) (by kernel_rfl) (by simp) ?_
        refine AllReady.cons rfl (fun K hK => ?_) AllReady.nil
        go_simp
        refine hK _ _ ?_
        clear hK K
        refine wpAny_ready (rs := [6]) (by kernel_rfl) (by simp) ?_
        refine AllReady.cons rfl (fun K hK => ?_) AllReady.nil
        refine step_append_one rfl _ _ 24 rfl w.heap.size 50 i0 (.agg #[.slice none 0 0]) 1 24 Try.underlying24 hi hz0 hz1 hz2 rfl (by decide) (.slice b D.length c) _ _ rfl ((hP.below hb2').outer.alloc _) ⟨w2.heap.size, 0, none⟩ 1 1 [.slice b2 xn c2] rfl rfl (cell_one_new _ _ _) (by intro u hu; simp at hu; subst hu; rfl) (by unfold maxLen; omega) (by omega) (by have := hb2.size; simp at this ⊢; omega) ?_
        intro v' w4 hO4 hg4 hat
        obtain ⟨a4, c4, rfl⟩ := own_slice' hO4
        obtain ⟨hv4, hf1, hf2, hf3⟩ := round_parts hv hP hsW hl2 bS1 bN1 (by omega) (by omega) (by decide) (by decide) hb2' hO2' hg4 hO4 (by simpa using hat)
        have hc4 := hv4.cell
        have hz4 := hv4.frozen
        refine hK _ _ ?_
        clear hK K
        refine wpAny_ready (rs := [7]) (by kernel_rfl) (by simp) ?_
        refine AllReady.cons rfl (fun K hK => ?_) AllReady.nil
        go_simp
        refine hK _ _ ?_
        clear hK K
        refine wpAny_done (by kernel_rfl) ?_ _
        exact ⟨hf3, hf2, by rw [HEQ.out]; exact hf1, keepTwo_t hB hf2⟩
      · refine AllReady.cons rfl (fun K hK => ?_) AllReady.nil
        go_simp
        refine hK _ _ ?_
        clear hK K
        refine wpAny_ready (rs := [0]) (by kernel_rfl) (by simp) ?_
        refine AllReady.cons rfl (fun K hK => ?_) AllReady.nil
        have hc2' := (hv2.alloc (.cells #[.slice b2 xn c2] 50)).cell
        go_simp
        refine hK _ _ ?_
        clear hK K
        refine wpAny_ready (rs := [6]) (by kernel_rfl) (by simp) ?_
        refine AllReady.cons rfl (fun K hK => ?_) AllReady.nil
        refine step_append_one rfl _ _ 24 rfl w.heap.size 50 i0 (.agg #[.slice none 0 0]) 1 24 Try.underlying24 hi hz0 hz1 hz2 rfl (by decide) (.slice b D.length c) _ _ rfl ((hP.below hb2').outer.alloc _) ⟨w2.heap.size, 0, none⟩ 1 1 [.slice b2 xn c2] rfl rfl (cell_one_new _ _ _) (by intro u hu; simp at hu; subst hu; rfl) (by unfold maxLen; omega) (by omega) (by have := hb2.size; simp at this ⊢; omega) ?_
        intro v' w4 hO4 hg4 hat
        obtain ⟨a4, c4, rfl⟩ := own_slice' hO4
        obtain ⟨hv4, hf1, hf2, hf3⟩ := round_parts hv hP hsW hl2 bS1 bN1 (by omega) (by omega) (by decide) (by decide) hb2' hO2' hg4 hO4 (by simpa using hat)
        have hc4 := hv4.cell
        have hz4 := hv4.frozen
        refine hK _ _ ?_
        clear hK K
        refine wpAny_ready (rs := [7]) (by kernel_rfl) (by simp) ?_
        refine AllReady.cons rfl (fun K hK => ?_) AllReady.nil
        go_simp
        refine hK _ _ ?_
        clear hK K
        refine wpAny_done (by kernel_rfl) ?_ _
        exact ⟨hf3, hf2, by rw [HEQ.out]; exact hf1, keepTwo_t hB hf2⟩
  case done =>
    rintro D ys W hD hys ⟨⟨b, c, vs, hv, hP⟩, hB⟩ hK
    rw [hys] at hv hP
    have hc := hv.cell
    gi_wp2_with fail
    refine ⟨by simp, .inl ⟨_, _, rfl, run_takeDeferred hK, ?_⟩⟩
    exact ⟨_, results_tmp2 rfl _ _ _, b, c, vs, by simp, (hW0.trans hB.1).trans (belowK_b (w := w) (Nat.le_refl _) W D _ _ (by omega) hK rfl rfl), hP.keptRow (grownBy_putObj' W D _) (fun r e => by cases e; exact ⟨_, hK, rfl⟩)⟩
  case stop =>
    rintro D c pre W _ _ h _
    exact h.elim
set_option maxRecDepth 100000 in
set_option maxHeartbeats 1000000 in
theorem implRunsOf_no (a : Option Addr) (n cap : Nat) (N : Int) (rs : List RowV) (w : World) (hm : n ≤ 1048576) (hok : ∀ r ∈ rs, r.Ok) (hR : Rd w w.heap.size 3 a n (flat rs)) (hq : runsOfB rs N = false) :
    Calls Try.prog 18 #[.slice a n cap, .int .i64 N] w fun e w' => e = .returned (.tuple #[.slice none 0 0, .bool false]) ∧ Below w.heap.size w w' := by
  have C0 := implRowsOk_any a n cap rs w hm hok hR
  unfold runsOfB at hq
  cases hs : rowsOk rs
  case false =>
    rw [hs] at C0
    clear hq hs
    go_enter Try.func18, Try.ntmps18
    go_wp2_with fail
    refine C0.mono ?_
    rintro e w1 ⟨rfl, hb⟩
    go_wp2_with fail
    go_ret2
    exact ⟨rfl, hb⟩
  rw [hs] at C0 hq
  have CS := fun w => sizeOk_any N false w (by simpa using hq)
  clear hq hs
  go_enter Try.func18, Try.ntmps18
  go_wp2_with fail
  refine C0.mono ?_
  rintro e w1 ⟨rfl, hb⟩
  go_wp2_with fail
  refine (CS _).mono ?_
  rintro e w2 ⟨rfl, rfl⟩
  go_wp2_with fail
  go_ret2
  exact ⟨rfl, hb⟩
theorem implRunsOf_any (a : Option Addr) (n cap : Nat) (rs : List RowV) (N : Int) (w : World) (hm : n ≤ 1048576) (hnc : n ≤ cap) (hok : ∀ r ∈ rs, r.Ok) (hR : Rd w w.heap.size 3 a n (flat rs)) :
    Calls Try.prog 18 #[.slice a n cap, .int .i64 N] w (RunsOut rs N w) := by
  unfold RunsOut runsOfS
  cases hq : runsOfB rs N
  · rw [if_neg (by decide)]
    refine (implRunsOf_no a n cap N rs w hm hok hR hq).mono ?_
    rintro e w1 ⟨rfl, hb⟩
    exact ⟨none, 0, [], rfl, hb, World.ownsRow_nil _ _ _ _, Fam.nil _ _, fun v hv => by cases hv⟩
  · rw [if_pos rfl]
    have h := hq
    simp only [runsOfB, Bool.and_eq_true, decide_eq_true_eq] at h
    obtain ⟨M, rfl⟩ : ∃ M : Nat, N = (M : Int) := ⟨N.toNat, by omega⟩
    exact implRunsOf_yes a n cap M rs w hm hnc hok hR h.1 (by omega) (by omega)
theorem runsF_rows (N : Nat) : ∀ (f : Nat) (l : List RowV), rowsIn (runsF N f l) ≤ l.length
  | 0, _ => Nat.zero_le _
  | f + 1, l => by
    rw [runsF]
    split
    · exact Nat.zero_le _
    · have ih := runsF_rows N f (l.drop N)
      rw [List.length_drop] at ih
      have e : rowsIn (sortL (l.take N) :: runsF N f (l.drop N)) = (sortL (l.take N)).length + rowsIn (runsF N f (l.drop N)) := by simp [rowsIn]
      rw [e, sortL_length, List.length_take]
      omega
theorem runsOfS_le (rs : List RowV) (N : Int) : (runsOfS rs N).length ≤ 1048576 ∧ rowsIn (runsOfS rs N) ≤ 1048576 := by
  unfold runsOfS
  split
  · rename_i h
    simp only [runsOfB, Bool.and_eq_true] at h
    have h1 := h.1
    unfold rowsOk at h1
    have h2 : rs.length ≤ 120 := of_decide_eq_true (Bool.and_eq_true _ _ ▸ h1).1
    have h3 := runsL_le N.toNat rs
    have h4 := runsF_rows N.toNat rs.length rs
    unfold runsL at h3 ⊢
    exact ⟨by omega, by omega⟩
  · exact ⟨Nat.zero_le _, Nat.zero_le _⟩
end Go.Proofs.Ytgdbpckobngmjaa

namespace Go.Proofs.Ytgdbpckobngmjaa
open Go.RowKit

theorem rowsIn_flatten : ∀ ps : List (List RowV), rowsIn ps = ps.flatten.length
  | [] => rfl
  | r :: ps => by rw [List.flatten_cons, List.length_append, ← rowsIn_flatten ps]; simp [rowsIn]
def mergedRunsB (ps : List (List RowV)) : Bool := runsB ps
def mergedRunsS (ps : List (List RowV)) : List RowV := if runsB ps then sortL ps.flatten else []
theorem mergedRunsS_le (ps : List (List RowV)) : (mergedRunsS ps).length ≤ 1048576 := by
  unfold mergedRunsS
  split
  · rename_i h
    simp only [runsB, Bool.and_eq_true, decide_eq_true_eq] at h
    rw [sortL_length]
    omega
  · simp
set_option maxRecDepth 100000 in
set_option maxHeartbeats 1000000 in
theorem specMergedRuns_any (a : Option Addr) (n cap : Nat) (ps : List (List RowV)) (w : World) (hn : n ≤ 1048576) (hr : rowsIn ps ≤ 1048576) (hok : ∀ rs ∈ ps, rs.length ≤ maxLen ∧ ∀ r ∈ rs, r.Ok) (hP : PRd w w.heap.size a n ps) :
    Calls Try.prog 25 #[.slice a n cap] w fun e w' => ∃ b c, e = .returned (.tuple #[.slice b (mergedRunsS ps).length c, .bool (mergedRunsB ps)]) ∧ Below w.heap.size w w' ∧ w'.ownsRow w.heap.size 68 3 (.slice b (mergedRunsS ps).length c) (mergedRunsS ps).length (flat (mergedRunsS ps)) := by
  rw [rowsIn_flatten] at hr
  have hok2 : ∀ rs ∈ ps, ∀ r ∈ rs, r.Ok := fun rs h => (hok rs h).2
  cases hq : runsB ps
  · have E1 : mergedRunsS ps = [] := by unfold mergedRunsS; rw [hq]; rfl
    have E2 : mergedRunsB ps = false := hq
    rw [E1, E2]
    have HC := Lib.hid (l3Runs_any a n cap ps w hn hr hok2 hP)
    rw [hq] at HC
    clear E1 E2 hq
    go_enter Try.func25, Try.ntmps25
    go_wp2_with fail
    refine HC.out.mono ?_
    rintro e w1 ⟨rfl, hb⟩
    go_wp2_with fail
    go_ret2
    exact ⟨none, 0, rfl, hb, World.ownsRow_nil _ _ _ _⟩
  · have E1 : mergedRunsS ps = sortL ps.flatten := by unfold mergedRunsS; rw [hq]; rfl
    have E2 : mergedRunsB ps = true := hq
    rw [E1, E2, sortL_length]
    have HC := Lib.hid (l3Runs_any a n cap ps w hn hr hok2 hP)
    rw [hq] at HC
    clear E1 E2 hq
    go_enter Try.func25, Try.ntmps25
    go_wp2_with fail
    refine HC.out.mono ?_
    rintro e w1 ⟨rfl, hb⟩
    have P1 := (hP.below hb (Nat.le_refl _)).more hb.size
    go_wp2_with fail
    refine (l3All_any a n cap ps w1 hn hr P1).mono ?_
    rintro e w2 ⟨b, c, rfl, hb2, hO⟩
    have B2 := hb.trans (hb2.mono hb.size)
    have hfl : ∃ fl, fl = ps.flatten.length := ⟨_, rfl⟩
    obtain ⟨fl, hfl⟩ := hfl
    have Hfl := Lib.hid hfl
    rw [← hfl] at hO hr ⊢
    clear hfl
    go_wp2_with fail
    refine (l3Sort_any b fl c ps.flatten w2 (by omega) (Rd.of_own hO)).mono ?_
    rintro e w3 ⟨b3, c3, rfl, hO3, hb3⟩
    have B3 := B2.trans (hb3.mono B2.size)
    have hO4 := own_base' hO3 B2.size
    go_wp2_with fail
    go_ret2
    rw [← Hfl.out]
    exact ⟨b3, c3, rfl, B3, hO4⟩
end Go.Proofs.Ytgdbpckobngmjaa

namespace Go.Proofs.Ytgdbpckobngmjaa
open Go.RowKit Go.Shelf
attribute [local go_sem] Oper.semAt_some
/-- Stretches of so many parts; no more than so many. -/
def chunkPF (N : Nat) : Nat → List (List RowV) → List (List (List RowV))
  | 0, _ => []
  | f + 1, l => if l.length = 0 then [] else l.take N :: chunkPF N f (l.drop N)
def chunkPL (N : Nat) (l : List (List RowV)) : List (List (List RowV)) := chunkPF N l.length l
theorem chunkPF_fuel {N : Nat} (hN : 1 ≤ N) : ∀ (f g : Nat) (l : List (List RowV)), l.length ≤ f → l.length ≤ g → chunkPF N f l = chunkPF N g l
  | 0, 0, _, _, _ => rfl
  | 0, g + 1, l, h, _ => by rw [chunkPF, chunkPF, if_pos (by omega)]
  | f + 1, 0, l, _, h => by rw [chunkPF, chunkPF, if_pos (by omega)]
  | f + 1, g + 1, l, hf, hg => by
    rw [chunkPF, chunkPF]
    by_cases h : l.length = 0
    · rw [if_pos h, if_pos h]
    · rw [if_neg h, if_neg h, chunkPF_fuel hN f g _ (by rw [List.length_drop]; omega) (by rw [List.length_drop]; omega)]
theorem chunkPL_none {N : Nat} {l : List (List RowV)} (h : l.length = 0) : chunkPL N l = [] := by
  unfold chunkPL
  rw [h]; rfl
theorem chunkPL_next {N : Nat} (hN : 1 ≤ N) {l : List (List RowV)} (h : l.length ≠ 0) : chunkPL N l = l.take N :: chunkPL N (l.drop N) := by
  unfold chunkPL
  obtain ⟨f, hf⟩ : ∃ f, l.length = f + 1 := ⟨l.length - 1, by omega⟩
  rw [hf, chunkPF, if_neg h, chunkPF_fuel hN f (l.drop N).length _ (by rw [List.length_drop]; omega) (Nat.le_refl _)]
theorem flatten_sub {a b : List (List RowV)} (h : a.Sublist b) : a.flatten.length ≤ b.flatten.length := by
  induction h with
  | slnil => exact Nat.le_refl _
  | cons x _ ih => rw [List.flatten_cons, List.length_append]; omega
  | cons_cons x _ ih => rw [List.flatten_cons, List.flatten_cons, List.length_append, List.length_append]; omega
theorem PRd.sub {w : World} {B b off n p q : Nat} {ps : List (List RowV)} (h : PRd w B (some ⟨b, off, none⟩) n ps) (hq : p + q ≤ n) : PRd w B (some ⟨b, off + p, none⟩) q ((ps.drop p).take q) := by
  have hl := h.len
  obtain ⟨vs, h1, h2, h3⟩ := h
  have hvl : vs.length = n := by have := h1.1; omega
  refine ⟨(vs.drop p).take q, ⟨by rw [List.length_take, List.length_drop]; omega, fun hp => ?_⟩, by rw [List.length_take, List.length_take, List.length_drop, List.length_drop, h2], fun i v rs hv hr => ?_⟩
  · obtain ⟨b', off', e, hb, hc⟩ := h1.2 (by omega)
    injection e with e
    injection e with e1 e2 _
    subst e1 e2
    refine ⟨b, off + p, rfl, hb, fun j u hu => ?_⟩
    have hj : j < q := by have := (List.getElem?_eq_some_iff.1 hu).1; rw [List.length_take] at this; omega
    rw [List.getElem?_take_of_lt hj, List.getElem?_drop] at hu
    rw [Nat.add_assoc]
    exact hc _ u hu
  · have hj : i < q := by have := (List.getElem?_eq_some_iff.1 hv).1; rw [List.length_take] at this; omega
    rw [List.getElem?_take_of_lt hj, List.getElem?_drop] at hv hr
    exact h3 _ v rs hv hr
/-- A stretch of parts, where it lies. -/
structure CpV where
  a : Option Addr
  n : Nat
  ps : List (List RowV)
def CpIn (w : World) (B : Nat) : Type := {x : CpV // PRd w B x.a x.n x.ps ∧ (x.n ≤ 1000 ∧ x.ps.flatten.length ≤ 1000) ∧ ∃ b off, x.a = some ⟨b, off, none⟩}
def cpOf {w : World} {B : Nat} (ys : List (CpIn w B)) : List (List (List RowV)) := ys.map fun x => x.1.ps
def cpV {w : World} {B : Nat} (x : CpIn w B) : Array Value := #[.slice x.1.a x.1.n x.1.n]
set_option maxRecDepth 100000 in
set_option maxHeartbeats 2000000 in
theorem chunkP1_in (n l Bs Bn n₀ N : Nat) (a : Option Addr) (len cap : Nat) (rs : List (List RowV)) (w0 : World) (hN1 : 1 ≤ N) (hN2 : N ≤ 120) (hm : len ≤ 1000) (hfl : rs.flatten.length ≤ 1000) (hlc : len ≤ cap) (J Jx : List (CpIn w0 n₀) → World → Prop) (W : World)
    (hY : ∀ pre x W1, J pre W1 → pre.length < rs.length → YieldAt Fence.wide (n - 1) Try.prog l (cpV x) W1 fun e W' =>
      (e = .returned (.bool true) ∧ J (pre ++ [x]) W' ∧ KeepTwo n₀ Bs Bn W1 W') ∨ (e = .returned (.bool false) ∧ Jx (pre ++ [x]) W'))
    (hA : ∀ s X, J s X → J s (World.drew X)) (hBs : W.cell? ⟨Bs, 0, none⟩ = some (.slice a len cap)) (hBn : W.cell? ⟨Bn, 0, none⟩ = some (.int .i64 N)) (hR : PRd w0 n₀ a len rs) (h0 : J [] W) :
    CallsIn Fence.wide n Try.prog 122 #[.func (.yield l) #[] #[], .pointer (some ⟨Bs, 0, none⟩), .pointer (some ⟨Bn, 0, none⟩)] W fun e W' => (∃ v, e = .returned v) ∧
      ((∃ ys, cpOf ys = chunkPL N rs ∧ J ys W') ∨ (∃ pre, cpOf pre <+: chunkPL N rs ∧ Jx pre W')) := by
  have hl := Lib.hid hR.len
  have HR := Lib.hid hR
  have HFL := Lib.hid hfl
  clear hfl
  generalize hT : chunkPL N rs = T
  have HT := Lib.hid hT
  clear hT hR
  have HBs := Lib.hid hBs
  have HBn := Lib.hid hBn
  refine callsIn_of_wp Try.func122 rfl trivial ?_ rfl
  simp only [Try.ntmps122, List.size_toArray, List.length_cons, List.length_nil, Nat.reduceAdd, Nat.reduceSub, Array.replicate_succ, Array.replicate_zero, List.push_toArray, List.append_toArray, List.nil_append, List.cons_append]
  clear hBs hBn
  gi_wp2
  gi_loopw [4] (fun v wr => ∃ (p : Nat) (ys : List (CpIn w0 n₀)), v = .int .i64 p ∧ p ≤ len + 120 ∧ ys.length ≤ p ∧ Hid (T = cpOf ys ++ chunkPL N (rs.drop p)) ∧ J ys wr ∧ KeepTwo n₀ Bs Bn W wr)
    (fun v _ => len - (intOf v).toNat)
  case atStart => exact ⟨0, [], rfl, by omega, by simp, Lib.hid HT.out.symm, h0, KeepTwo.refl _ _ _ _⟩
  case round =>
    obtain ⟨p, ys, rfl, hp, hyp, HG, hJs, hK⟩ := hrel
    have cS : wr.cell? ⟨Bs, 0, none⟩ = some (.slice a len cap) := hK.cell1.trans HBs.out
    have cN : wr.cell? ⟨Bn, 0, none⟩ = some (.int .i64 N) := hK.cell2.trans HBn.out
    by_cases hlt : p < len
    · have hdl : (rs.drop p).length = len - p := by rw [List.length_drop, hl.out]
      obtain ⟨q, hq1, hq2⟩ : ∃ q : Nat, min (N : Int) ((len - p : Nat) : Int) = (q : Int) ∧ q = min N (len - p) := ⟨min N (len - p), by omega, rfl⟩
      have HN := Lib.hid (chunkPL_next hN1 (l := rs.drop p) (by omega))
      have hRp := (show 0 < len by omega)
      obtain ⟨b, off, _, _, _, e, hb, _⟩ := HR.out.at_ hRp
      subst e
      have hq3 : 1 ≤ q := by omega
      have hq4 : p + q ≤ len := by omega
      clear hRp
      gi_wp2_with fail
      gi_region
      rw [← hq2]
      have hJ2 := hA _ _ hJs
      have hK2 : KeepTwo n₀ Bs Bn W wr.drew := ⟨hK.1.drew, hK.2⟩
      have cS2 : wr.drew.cell? ⟨Bs, 0, none⟩ = some (.slice (some ⟨b, off, none⟩) len cap) := cS
      have cN2 : wr.drew.cell? ⟨Bn, 0, none⟩ = some (.int .i64 N) := cN
      have hrl : ((rs.drop p).take q).length = q := by rw [List.length_take, hdl]; omega
      have hxR : PRd w0 n₀ (some ⟨b, off + p, none⟩) q ((rs.drop p).take q) := HR.out.sub (by omega)
      have hxq : (q ≤ 1000 ∧ ((rs.drop p).take q).flatten.length ≤ 1000) ∧ ∃ b' off', some (⟨b, off + p, none⟩ : Addr) = some ⟨b', off', none⟩ := ⟨⟨by omega, Nat.le_trans (flatten_sub ((List.take_sublist _ _).trans (List.drop_sublist _ _))) HFL.out⟩, b, off + p, rfl⟩
      obtain ⟨x, hx⟩ : ∃ x : CpIn w0 n₀, x = ⟨⟨some ⟨b, off + p, none⟩, q, (rs.drop p).take q⟩, hxR, hxq⟩ := ⟨_, rfl⟩
      have hxe : cpOf (ys ++ [x]) = cpOf ys ++ [(rs.drop p).take q] := by
        unfold cpOf
        rw [List.map_append, hx]
        rfl
      have htk : (rs.drop p).take N = (rs.drop p).take q := by
        rw [hq2]
        rcases Nat.le_total N (len - p) with h | h
        · rw [Nat.min_eq_left h]
        · rw [Nat.min_eq_right h, List.take_of_length_le (by omega), List.take_of_length_le (by omega)]
      have HG2 := Lib.hid (show T = cpOf (ys ++ [x]) ++ chunkPL N (rs.drop (p + N)) by rw [HG.out, HN.out, hxe, htk, List.append_assoc, List.drop_drop]; rfl)
      obtain ⟨fn, tmps, assign, body, hy, hRd⟩ := hY ys x wr.drew hJ2 (by rw [hl.out]; omega)
      rw [show cpV x = #[.slice (some ⟨b, off + p, none⟩) q q] by rw [hx]; rfl] at hy
      have hlen : (ys ++ [x]).length ≤ p + N := by rw [List.length_append, List.length_singleton]; omega
      have hs1 : p + q - p = q := by omega
      clear hx hxe HN HG hJs hJ2 hY hxR hxq htk hrl cS cN hK hq1 hq2 hdl
      gi_wp2_with fail
      refine ⟨fun h => (by cases h), ?_⟩
      refine hRd.mono ?_
      rintro e W3 (⟨rfl, hJ3, hk3⟩ | ⟨rfl, hJx3⟩)
      · have hK3 := keepTwo_t hK2 hk3
        have cN3 : W3.cell? ⟨Bn, 0, none⟩ = some (.int .i64 N) := hK3.cell2.trans HBn.out
        clear hk3 hRd hy cS2 cN2 hK2
        gi_wp2_with fail
        go_roundw
        case rel => exact ⟨p + N, ys ++ [x], by go_num, by omega, hlen, HG2, hJ3, hK3⟩
        case measure => simp [intOf]; omega
      · clear hRd hy cS2 cN2 hK2
        gi_wp2_with fail
        refine bodyPost_ret (results_none rfl _ _ _) rfl ?_
        exact ⟨⟨_, rfl⟩, .inr ⟨ys ++ [x], ⟨chunkPL N (rs.drop (p + N)), HG2.out.symm⟩, hJx3⟩⟩
    · have hd : rs.drop p = [] := List.drop_of_length_le (by rw [hl.out]; omega)
      have HG2 := Lib.hid (show cpOf ys = T by rw [HG.out, hd, chunkPL_none rfl, List.append_nil])
      clear hd
      gi_wp2
      go_end0
      exact ⟨⟨_, rfl⟩, .inl ⟨ys, HG2.out, hJs⟩⟩
set_option maxRecDepth 100000 in
theorem chunkP_any (a : Option Addr) (len cap N : Nat) (w : World) (hN : 1 ≤ N) (hN2 : N ≤ 120) :
    Calls Try.prog 83 #[.slice a len cap, .int .i64 N] w fun e w' => e = .returned (.func (.func 122) #[] #[.pointer (some ⟨w.heap.size, 0, none⟩), .pointer (some ⟨w.heap.size + 1, 0, none⟩)]) ∧ w' = (w.alloc (.cells #[.slice a len cap] 24)).alloc (.cells #[.int .i64 N] 3) := by
  have hd : ¬ N < 1 := by omega
  go_enter Try.func83, Try.ntmps83
  go_wp2_with fail
  go_ret
  exact ⟨rfl, rfl⟩
/-- What a chunk's range yields. -/
theorem chunkP_stops (n Bs Bn n₀ N : Nat) (a : Option Addr) (len cap : Nat) (rs : List (List RowV)) (hN1 : 1 ≤ N) (hN2 : N ≤ 120) (hm : len ≤ 1000) (hfl : rs.flatten.length ≤ 1000) (hlc : len ≤ cap) (w : World)
    (hBs : w.cell? ⟨Bs, 0, none⟩ = some (.slice a len cap)) (hls : Bs < w.heap.size) (hBn : w.cell? ⟨Bn, 0, none⟩ = some (.int .i64 N)) (hln : Bn < w.heap.size) (hR : PRd w n₀ a len rs) :
    SeqStopsK Fence.wide n Try.prog 122 #[.pointer (some ⟨Bs, 0, none⟩), .pointer (some ⟨Bn, 0, none⟩)] (fun x : CpIn w n₀ => cpV x) (KeepTwo n₀ Bs Bn) (fun ys => cpOf ys = chunkPL N rs) (fun pre => cpOf pre <+: chunkPL N rs) rs.length w := fun l J Jx W hW hA _ hY h0 =>
  chunkP1_in n l Bs Bn n₀ N a len cap rs w hN1 hN2 hm hfl hlc J Jx W hY (fun s X h => hA s X X.drew none h (gb_of_below (Below.refl X.heap.size X).drew none) (fun r e => by cases e)) ((hW.cell (p := ⟨Bs, 0, none⟩) hls).trans hBs) ((hW.cell (p := ⟨Bn, 0, none⟩) hln).trans hBn) hR h0
end Go.Proofs.Ytgdbpckobngmjaa

namespace Go.Proofs.Ytgdbpckobngmjaa
open Go.RowKit
/-- So many runs merged at a time; no more than so many times. -/
def fewF (N : Nat) : Nat → List (List RowV) → List (List RowV)
  | 0, _ => []
  | f + 1, l => if l.length = 0 then [] else sortL (l.take N).flatten :: fewF N f (l.drop N)
def fewL (N : Nat) (l : List (List RowV)) : List (List RowV) := fewF N l.length l
theorem fewF_fuel {N : Nat} (hN : 1 ≤ N) : ∀ (f g : Nat) (l : List (List RowV)), l.length ≤ f → l.length ≤ g → fewF N f l = fewF N g l
  | 0, 0, _, _, _ => rfl
  | 0, g + 1, l, h, _ => by rw [fewF, fewF, if_pos (by omega)]
  | f + 1, 0, l, _, h => by rw [fewF, fewF, if_pos (by omega)]
  | f + 1, g + 1, l, hf, hg => by
    rw [fewF, fewF]
    by_cases h : l.length = 0
    · rw [if_pos h, if_pos h]
    · rw [if_neg h, if_neg h, fewF_fuel hN f g _ (by rw [List.length_drop]; omega) (by rw [List.length_drop]; omega)]
theorem fewL_none {N : Nat} {l : List (List RowV)} (h : l.length = 0) : fewL N l = [] := by
  unfold fewL
  rw [h]; rfl
theorem fewL_next {N : Nat} (hN : 1 ≤ N) {l : List (List RowV)} (h : l.length ≠ 0) : fewL N l = sortL (l.take N).flatten :: fewL N (l.drop N) := by
  unfold fewL
  obtain ⟨f, hf⟩ : ∃ f, l.length = f + 1 := ⟨l.length - 1, by omega⟩
  rw [hf, fewF, if_neg h, fewF_fuel hN f (l.drop N).length _ (by rw [List.length_drop]; omega) (Nat.le_refl _)]
theorem fewF_le (N : Nat) : ∀ (f : Nat) (l : List (List RowV)), (fewF N f l).length ≤ f
  | 0, _ => Nat.le_refl _
  | f + 1, l => by
    rw [fewF]
    split
    · exact Nat.zero_le _
    · rw [List.length_cons]; exact Nat.succ_le_succ (fewF_le N f _)
theorem fewL_le (N : Nat) (l : List (List RowV)) : (fewL N l).length ≤ l.length := fewF_le N _ _
def fewerRunsB (ps : List (List RowV)) (N : Int) : Bool := runsB ps && (decide (2 ≤ N) && decide (N ≤ 10))
def fewerRunsS (ps : List (List RowV)) (N : Int) : List (List RowV) := if fewerRunsB ps N = true then fewL N.toNat ps else []
set_option maxRecDepth 100000 in
theorem l1In_few (n : Int) (b : Bool) (w : World) (h : (decide (2 ≤ n) && decide (n ≤ 10)) = b) : Calls Try.prog 66 #[.int .i64 n, .int .i64 2, .int .i64 10] w fun e w' => e = .returned (.bool b) ∧ Below w.heap.size w w' := by
  have E := Lib.hid h
  clear h
  by_cases h1 : 2 ≤ n
  · have d1 : decide (2 ≤ n) = true := by simp [h1]
    go_enter Try.func66, Try.ntmps66
    go_wp2
    go_ret
    exact ⟨ret_bool (by rw [← E.out, d1, Bool.true_and]), Below.refl _ _⟩
  · have d1 : decide (2 ≤ n) = false := by simp [h1]
    go_enter Try.func66, Try.ntmps66
    go_wp2
    go_ret
    exact ⟨ret_bool (by rw [← E.out, d1, Bool.false_and]), Below.refl _ _⟩
def FewOut (ps : List (List RowV)) (N : Int) (w : World) (e : Ending) (w' : World) : Prop :=
  ∃ a c vs, e = .returned (.tuple #[.slice a (fewerRunsS ps N).length c, .bool (fewerRunsB ps N)]) ∧ Below w.heap.size w w' ∧ POwn w' w.heap.size a (fewerRunsS ps N).length c vs (fewerRunsS ps N)
set_option maxRecDepth 100000 in
set_option maxHeartbeats 2000000 in
theorem specFewerRuns_any (a : Option Addr) (n cap : Nat) (ps : List (List RowV)) (N : Int) (w : World) (hm : n ≤ 1048576) (hr : rowsIn ps ≤ 1048576) (hnc : n ≤ cap) (hok : ∀ rs ∈ ps, rs.length ≤ maxLen ∧ ∀ r ∈ rs, r.Ok) (hP0 : PRd w w.heap.size a n ps) :
    Calls Try.prog 29 #[.slice a n cap, .int .i64 N] w (FewOut ps N w) := by
  rw [rowsIn_flatten] at hr
  have C0 := l3Runs_any a n cap ps w hm hr (fun rs h => (hok rs h).2) hP0
  unfold FewOut
  cases hq : runsB ps
  case false =>
    rw [hq] at C0
    have E : fewerRunsB ps N = false := by unfold fewerRunsB; rw [hq]; rfl
    have E2 : fewerRunsS ps N = [] := by unfold fewerRunsS; rw [E]; rfl
    rw [E2, E]
    clear hq E E2
    go_enter Try.func29, Try.ntmps29
    go_wp2_with fail
    refine C0.mono ?_
    rintro e w1 ⟨rfl, hb⟩
    go_wp2_with fail
    go_ret2
    exact ⟨none, 0, [], rfl, hb, World.ownsRow_nil _ _ _ _, Fam.nil _ _, fun v hv => by cases hv⟩
  rw [hq] at C0
  have CI := fun b h w => l1In_few N b w h
  cases hp : (decide (2 ≤ N) && decide (N ≤ 10))
  case false =>
    have E : fewerRunsB ps N = false := by unfold fewerRunsB; rw [hp, Bool.and_false]
    have E2 : fewerRunsS ps N = [] := by unfold fewerRunsS; rw [E]; rfl
    rw [E2, E]
    have CI2 := CI _ hp
    clear hq E E2 hp CI
    go_enter Try.func29, Try.ntmps29
    go_wp2_with fail
    refine C0.mono ?_
    rintro e w1 ⟨rfl, hb⟩
    go_wp2_with fail
    refine (CI2 _).mono ?_
    rintro e w2 ⟨rfl, hb2⟩
    have hb' := hb.trans (hb2.mono hb.size)
    go_wp2_with fail
    go_ret2
    exact ⟨none, 0, [], rfl, hb', World.ownsRow_nil _ _ _ _, Fam.nil _ _, fun v hv => by cases hv⟩
  obtain ⟨hN1, hN2⟩ : 2 ≤ N ∧ N ≤ 10 := by simpa using hp
  obtain ⟨M, rfl⟩ : ∃ M : Nat, N = (M : Int) := ⟨N.toNat, by omega⟩
  have hM1 : 1 ≤ M := by omega
  have hM2 : M ≤ 10 := by omega
  have E : fewerRunsB ps M = true := by unfold fewerRunsB; rw [hp, hq]; rfl
  have E2 : fewerRunsS ps M = fewL M ps := by unfold fewerRunsS; rw [E]; rfl
  rw [E2, E]
  have CI2 := CI _ hp
  have hrl := Lib.hid hP0.len
  generalize hT : fewL M ps = T
  have HT := Lib.hid hT
  clear hq E E2 hp CI hN1 hN2 hT
  obtain ⟨i1, hi, hy0, hy1, hy2⟩ := info_parts infoPart
  go_enter Try.func29, Try.ntmps29
  go_wp2_with fail
  refine C0.mono ?_
  rintro e w1 ⟨rfl, hb⟩
  go_wp2_with fail
  refine (CI2 _).mono ?_
  rintro e w2 ⟨rfl, hb2⟩
  have hb' := hb.trans (hb2.mono hb.size)
  have hb3 := bl1 w2 (.cells #[] 50)
  have O0 := World.ownsRow_lit (base := w.heap.size) (e := 50) (size := 1) w2 #[] 0 hb'.size (Nat.zero_le _) rfl
  have B0 := hb'.trans (hb3.mono hb'.size)
  clear hb hb2 hb' hb3 C0 CI2
  go_wp2_with fail
  generalize w2.alloc (.cells #[] 50) = w3 at *
  go_loopw [6, 7] (fun v i wr => ∃ (k q : Nat) (g : Option Addr) (c : Nat) (vs : List Value) (D : List (List RowV)), i = .int .i64 k ∧ v = .slice g q c ∧ k ≤ n + 120 ∧ q ≤ k ∧ (k < n → k + M ≤ n + 120) ∧ Hid (D.length = q) ∧ Hid (T = D ++ fewL M (ps.drop k)) ∧ POwn wr w.heap.size g q c vs D ∧ Below w.heap.size w wr) (fun _ i _ => n + 121 - (intOf i).toNat)
  case atStart => exact ⟨0, 0, _, _, [], [], rfl, rfl, Nat.zero_le _, Nat.le_refl _, fun _ => by omega, Lib.hid rfl, Lib.hid HT.out.symm, ⟨O0, Fam.nil _ _, fun v hv => by cases hv⟩, B0⟩
  case round =>
    obtain ⟨k, q, g, c, vs, D, rfl, rfl, hkn, hqk, _, HD, HJ, hP, hb⟩ := hrel
    clear O0 B0
    by_cases hlt : k < n
    · obtain ⟨m, hmm⟩ : ∃ m, m = min (k + M) n := ⟨_, rfl⟩
      have hm1 : m ≤ n := by omega
      have hm2 : k < m := by omega
      obtain ⟨b0, off0, _, _, _, ea, _, _⟩ := hP0.at_ (show 0 < n by omega)
      have R1 := ((hP0.below hb (Nat.le_refl _)).more hb.size)
      rw [ea] at R1
      have R3 := R1.sub (p := k) (q := m - k) (by omega)
      have hdl : (ps.drop k).length = n - k := by rw [List.length_drop, hrl.out]
      have htk : (ps.drop k).take (m - k) = (ps.drop k).take M := by
        by_cases h : k + M ≤ n
        · rw [show m - k = M by omega]
        · rw [List.take_of_length_le (by omega), List.take_of_length_le (by omega)]
      have hne : (ps.drop k).length ≠ 0 := by omega
      have hfl : ((ps.drop k).take M).flatten.length ≤ 1048576 := by
        refine Nat.le_trans (flatten_sub ?_) hr
        exact (List.take_sublist _ _).trans (List.drop_sublist _ _)
      have hjl : (sortL ((ps.drop k).take M).flatten).length = ((ps.drop k).take M).flatten.length := sortL_length _
      have HJ2 := Lib.hid (show T = (D ++ [sortL ((ps.drop k).take M).flatten]) ++ fewL M (ps.drop (k + M)) by rw [HJ.out, fewL_next hM1 hne, List.append_assoc, List.drop_drop]; rfl)
      have HD2 := Lib.hid (show (D ++ [sortL ((ps.drop k).take M).flatten]).length = q + 1 by rw [List.length_append, HD.out]; rfl)
      rw [htk] at R3
      have CA := l3All_any (some ⟨b0, off0 + k, none⟩) (m - k) (cap - k) _ wr (by omega) hfl R3
      have CS := fun b c w h => l3Sort_any b ((ps.drop k).take M).flatten.length c ((ps.drop k).take M).flatten w hfl h
      unfold RowsOut at CA
      generalize sortL ((ps.drop k).take M).flatten = X at *
      generalize ((ps.drop k).take M).flatten = Y at *
      have hq1 : q + 1 ≤ maxLen := by unfold maxLen; omega
      have hq2 : (q + 1) * 24 ≤ 140737488355328 := by omega
      have hk2 : k + M ≤ n + 120 := by omega
      have hk3 : k + M < n → k + M + M ≤ n + 120 := by omega
      have hk4 : q + 1 ≤ k + M := by omega
      have hk5 : n + 121 - (k + M) < n + 121 - k := by omega
      have HM := Lib.hid (show min ((k : Int) + (M : Int)) (n : Int) = (m : Int) by omega)
      clear R1 R3 hdl htk hne HJ HD hmm
      subst ea
      go_wp2_with fail
      simp only [HM.out, Int.toNat_natCast]
      refine CA.mono ?_
      rintro e w4' ⟨b3, c3, rfl, hb3, hO3⟩
      go_wp2_with fail
      refine (CS b3 c3 w4' (Rd.of_own hO3)).mono ?_
      rintro e w4 ⟨b4, c4, rfl, hO4, hb4'⟩
      have hb4 := hb3.trans (hb4'.mono hb3.size)
      have hO6 : w4.ownsRow wr.heap.size 68 3 (.slice b4 Y.length c4) X.length (flat X) := by rw [hjl]; exact own_base' hO4 hb3.size
      have hb5 := hb.trans (hb4.mono hb.size)
      have hPo := own_below hP.outer hb4
      have hg8 : w.heap.size ≤ w4.heap.size := hb5.size
      clear CS CA hO4 hO3 hb3 hb4'
      go_wp2_with (at_builtin; refine wpList_append_own_at _ rfl _ _ 24 rfl w.heap.size 50 i1 (.agg #[.slice none 0 0]) 1 24 Try.underlying24 hi hy0 hy1 hy2 rfl (by decide) (.slice g q c) _ _ rfl (hPo.alloc _) ⟨w4.heap.size, 0, none⟩ 1 1 [.slice b4 Y.length c4] rfl rfl (cell_one_new _ _ _) (by simp [Value.oneCell']) hq1 hq2 (Nat.le_trans hg8 (bl1 w4 _).size) ?_; intro v' w5 hO5 hg5 _ hat; refine haltR_ ?_)
      refine unhaltR_ ?_
      obtain ⟨a', cap', rfl⟩ := own_slice' hO5
      have hb6 := below_grown1 hb5 hPo hg5
      have hP2 := hP.snoc hb.size hb4 hO6 hg5 hO5 (by simpa using hat)
      clear hg5 hat hO5 hPo hb5 hb4 hO6 hP hb
      go_wp2_with fail
      go_roundw
      case rel => exact ⟨k + M, q + 1, a', cap', _, D ++ [X], by go_num, rfl, hk2, hk4, hk3, HD2, HJ2, hP2, hb6⟩
      case measure => simp [intOf]; omega
    · have hJ := HJ.out
      have hdl : (ps.drop k).length = 0 := by rw [List.length_drop, hrl.out]; omega
      rw [fewL_none hdl, List.append_nil] at hJ
      have HTD := Lib.hid hJ
      clear hJ hdl HJ
      go_wp2_with fail
      go_ret2
      rw [HTD.out, HD.out]
      exact ⟨g, c, vs, rfl, hb, hP⟩
end Go.Proofs.Ytgdbpckobngmjaa

namespace Go.Proofs.Ytgdbpckobngmjaa
open Go.RowKit
/-- Does the row of the list stay ahead? -/
def leR (a b : RowV) : Bool := !(b.less a)
def mergeR (I S : List RowV) : List RowV := List.merge I S leR
theorem mergeR_nil (S : List RowV) : mergeR [] S = S := List.nil_merge S
theorem mergeR_none (I : List RowV) : mergeR I [] = I := List.merge_right I
theorem mergeR_left {r x : RowV} (R S : List RowV) (h : x.less r = false) : mergeR (r :: R) (x :: S) = r :: mergeR R (x :: S) := by
  unfold mergeR
  rw [List.cons_merge_cons, if_pos (by unfold leR; rw [h]; rfl)]
theorem mergeR_right {r x : RowV} (R S : List RowV) (h : x.less r = true) : mergeR (r :: R) (x :: S) = x :: mergeR (r :: R) S := by
  unfold mergeR
  rw [List.cons_merge_cons, if_neg (by unfold leR; rw [h]; decide)]
theorem mergeR_one (x : RowV) (S : List RowV) : mergeR [] (x :: S) = x :: mergeR [] S := by rw [mergeR_nil, mergeR_nil]
theorem mergeR_sorted {I S : List RowV} (hI : Asc RowV.less I) (hS : Asc RowV.less S) : mergeR I S = sortL (I ++ S) := by
  refine sortL_unique ?_ (List.merge_perm_append _)
  have h := List.pairwise_merge (le := leR) (fun a b c h1 h2 => by
    unfold leR at *
    rw [Bool.not_eq_true'] at *
    exact ordRow.trans _ _ _ h1 h2) (fun a b => by
    unfold leR
    cases h : b.less a
    · rfl
    · rw [ordRow.asym _ _ h]; rfl) I S (hI.imp fun {a b} h => by unfold leR; rw [h]; rfl) (hS.imp fun {a b} h => by unfold leR; rw [h]; rfl)
  exact h.imp fun {a b} h => by unfold leR at h; simpa using h
theorem mergeR_length (I S : List RowV) : (mergeR I S).length = I.length + S.length := by
  have := (List.merge_perm_append leR (xs := I) (ys := S)).length_eq
  rw [List.length_append] at this
  exact this
/-- All runs, merged one behind the other. -/
def mergedL (ps : List (List RowV)) : List RowV := ps.foldl mergeR []
theorem mergedL_snoc (ps : List (List RowV)) (S : List RowV) : mergedL (ps ++ [S]) = mergeR (mergedL ps) S := by simp [mergedL]
theorem mergedL_sorted : ∀ {ps : List (List RowV)}, (∀ S ∈ ps, Asc RowV.less S) → mergedL ps = sortL ps.flatten := by
  intro ps h
  rcases List.eq_nil_or_concat ps with rfl | ⟨qs, S, rfl⟩
  · rfl
  · rw [List.concat_eq_append] at h ⊢
    have ih := mergedL_sorted (ps := qs) fun T hT => h T (List.mem_append_left _ hT)
    rw [mergedL_snoc, ih, mergeR_sorted (sortL_asc _) (h S (by simp)), List.flatten_append, List.flatten_singleton]
    exact sortL_of_perm ((sortL_perm' _).append_right S)
termination_by ps => ps.length
decreasing_by simp_all
theorem mergedL_runs {ps : List (List RowV)} (h : runsB ps = true) : mergedL ps = sortL ps.flatten := by
  refine mergedL_sorted fun S hS => ?_
  unfold runsB at h
  rw [Bool.and_eq_true] at h
  have := List.all_eq_true.1 h.2 S hS
  unfold sortedOk at this
  rw [Bool.and_eq_true] at this
  exact adjOk_asc this.2
theorem mergedL_length : ∀ ps : List (List RowV), (mergedL ps).length = ps.flatten.length := by
  intro ps
  rcases List.eq_nil_or_concat ps with rfl | ⟨qs, S, rfl⟩
  · rfl
  · rw [List.concat_eq_append, mergedL_snoc, mergeR_length, mergedL_length qs, List.flatten_append, List.flatten_singleton, List.length_append]
termination_by ps => ps.length
decreasing_by simp_all
theorem cmpS_turn (a b : ByteArray) : cmpS a b = - cmpS b a := by
  unfold cmpS
  cases h : Op.bytesLess a.toList b.toList
  · rcases bl_total h with e | e
    · rw [e]; simp [bl_irrefl]
    · rw [e]
      have hne : (!a.toList == b.toList) = true := by
        rw [Bool.not_eq_true', beq_eq_false_iff_ne]
        intro e2
        rw [e2, bl_irrefl] at e; cases e
      rw [hne]; simp
  · have hne : (!b.toList == a.toList) = true := by
      rw [Bool.not_eq_true', beq_eq_false_iff_ne]
      intro e2
      rw [e2, bl_irrefl] at h; cases h
    rw [bl_asymm h, hne]; simp
theorem cmpI_turn (a b : Int) : cmpI a b = - cmpI b a := by
  unfold cmpI
  rcases Int.lt_trichotomy a b with h | h | h
  · rw [if_pos h, if_neg (by omega), if_pos h]
  · subst h; simp
  · rw [if_neg (by omega), if_pos h, if_pos h]; rfl
theorem or3_turn (x y z : Int) : or3 (-x) (-y) (-z) = - or3 x y z := by
  unfold or3
  by_cases hx : x = 0
  · subst hx
    by_cases hy : y = 0
    · subst hy; simp
    · simp [hy]
  · simp [hx]
def cmpR (a b : RowV) : Int := or3 (cmpS a.key b.key) (cmpI a.tag b.tag) (cmpS a.val b.val)
theorem cmpR_le (a b : RowV) : decide (cmpR a b ≤ 0) = !(b.less a) := by
  have e : cmpR a b = - cmpR b a := by
    unfold cmpR
    rw [cmpS_turn, cmpI_turn, cmpS_turn a.val b.val, or3_turn]
  have h : decide (cmpR b a < 0) = b.less a := or3_less ..
  rw [← h, e]
  by_cases h2 : cmpR b a < 0
  · rw [decide_eq_true h2, decide_eq_false (by omega)]; rfl
  · rw [decide_eq_false h2, decide_eq_true (by omega)]; rfl
end Go.Proofs.Ytgdbpckobngmjaa

namespace Go.Proofs.Ytgdbpckobngmjaa
open Go.RowKit
def HaltM_ (p : Prop) : Prop := p
theorem haltM_ {p : Prop} (h : HaltM_ p) : p := h
theorem unhaltM_ {p : Prop} (h : p) : HaltM_ p := h
theorem cell_rowM (W : World) (r : RowV) (t : TypeId) : ∀ j u, [Value.string r.key, .int .i64 r.tag, .string r.val][j]? = some u → (W.alloc (.cells #[.string r.key, .int .i64 r.tag, .string r.val] t)).cell? ((⟨W.heap.size, 0, none⟩ : Addr).add j) = some u := by
  intro j u hj
  match j, hj with
  | 0, hj => simp at hj; subst hj; simp [go_sem]
  | 1, hj => simp at hj; subst hj; simp [go_sem, Addr.add]
  | 2, hj => simp at hj; subst hj; simp [go_sem, Addr.add]
theorem flat_snocM (l : List RowV) (r : RowV) : flat (l ++ [r]) = flat l ++ [.string r.key, .int .i64 r.tag, .string r.val] := by rw [flat_append]; rfl
theorem flat_oneM (l : List RowV) : ∀ u ∈ flat l, u.oneCell' = true := by
  intro u hu
  unfold flat at hu
  obtain ⟨r, _, hr⟩ := List.mem_flatMap.1 hu
  simp [RowV.cells] at hr
  rcases hr with rfl | rfl | rfl <;> rfl
/-- Block b holds a sorted list of rows, whole; none of its cells is frozen. -/
def Sl (w : World) (b : Nat) (v : Value) : Prop := ∃ ty : TypeId, w.heap[b]? = some (.cells #[.func (.func 73) #[] #[], v] ty (0, 0))
theorem Sl.new (w : World) (v : Value) (t : TypeId) : Sl (w.alloc (.cells #[.func (.func 73) #[] #[], v] t)) w.heap.size v := ⟨t, heap_alloc_new w _⟩
theorem Sl.lt {w : World} {b : Nat} {v : Value} (h : Sl w b v) : b < w.heap.size := by
  obtain ⟨ty, h⟩ := h
  rcases Nat.lt_or_ge b w.heap.size with hlt | hge
  · exact hlt
  · rw [Array.getElem?_eq_none hge] at h; cases h
theorem Sl.cells {w : World} {b : Nat} {v : Value} (h : Sl w b v) : w.cell? ⟨b, 0, none⟩ = some (.func (.func 73) #[] #[]) ∧ w.cell? ⟨b, 1, none⟩ = some v := by
  obtain ⟨ty, h⟩ := h
  refine ⟨?_, ?_⟩ <;> simp [World.cell?, h]
theorem Sl.frozen {w : World} {b : Nat} {v : Value} (h : Sl w b v) : w.frozen? ⟨b, 0, none⟩ = false ∧ w.frozen? ⟨b, 1, none⟩ = false := by
  obtain ⟨ty, h⟩ := h
  refine ⟨?_, ?_⟩ <;> simp [World.frozen?, h]
theorem Sl.below {w w' : World} {B b : Nat} {v : Value} (h : Sl w b v) (hb : Below B w w') (hB : b < B) : Sl w' b v := by
  obtain ⟨ty, h⟩ := h
  exact ⟨ty, (hb.block b hB).trans h⟩
theorem Sl.keep {w w' : World} {b : Nat} {v : Value} (h : Sl w b v) (hb : Below w.heap.size w w') : Sl w' b v := h.below hb h.lt
theorem Sl.put {w : World} {b : Nat} {v : Value} (h : Sl w b v) (u : Value) : Sl (w.setCell ⟨b, 1, none⟩ u) b u := by
  obtain ⟨ty, h⟩ := h
  exact ⟨ty, (heap_setCell_same w b 1 _ ty u h).trans (by simp)⟩
theorem Sl.grown {w w' : World} {b : Nat} {v : Value} {row : Option Nat} (h : Sl w b v) (hg : w.grownBy w' row) (hne : some b ≠ row) : Sl w' b v := by
  have hl := h.lt
  obtain ⟨ty, h⟩ := h
  exact ⟨ty, (hg.block b hl hne).trans h⟩
set_option maxRecDepth 100000 in
set_option maxHeartbeats 4000000 in
theorem merge_any (B : Nat) (ia : Option Addr) (ni ic : Nat) (I : List RowV) (sa : Option Addr) (ns sc : Nat) (S : List RowV) (w : World) (hni : ni ≤ 1000) (hns : ns ≤ 1000) (hic : ni ≤ ic) (hL : Sl w B (.slice ia ni ic)) (hI : Rd w w.heap.size 3 ia ni (flat I)) (hS : Rd w w.heap.size 3 sa ns (flat S)) :
    Calls Try.prog 121 #[.pointer (some ⟨B, 0, none⟩), .slice sa ns sc] w fun e w' => (∃ v, e = .returned v) ∧ ∃ a c, Sl w' B (.slice a (ni + ns) c) ∧ w.grownBy w' (some B) ∧ w'.ownsRow w.heap.size 68 3 (.slice a (ni + ns) c) (ni + ns) (flat (mergeR I S)) := by
  obtain ⟨i0, hi, hz0, hz1, hz2⟩ := info_parts infoRow
  have hBl := hL.lt
  obtain ⟨l0, l1⟩ := hL.cells
  have HL := Lib.hid hL
  have hIl : I.length = ni := hI.rows_length
  have hSl := Lib.hid hS.rows_length
  have HI := Lib.hid hIl
  clear hIl
  generalize hT : mergeR I S = T
  have HT := Lib.hid hT
  clear hT hL
  go_enter Try.func121, Try.ntmps121
  go_wp2_with (at_make; refine wpList_make_own _ rfl _ _ 27 rfl w.heap.size 68 i0 (.agg #[.string ⟨#[]⟩, .int .i64 0, .string ⟨#[]⟩]) 3 Try.underlying27 hi hz0 hz1 .i64 .i64 _ (ni + ns) rfl rfl (by omega) (by rw [hz2]; omega) (by unfold maxLen; omega) (Nat.le_refl _) ?_; intro w1 hown hgrow; have hb1 := (Below.refl w.heap.size w).grown hgrow (Nat.le_refl _) (by simp); have l1' := (hb1.cell (p := ⟨B, 1, none⟩) hBl).trans l1; clear hgrow)
  clear l1'
  go_loopw [4, 5, 23] (fun v r i wr => ∃ (k m q : Nat) (g : Option Addr) (c : Nat) (ra : Option Addr) (rc : Nat) (R A : List RowV), k ≤ ns ∧ i = .int .i64 k ∧ v = .slice g q c ∧ r = .slice ra m rc ∧ m ≤ rc ∧ q + m = ni + k ∧ Hid (A.length = q) ∧ Hid (T = A ++ mergeR R (S.drop k)) ∧ Hid (Rd w w.heap.size 3 ra m (flat R)) ∧ wr.ownsRow w.heap.size 68 3 (.slice g q c) q (flat A) ∧ Below w.heap.size w wr) (fun _ _ i _ => ns - (intOf i).toNat)
  case atStart => exact ⟨0, ni, 0, _, _, _, _, I, [], Nat.zero_le _, rfl, rfl, rfl, hic, by omega, Lib.hid rfl, Lib.hid HT.out.symm, Lib.hid hI, hown, hb1⟩
  case round =>
    obtain ⟨k, m, q, g, c, ra, rc, R, A, hk, rfl, rfl, rfl, hmr, hqm, HQ, HA, HR, hO, hb⟩ := hrel
    clear hown hb1 hI
    by_cases hlt : k < ns
    · obtain ⟨b1, o1, x, rfl, hB1, hx, c0, c1, c2⟩ := (hS.below hb (Nat.le_refl _)).row hlt
      have hSd : S.drop k = x :: S.drop (k + 1) := by
        obtain ⟨hk', e⟩ := List.getElem?_eq_some_iff.1 hx
        rw [← e]; exact List.drop_eq_getElem_cons hk'
      have HA0 := Lib.hid (show T = A ++ mergeR R (x :: S.drop (k + 1)) by rw [HA.out, hSd])
      obtain ⟨xk, xt, xv⟩ := x
      have hb2 := bl1 wr (.cells #[.string xk, .int .i64 xt, .string xv] 68)
      have hX0 : (wr.alloc (.cells #[.string xk, .int .i64 xt, .string xv] 68)).cell? ⟨wr.heap.size, 0, none⟩ = some (.string xk) := by simp [go_sem]
      have hX1 : (wr.alloc (.cells #[.string xk, .int .i64 xt, .string xv] 68)).cell? ⟨wr.heap.size, 1, none⟩ = some (.int .i64 xt) := by simp [go_sem]
      have hX2 : (wr.alloc (.cells #[.string xk, .int .i64 xt, .string xv] 68)).cell? ⟨wr.heap.size, 2, none⟩ = some (.string xv) := by simp [go_sem]
      have hXl : wr.heap.size < (wr.alloc (.cells #[.string xk, .int .i64 xt, .string xv] 68)).heap.size := by simp
      have hO2 := own_below hO hb2
      have hB2 := hb.trans (hb2.mono hb.size)
      have hXw : w.heap.size ≤ wr.heap.size := hb.size
      have hNX : ∀ q', (Value.slice g q c).ownBlock = some q' → q' ≠ wr.heap.size := fun q' e => by have := (own_ge hO q' e).2; omega
      clear hb2 hO hb hx hSd HA
      go_wp2_with fail
      generalize wr.alloc (.cells #[.string xk, .int .i64 xt, .string xv] 68) = w2 at *
      generalize wr.heap.size = X at *
      clear c0 c1 c2
      go_loopw [4, 5] (fun v r wi => ∃ (m q : Nat) (g : Option Addr) (c : Nat) (ra : Option Addr) (rc : Nat) (R A : List RowV), v = .slice g q c ∧ r = .slice ra m rc ∧ m ≤ rc ∧ q + m = ni + k ∧ Hid (A.length = q) ∧ Hid (T = A ++ mergeR R (⟨xk, xt, xv⟩ :: S.drop (k + 1))) ∧ Hid (Rd w w.heap.size 3 ra m (flat R)) ∧ wi.ownsRow w.heap.size 68 3 (.slice g q c) q (flat A) ∧ Below w.heap.size w wi ∧ wi.cell? ⟨X, 0, none⟩ = some (.string xk) ∧ wi.cell? ⟨X, 1, none⟩ = some (.int .i64 xt) ∧ wi.cell? ⟨X, 2, none⟩ = some (.string xv) ∧ X < wi.heap.size ∧ Hid (∀ q', (Value.slice g q c).ownBlock = some q' → q' ≠ X)) (fun _ r _ => match r with | .slice _ n _ => n | _ => 0)
      case atStart => exact ⟨m, q, g, c, ra, rc, R, A, rfl, rfl, hmr, hqm, HQ, HA0, HR, hO2, hB2, hX0, hX1, hX2, hXl, Lib.hid hNX⟩
      case round =>
        clear hNX hX0 hX1 hX2 hXl hO2 hB2 HQ HA0 HR hmr hqm
        obtain ⟨m, q, g, c, ra, rc, R, A, rfl, rfl, hmr, hqm, HQ, HA, HR, hO, hb, hX0, hX1, hX2, hXl, HN⟩ := hrel
        by_cases hm0 : m = 0
        · subst hm0
          have hRn : R = [] := by
            have := HR.out.rows_length
            exact List.length_eq_zero_iff.1 this
          have HT2 := Lib.hid (show T = (A ++ [⟨xk, xt, xv⟩]) ++ mergeR R (S.drop (k + 1)) by rw [HA.out, hRn, mergeR_one, List.append_assoc]; rfl)
          clear hRn HA
          go_wp2_with fail
          go_quiet (fail)
          have hbw : Below wr.heap.size wr (wr.drewN nq) := below_drewN (Below.refl _ _) nq
          have hb3 := hb.trans (hbw.mono hb.size)
          have hO3 := own_below hO hbw
          have y0 := (hbw.cell (p := ⟨X, 0, none⟩) hXl).trans hX0
          have y1 := (hbw.cell (p := ⟨X, 1, none⟩) hXl).trans hX1
          have y2 := (hbw.cell (p := ⟨X, 2, none⟩) hXl).trans hX2
          have hXl3 := Nat.lt_of_lt_of_le hXl hbw.size
          clear hbw hb hO hX0 hX1 hX2 hXl
          generalize wr.drewN nq = w3 at *
          have hg8 : w.heap.size ≤ w3.heap.size := hb3.size
          have hq1 : q + 1 ≤ maxLen := by unfold maxLen; omega
          have hq2 : (q + 1) * 40 ≤ 140737488355328 := by omega
          go_wp2_with (at_builtin; refine wpList_append_own_at _ rfl _ _ 27 rfl w.heap.size 68 i0 (.agg #[.string ⟨#[]⟩, .int .i64 0, .string ⟨#[]⟩]) 3 40 Try.underlying27 hi hz0 hz1 hz2 rfl (by decide) (.slice g q c) _ _ rfl (hO3.alloc _) ⟨w3.heap.size, 0, none⟩ 1 1 [.string xk, .int .i64 xt, .string xv] rfl rfl (cell_rowM w3 ⟨xk, xt, xv⟩ _) (by simp [Value.oneCell']) hq1 hq2 (Nat.le_trans hg8 (bl1 w3 _).size) ?_; intro v' w4 hO4 hg4 _ hat; refine haltM_ ?_)
          refine unhaltM_ ?_
          obtain ⟨a', cap', rfl⟩ := own_slice' hO4
          have hb4 := below_grown1 hb3 hO3 hg4
          have hO5 : w4.ownsRow w.heap.size 68 3 (.slice a' (q + 1) cap') (q + 1) (flat (A ++ [⟨xk, xt, xv⟩])) := by rw [flat_snocM]; exact hO4
          have HQ2 := Lib.hid (show (A ++ [(⟨xk, xt, xv⟩ : RowV)]).length = q + 1 by rw [List.length_append, HQ.out]; rfl)
          clear hg4 hat hO3 hO4 hb3 y0 y1 y2 hXl3 HN HQ
          go_wp2_with fail
          go_roundw
          case rel => exact ⟨k + 1, 0, q + 1, a', cap', _, rc, R, A ++ [⟨xk, xt, xv⟩], by omega, by go_num, rfl, rfl, hmr, by omega, HQ2, HT2, HR, hO5, hb4⟩
          case measure => simp [intOf]; omega
        obtain ⟨r, R, rfl⟩ : ∃ r R', R = r :: R' := by
          have := HR.out.rows_length
          cases R with
          | nil => simp at this; omega
          | cons r R => exact ⟨r, R, rfl⟩
        obtain ⟨b2, o2, r', rfl, hB2, hr', d0, d1, d2⟩ := (HR.out.below hb (Nat.le_refl _)).row (show 0 < m by omega)
        obtain rfl : r = r' := by simpa using hr'
        clear hr'
        have hcl := (hb.cell (p := ⟨B, 0, none⟩) hBl).trans l0
        have hcle := cmpR_le r ⟨xk, xt, xv⟩
        have CM := fun w => compareRows_any r.key r.val r.tag xk xv xt w
        simp only [Nat.zero_mul, Nat.add_zero] at d0 d1 d2
        have d0' := fun d os => cell_regrown d0 d os
        have d1' := fun d os => cell_regrown d1 d os
        have d2' := fun d os => cell_regrown d2 d os
        have x0' := fun d os => cell_regrown hX0 d os
        have x1' := fun d os => cell_regrown hX1 d os
        have x2' := fun d os => cell_regrown hX2 d os
        have l0' := fun d os => cell_regrown hcl d os
        have hm1 : decide ((0 : Int) < (m : Int)) = true := decide_eq_true (by omega)
        have hm2 : decide (0 < m) = true := decide_eq_true (by omega)
        have hm3 : (0 : Int) < (m : Int) := by omega
        have hm4 : 0 < m := by omega
        unfold cmpR at hcle
        generalize or3 (cmpS r.key xk) (cmpI r.tag xt) (cmpS r.val xv) = z at CM hcle
        cases hq : (⟨xk, xt, xv⟩ : RowV).less r
        · rw [hq] at hcle
          have hcle' : decide (z ≤ 0) = true := hcle
          have HT2 := Lib.hid (show T = (A ++ [r]) ++ mergeR R (⟨xk, xt, xv⟩ :: S.drop (k + 1)) by rw [HA.out, mergeR_left _ _ hq, List.append_assoc]; rfl)
          obtain ⟨rk, rt, rv⟩ := r
          simp only at d0 d1 d2 d0' d1' d2' CM
          clear HA hcle hq
          go_wp2_with fail
          have cM := Lib.hid (fun d os => Calls.regrown_of (w := wr) (d := d) (os := os) (CM _))
          clear CM
          refine wp_region_wq (by kernel_rfl) (by kernel_rfl) ?_
          repeat (refine WQ.step (fun K hK => ?_); go_simp; first | (refine hK _ ?_; clear hK K) | (apply Exists.intro; refine ⟨fun _ => ?_, hK _ ?_⟩; (first | with_reducible exact cM.out _ _); clear hK K))
          refine WQ.nil ?_
          intro _ hw'
          obtain ⟨⟨dq, osq⟩, hw''⟩ := hw'
          subst hw''
          have hbw := below_regrown wr dq osq
          have hb3 := hb.trans (hbw.mono hb.size)
          have hO3 := own_below hO hbw
          have y0 := x0' dq osq
          have y1 := x1' dq osq
          have y2 := x2' dq osq
          have hXl3 := Nat.lt_of_lt_of_le hXl hbw.size
          have r0 := d0' dq osq
          have r1 := d1' dq osq
          have r2 := d2' dq osq
          clear d0' d1' d2' x0' x1' x2' l0' cM hbw hb hO hX0 hX1 hX2 hXl d0 d1 d2 hcl
          generalize Go.Sort.grow (redrawn wr dq) osq = w3 at *
          have hg8 : w.heap.size ≤ w3.heap.size := hb3.size
          have hq1 : q + 1 ≤ maxLen := by unfold maxLen; omega
          have hq2 : (q + 1) * 40 ≤ 140737488355328 := by omega
          go_wp2_with (at_builtin; refine wpList_append_own_at _ rfl _ _ 27 rfl w.heap.size 68 i0 (.agg #[.string ⟨#[]⟩, .int .i64 0, .string ⟨#[]⟩]) 3 40 Try.underlying27 hi hz0 hz1 hz2 rfl (by decide) (.slice g q c) _ _ rfl (hO3.alloc _) ⟨w3.heap.size, 0, none⟩ 1 1 [.string rk, .int .i64 rt, .string rv] rfl rfl (cell_rowM w3 ⟨rk, rt, rv⟩ _) (by simp [Value.oneCell']) hq1 hq2 (Nat.le_trans hg8 (bl1 w3 _).size) ?_; intro v' w4 hO4 hg4 _ hat; refine haltM_ ?_)
          refine unhaltM_ ?_
          obtain ⟨a', cap', rfl⟩ := own_slice' hO4
          have hb4 := below_grown1 hb3 hO3 hg4
          have hO5 : w4.ownsRow w.heap.size 68 3 (.slice a' (q + 1) cap') (q + 1) (flat (A ++ [⟨rk, rt, rv⟩])) := by rw [flat_snocM]; exact hO4
          have HQ2 := Lib.hid (show (A ++ [(⟨rk, rt, rv⟩ : RowV)]).length = q + 1 by rw [List.length_append, HQ.out]; rfl)
          have hne : some X ≠ (Value.slice g q c).ownBlock := fun e => HN.out X e.symm rfl
          have hY0 : w4.cell? ⟨X, 0, none⟩ = some (.string xk) := hg4.cell (a := ⟨X, 0, none⟩) (by rw [World.cell?_alloc_past _ _ _ hXl3]; exact y0) hne
          have hY1 : w4.cell? ⟨X, 1, none⟩ = some (.int .i64 xt) := hg4.cell (a := ⟨X, 1, none⟩) (by rw [World.cell?_alloc_past _ _ _ hXl3]; exact y1) hne
          have hY2 : w4.cell? ⟨X, 2, none⟩ = some (.string xv) := hg4.cell (a := ⟨X, 2, none⟩) (by rw [World.cell?_alloc_past _ _ _ hXl3]; exact y2) hne
          have hYl : X < w4.heap.size := Nat.lt_of_lt_of_le (by simp; omega) hg4.size
          have HN4 : Hid (∀ q', (Value.slice a' (q + 1) cap').ownBlock = some q' → q' ≠ X) := Lib.hid (by
            intro q' e
            rcases hat with h | h
            · exact HN.out q' (h ▸ e)
            · rw [h] at e
              have : w3.heap.size + 1 = q' := by simpa using e
              omega)
          have HR2 := Lib.hid (HR.out.from_ (k := 1) (by omega) hmr)
          clear hg4 hat hO3 hO4 hb3 y0 y1 y2 r0 r1 r2 hXl3 hne HN HQ
          go_wp2_with fail
          go_roundw
          case rel => exact ⟨m - 1, q + 1, a', cap', _, rc - 1, R, A ++ [⟨rk, rt, rv⟩], rfl, rfl, by omega, by omega, HQ2, HT2, HR2, hO5, hb4, hY0, hY1, hY2, hYl, HN4⟩
          case measure => simp; omega
        · rw [hq] at hcle
          have hcle' : decide (z ≤ 0) = false := hcle
          have HT2 := Lib.hid (show T = (A ++ [⟨xk, xt, xv⟩]) ++ mergeR (r :: R) (S.drop (k + 1)) by rw [HA.out, mergeR_right _ _ hq, List.append_assoc]; rfl)
          obtain ⟨rk, rt, rv⟩ := r
          simp only at d0 d1 d2 d0' d1' d2' CM
          clear HA hcle hq
          go_wp2_with fail
          have cM := Lib.hid (fun d os => Calls.regrown_of (w := wr) (d := d) (os := os) (CM _))
          clear CM
          refine wp_region_wq (by kernel_rfl) (by kernel_rfl) ?_
          repeat (refine WQ.step (fun K hK => ?_); go_simp; first | (refine hK _ ?_; clear hK K) | (apply Exists.intro; refine ⟨fun _ => ?_, hK _ ?_⟩; (first | with_reducible exact cM.out _ _); clear hK K))
          refine WQ.nil ?_
          intro _ hw'
          obtain ⟨⟨dq, osq⟩, hw''⟩ := hw'
          subst hw''
          have hbw := below_regrown wr dq osq
          have hb3 := hb.trans (hbw.mono hb.size)
          have hO3 := own_below hO hbw
          have y0 := x0' dq osq
          have y1 := x1' dq osq
          have y2 := x2' dq osq
          have hXl3 := Nat.lt_of_lt_of_le hXl hbw.size
          skip
          clear d0' d1' d2' x0' x1' x2' l0' cM hbw hb hO hX0 hX1 hX2 hXl d0 d1 d2 hcl
          generalize Go.Sort.grow (redrawn wr dq) osq = w3 at *
          have hg8 : w.heap.size ≤ w3.heap.size := hb3.size
          have hq1 : q + 1 ≤ maxLen := by unfold maxLen; omega
          have hq2 : (q + 1) * 40 ≤ 140737488355328 := by omega
          go_wp2_with (at_builtin; refine wpList_append_own_at _ rfl _ _ 27 rfl w.heap.size 68 i0 (.agg #[.string ⟨#[]⟩, .int .i64 0, .string ⟨#[]⟩]) 3 40 Try.underlying27 hi hz0 hz1 hz2 rfl (by decide) (.slice g q c) _ _ rfl (hO3.alloc _) ⟨w3.heap.size, 0, none⟩ 1 1 [.string xk, .int .i64 xt, .string xv] rfl rfl (cell_rowM w3 ⟨xk, xt, xv⟩ _) (by simp [Value.oneCell']) hq1 hq2 (Nat.le_trans hg8 (bl1 w3 _).size) ?_; intro v' w4 hO4 hg4 _ hat; refine haltM_ ?_)
          refine unhaltM_ ?_
          obtain ⟨a', cap', rfl⟩ := own_slice' hO4
          have hb4 := below_grown1 hb3 hO3 hg4
          have hO5 : w4.ownsRow w.heap.size 68 3 (.slice a' (q + 1) cap') (q + 1) (flat (A ++ [⟨xk, xt, xv⟩])) := by rw [flat_snocM]; exact hO4
          have HQ2 := Lib.hid (show (A ++ [(⟨xk, xt, xv⟩ : RowV)]).length = q + 1 by rw [List.length_append, HQ.out]; rfl)
          clear hg4 hat hO3 hO4 hb3 y0 y1 y2 hXl3 HN HQ
          go_wp2_with fail
          go_roundw
          case rel => exact ⟨k + 1, m, q + 1, a', cap', _, rc, (⟨rk, rt, rv⟩ :: R), A ++ [⟨xk, xt, xv⟩], by omega, by go_num, rfl, rfl, hmr, by omega, HQ2, HT2, HR, hO5, hb4⟩
          case measure => simp [intOf]; omega
    · obtain rfl : k = ns := by omega
      have HTE := Lib.hid (show T = A ++ R by rw [HA.out, List.drop_of_length_le (by rw [hSl.out]; exact Nat.le_refl _), mergeR_none])
      have hR2 := HR.out.below hb (Nat.le_refl _)
      have hL2 := HL.out.below hb hBl
      have hq1 : q + m ≤ maxLen := by unfold maxLen; omega
      have hq2 : (q + m) * 40 ≤ 140737488355328 := by omega
      go_wp2_with (at_builtin; refine wpList_append_rd rfl _ _ 27 rfl w.heap.size 68 i0 (.agg #[.string ⟨#[]⟩, .int .i64 0, .string ⟨#[]⟩]) 3 40 Try.underlying27 hi hz0 hz1 hz2 rfl (by decide) (.slice g q c) q (flat A) rfl hO ra w.heap.size m rc (flat R) rfl hR2 (flat_oneM _) hq1 hq2 hb.size ?_; intro v' w4 hO4 hg4 hat; refine haltM_ ?_)
      refine unhaltM_ ?_
      obtain ⟨a', cap', rfl⟩ := own_slice' hO4
      have hL4 : Sl w4 B (.slice ia ni ic) := hL2.grown hg4 (fun e => by have := (own_ge hO B e.symm).1; omega)
      have hb4 : Below w.heap.size w w4 := hb.grown hg4 hb.size (fun q' e => (own_ge hO q' e).1)
      obtain ⟨p0, p1⟩ := hL4.cells
      obtain ⟨f0, f1⟩ := hL4.frozen
      rw [← flat_append, ← HTE.out] at hO4
      have hO5 : (w4.setCell ⟨B, 1, none⟩ (.slice a' (q + m) cap')).ownsRow w.heap.size 68 3 (.slice a' (q + m) cap') (q + m) (flat T) := hO4.kept (gb_store (World.grownBy.refl w4 (some B)) 1 _) (by
        cases hv : (Value.slice a' (q + m) cap').ownBlock with
        | none => exact .inl rfl
        | some g' =>
          right
          intro he
          have h1 := (own_ge hO4 g' hv).1
          have h2 : g' = B := by simpa using he
          omega)
      have hL5 := hL4.put (.slice a' (q + m) cap')
      have hG5 : w.grownBy (w4.setCell ⟨B, 1, none⟩ (.slice a' (q + m) cap')) (some B) := gb_store (gb_of_below hb4 (some B)) 1 _
      rw [hqm] at hL5 hO5 hG5
      clear hL2 hL4 hO hO4 hg4 hat hb hb4 hR2 HR HA HL
      go_wp2_with fail
      rw [hqm]
      first | (refine bodyPost_ret (results_none rfl _ _ _) rfl ?_) | go_end0
      exact ⟨⟨_, rfl⟩, a', cap', hL5, hG5, hO5⟩
end Go.Proofs.Ytgdbpckobngmjaa


namespace Go.Proofs.Ytgdbpckobngmjaa
open Go.RowKit
theorem capM {w : World} {base e s n c : Nat} {a : Option Addr} {xs : List Value} (h : w.ownsRow base e s (.slice a n c) n xs) : n ≤ c := by
  cases a with
  | none =>
    rcases h.2 with ⟨h0, h1⟩ | ⟨g', c', cur, hv, _⟩
    · first | omega | (injection h0; omega)
    · injection hv with e1; cases e1
  | some x =>
    rcases h.2 with ⟨h0, _⟩ | ⟨g', c', cur, hv, _, _, hnc, _⟩
    · cases h0
    · injection hv with _ _ e3; rw [e3]; exact hnc
theorem take_runs {ps : List (List RowV)} {k : Nat} {r : List RowV} (h : ps[k]? = some r) : ps.take (k + 1) = ps.take k ++ [r] := by
  rw [List.take_add_one, h, Option.toList_some]
theorem flatten_take_leM (ps : List (List RowV)) (k : Nat) : (ps.take k).flatten.length ≤ ps.flatten.length := by
  have e : ps.flatten = (ps.take k).flatten ++ (ps.drop k).flatten := by rw [← List.flatten_append, List.take_append_drop]
  rw [e, List.length_append]; omega
set_option maxRecDepth 100000 in
set_option maxHeartbeats 2000000 in
theorem merged_any (a : Option Addr) (n cap : Nat) (ps : List (List RowV)) (w : World) (hn : n ≤ 1000) (hf : ps.flatten.length ≤ 1000) (hP : PRd w w.heap.size a n ps) :
    Calls Try.prog 82 #[.slice a n cap] w fun e w' => ∃ b c, e = .returned (.slice b (mergedL ps).length c) ∧ Below w.heap.size w w' ∧ w'.ownsRow w.heap.size 68 3 (.slice b (mergedL ps).length c) (mergedL ps).length (flat (mergedL ps)) := by
  have hpl := Lib.hid hP.len
  have hb0 := bl1 w (.cells #[.func (.func 73) #[] #[], .slice none 0 0] 100)
  have L0 := Sl.new w (.slice none 0 0) 100
  have HFL := Lib.hid (fun k => flatten_take_leM ps k)
  go_enter Try.func82, Try.ntmps82
  go_wp2_with fail
  generalize w.alloc (.cells #[.func (.func 73) #[] #[], .slice none 0 0] 100) = w0 at *
  go_loopw [9] (fun i wr => ∃ (k ni ic : Nat) (ia : Option Addr), k ≤ n ∧ i = .int .i64 k ∧ Sl wr w.heap.size (.slice ia ni ic) ∧ Hid ((mergedL (ps.take k)).length = ni) ∧ wr.ownsRow w.heap.size 68 3 (.slice ia ni ic) ni (flat (mergedL (ps.take k))) ∧ Below w.heap.size w wr) (fun i _ => n - (intOf i).toNat)
  case atStart => exact ⟨0, 0, 0, none, Nat.zero_le _, rfl, L0, Lib.hid rfl, World.ownsRow_nil _ _ _ _, hb0⟩
  case round =>
    obtain ⟨k, ni, ic, ia, hk, rfl, hL, HN, hO, hb⟩ := hrel
    clear L0 hb0
    by_cases hlt : k < n
    · obtain ⟨b3, o3, a3, c3, r3, rfl, hB3, hr3, d3, R3⟩ := ((hP.below hb (Nat.le_refl _)).more hb.size).at_ hlt
      have hT := take_runs hr3
      have hfl := HFL.out (k + 1)
      have hni : ni ≤ 1000 := by
        rw [← HN.out, mergedL_length]
        exact Nat.le_trans (HFL.out k) hf
      have hns : r3.length ≤ 1000 := by
        rw [hT, List.flatten_append, List.flatten_singleton, List.length_append] at hfl
        omega
      have HT := Lib.hid (show mergedL (ps.take (k + 1)) = mergeR (mergedL (ps.take k)) r3 by rw [hT, mergedL_snoc])
      have HN2 := Lib.hid (show (mergedL (ps.take (k + 1))).length = ni + r3.length by rw [HT.out, mergeR_length, HN.out])
      have hb1 := bl1 wr (.cells #[.slice a3 r3.length c3] 50)
      have hv0 : (wr.alloc (.cells #[.slice a3 r3.length c3] 50)).cell? ⟨wr.heap.size, 0, none⟩ = some (.slice a3 r3.length c3) := by simp [go_sem]
      have hL1 := hL.keep hb1
      have hO1 := own_below hO hb1
      have hB1 := hb.trans (hb1.mono hb.size)
      have R1 := (R3.below hb1 (Nat.le_refl _)).more hb1.size
      have hic := capM hO
      have CM := merge_any w.heap.size ia ni ic (mergedL (ps.take k)) a3 r3.length c3 r3 _ hni hns hic hL1 (Rd.of_own hO1) R1
      clear hr3 hT hfl hL hO hb hb1 R3
      go_wp2_with fail
      generalize wr.alloc (.cells #[.slice a3 r3.length c3] 50) = w2 at *
      refine CM.mono ?_
      rintro e w3 ⟨⟨v, rfl⟩, a', c', hL3, hG3, hO3⟩
      have hB3 := hB1.trans (gb_below hG3 hB1.size (fun g e => Nat.le_of_eq (Option.some.inj e)))
      have hO4 := own_base' hO3 hB1.size
      rw [← HT.out] at hO4
      clear CM hL1 hO1 hB1 R1 hG3 hO3 d3 hv0
      go_wp2_with fail
      go_roundw
      case rel => exact ⟨k + 1, ni + r3.length, c', a', by omega, by go_num, hL3, HN2, hO4, hB3⟩
      case measure => simp [intOf]; omega
    · obtain rfl : k = n := by omega
      have hT : ps.take k = ps := List.take_of_length_le (by rw [hpl.out]; exact Nat.le_refl _)
      rw [hT] at HN hO
      obtain ⟨p0, p1⟩ := hL.cells
      clear hT hL
      go_wp2_with fail
      go_ret
      exact ⟨ia, ic, by rw [HN.out]; rfl, hb, by rw [HN.out]; exact hO⟩
set_option maxRecDepth 100000 in
set_option maxHeartbeats 1000000 in
theorem implMergedRuns_any (a : Option Addr) (n cap : Nat) (ps : List (List RowV)) (w : World) (hn : n ≤ 1048576) (hr : rowsIn ps ≤ 1048576) (hok : ∀ rs ∈ ps, rs.length ≤ maxLen ∧ ∀ r ∈ rs, r.Ok) (hP : PRd w w.heap.size a n ps) :
    Calls Try.prog 27 #[.slice a n cap] w fun e w' => ∃ b c, e = .returned (.tuple #[.slice b (mergedRunsS ps).length c, .bool (mergedRunsB ps)]) ∧ Below w.heap.size w w' ∧ w'.ownsRow w.heap.size 68 3 (.slice b (mergedRunsS ps).length c) (mergedRunsS ps).length (flat (mergedRunsS ps)) := by
  rw [rowsIn_flatten] at hr
  have hok2 : ∀ rs ∈ ps, ∀ r ∈ rs, r.Ok := fun rs h => (hok rs h).2
  have hpl := hP.len
  cases hq : runsB ps
  · have E1 : mergedRunsS ps = [] := by unfold mergedRunsS; rw [hq]; rfl
    have E2 : mergedRunsB ps = false := hq
    rw [E1, E2]
    have HC := Lib.hid (runsOk_any a n cap ps w hn hr hok2 hP)
    rw [hq] at HC
    clear E1 E2 hq
    go_enter Try.func27, Try.ntmps27
    go_wp2_with fail
    refine HC.out.mono ?_
    rintro e w1 ⟨rfl, hb⟩
    go_wp2_with fail
    go_ret2
    exact ⟨none, 0, rfl, hb, World.ownsRow_nil _ _ _ _⟩
  · have E1 : mergedRunsS ps = mergedL ps := by unfold mergedRunsS; rw [hq, mergedL_runs hq]; rfl
    have E2 : mergedRunsB ps = true := hq
    have hlim : n ≤ 1000 ∧ ps.flatten.length ≤ 1000 := by
      simp only [runsB, Bool.and_eq_true, decide_eq_true_eq] at hq
      omega
    obtain ⟨hl1, hl2⟩ := hlim
    rw [E1, E2]
    have HC := Lib.hid (runsOk_any a n cap ps w hn hr hok2 hP)
    rw [hq] at HC
    clear E1 E2 hq
    have CM := fun w1 h => merged_any a n cap ps w1 hl1 hl2 h
    generalize mergedL ps = T at *
    go_enter Try.func27, Try.ntmps27
    go_wp2_with fail
    refine HC.out.mono ?_
    rintro e w1 ⟨rfl, hb⟩
    have P1 := (hP.below hb (Nat.le_refl _)).more hb.size
    go_wp2_with fail
    refine (CM w1 P1).mono ?_
    rintro e w2 ⟨b, c, rfl, hb2, hO⟩
    have B2 := hb.trans (hb2.mono hb.size)
    have hO2 := own_base' hO hb.size
    clear hO hb hb2 P1 CM
    go_wp2_with fail
    go_ret2
    exact ⟨b, c, rfl, B2, hO2⟩
end Go.Proofs.Ytgdbpckobngmjaa

namespace Go.Proofs.Ytgdbpckobngmjaa
open Go.RowKit
theorem runsF_mem (N : Nat) : ∀ (f : Nat) (l : List RowV), ∀ S ∈ runsF N f l, ∀ r ∈ S, r ∈ l
  | 0, _ => fun S h => by cases h
  | f + 1, l => by
    rw [runsF]
    split
    · intro S h; cases h
    · intro S h r hr
      rcases List.mem_cons.1 h with rfl | h
      · exact List.mem_of_mem_take ((sortL_perm' _).mem_iff.1 hr)
      · exact List.mem_of_mem_drop (runsF_mem N f _ S h r hr)
theorem runsOfS_facts {rs : List RowV} {N : Int} (hok : ∀ r ∈ rs, r.Ok) : (runsOfS rs N).length ≤ rs.length ∧ rowsIn (runsOfS rs N) ≤ rs.length ∧ ∀ S ∈ runsOfS rs N, ∀ r ∈ S, r.Ok := by
  unfold runsOfS
  split
  · exact ⟨runsL_le _ _, runsF_rows _ _ _, fun S hS r hr => hok r (runsF_mem _ _ _ S hS r hr)⟩
  · exact ⟨Nat.zero_le _, Nat.zero_le _, fun S hS => by cases hS⟩
theorem POwn.drewn {w w' : World} {lo n c g m : Nat} {a : Option Addr} {vs : List Value} {ps : List (List RowV)} (h : POwn w lo a n c vs ps) (hD : Drew w w' g m) (hg : g < lo) : POwn w' lo a n c vs ps :=
  ⟨hD.own h.outer hg, ⟨h.fam.len, fun i v rs hv hr => hD.own (h.fam.own i v rs hv hr) hg, h.fam.sep⟩, h.out⟩
theorem ps_len {ps : List (List RowV)} (h : rowsIn ps ≤ 13) : ∀ S ∈ ps, S.length ≤ 13 := fun S hS => by
  rw [rowsIn_flatten] at h
  have := List.Sublist.length_le (List.sublist_flatten_of_mem hS)
  omega
def zeroR : RowV := ⟨⟨#[]⟩, 0, ⟨#[]⟩⟩
set_option maxRecDepth 100000 in
set_option maxHeartbeats 4000000 in
theorem runs_any (g n : Nat) (w : World) (h : Rdr w g n) :
    Calls Try.prog 87 #[.pointer (some ⟨g, 0, none⟩)] w fun e w' => ∃ (ps : List (List RowV)) (b : Option Addr) (c : Nat) (vs : List Value), ps.length ≤ 12 ∧ ps.length ≤ c ∧ rowsIn ps ≤ 13 ∧ (∀ S ∈ ps, ∀ r ∈ S, r.Ok) ∧ e = .returned (.slice b ps.length c) ∧ POwn w' w.heap.size b ps.length c vs ps ∧ Drew w w' g n := by
  obtain ⟨i0, hi, hz0, hz1, hz2⟩ := info_parts infoRow
  have hlt := h.lt
  go_enter Try.func87, Try.ntmps87
  go_wp2_with fail
  refine (rows_lit g n 12 _ _ h (by omega) (by omega) (by omega)).mono ?_
  rintro e w1 ⟨rs, rb, rc, hll, hok, rfl, hO, hD⟩
  go_wp2_with fail
  refine (below_lit g n 4 _ _ hD.rdr (by omega) (by omega) (by omega)).mono ?_
  rintro e w2 ⟨t, ht, rfl, hD2⟩
  have O2 := hD2.own hO hlt
  have hDa := hD.trans hD2
  have hlt2 := hDa.rdr.lt
  have s2 := hDa.size
  have hcap := own_cap O2
  have hw1 : IntKind.i64.wrap (1 + (t : Int)) = 1 + (t : Int) := IntWalk.i64_in _ (by omega)
  have CR := specRunsOf_any (some ⟨rb, 0, none⟩) rs.length rc rs (1 + (t : Int)) w2 (by omega) hcap hok (Rd.of_own O2)
  unfold RunsOut at CR
  obtain ⟨f1, f2, f3⟩ := runsOfS_facts (N := 1 + (t : Int)) hok
  have f1' : (runsOfS rs (1 + (t : Int))).length ≤ 12 := by omega
  have f2' : rowsIn (runsOfS rs (1 + (t : Int))) ≤ 12 := by omega
  clear hO hD hD2 f1 f2
  generalize runsOfS rs (1 + (t : Int)) = ps at *
  go_wp2_with fail
  refine CR.mono ?_
  rintro e w3 ⟨b3, c3, vs, rfl, hb3, P3⟩
  have hD3 := hDa.and hb3
  clear CR O2 hDa
  go_wp2_with fail
  refine (once_lit g n 20 _ _ hD3.rdr (by omega) (by omega) (by omega)).mono ?_
  rintro e w4 ⟨q, rfl, hD4⟩
  have P4 := P3.drewn hD4 hlt2
  have hDb := hD3.trans hD4
  have s4 := hDb.size
  have hcp := capM P4.outer
  clear P3 hD3 hD4
  cases q
  · have P5 : POwn w4 w.heap.size b3 ps.length c3 vs ps := ⟨own_base' P4.outer s2, P4.fam.base s2, P4.out⟩
    go_wp2_with fail
    go_ret
    exact ⟨ps, b3, c3, vs, f1', hcp, by omega, f3, rfl, P5, hDb⟩
  by_cases h0 : ps.length = 0
  · obtain rfl : ps = [] := List.length_eq_zero_iff.1 h0
    have P5 : POwn w4 w.heap.size b3 ([] : List (List RowV)).length c3 vs [] := ⟨own_base' P4.outer s2, P4.fam.base s2, P4.out⟩
    clear P4 h0
    go_wp2_with fail
    go_ret
    exact ⟨[], b3, c3, vs, Nat.zero_le _, Nat.zero_le _, Nat.zero_le _, (fun S hS => by cases hS), rfl, P5, hDb⟩
  have hpos : 0 < ps.length := by omega
  obtain ⟨m, hm⟩ : ∃ m, ps.length = m := ⟨_, rfl⟩
  have Hm := Lib.hid hm
  obtain ⟨gg, rfl⟩ : ∃ gg, b3 = some ⟨gg, 0, none⟩ := by
    have h := P4.outer.2
    generalize ps.length = m at h hpos
    cases b3 with
    | none =>
      rcases h with ⟨h1, h2⟩ | ⟨g', c', cur, e, _⟩
      · first | omega | (injection h1; omega)
      · injection e with e1; cases e1
    | some x =>
      rcases h with ⟨h1, _⟩ | ⟨g', c', cur, e, _⟩
      · cases h1
      · injection e with e1
        exact ⟨g', e1⟩
  obtain ⟨va, vc, l, hv1, hv2, hv3⟩ := P4.fam.at_ (i := 0) hpos
  rw [hm] at P4 hpos f1' hcp h0 ⊢
  have d0 : w4.cell? ⟨gg, 0, none⟩ = some (.slice va l.length vc) := by
    have := P4.outer.cellAt 0 (by omega)
    rw [this]; exact hv1
  have fz0 := P4.outer.frozenAt 0
  have hl12 : l.length ≤ 12 := by
    rw [rowsIn_flatten] at f2'
    have := List.Sublist.length_le (List.sublist_flatten_of_mem (List.mem_of_getElem? hv2))
    omega
  have PA := P4.below (bl1 w4 (.cells #[.string ⟨#[]⟩, .int .i64 0, .string ⟨#[]⟩] 68))
  have VA := own_below hv3 (bl1 w4 (.cells #[.string ⟨#[]⟩, .int .i64 0, .string ⟨#[]⟩] 68))
  have hnew := row_new w4 zeroR 68
  have hrone := row_one zeroR
  have hlm : l.length + 1 ≤ maxLen := by unfold maxLen; omega
  have hlb : (l.length + 1) * 40 ≤ 140737488355328 := by omega
  have hDc := hDb.alloc (.cells #[.string ⟨#[]⟩, .int .i64 0, .string ⟨#[]⟩] 68)
  have hsz : w2.heap.size ≤ (w4.alloc (.cells #[.string ⟨#[]⟩, .int .i64 0, .string ⟨#[]⟩] 68)).heap.size := by have := hb3.size; have := (own_ge P4.outer gg rfl); simp; omega
  have hgg := (own_ge P4.outer gg rfl).1
  go_wp2_with (at_builtin; refine wpList_append_own_at _ rfl _ _ 27 rfl w2.heap.size 68 i0 (.agg #[.string ⟨#[]⟩, .int .i64 0, .string ⟨#[]⟩]) 3 40 Try.underlying27 hi hz0 hz1 hz2 rfl (by decide) (.slice va l.length vc) l.length (flat l) rfl VA ⟨w4.heap.size, 0, none⟩ 1 1 [.string ⟨#[]⟩, .int .i64 0, .string ⟨#[]⟩] rfl rfl hnew hrone hlm hlb hsz ?_; intro v' w5 hO5 hg5 _ hat; refine haltR_ ?_)
  refine unhaltR_ ?_
  obtain ⟨a5, c5, rfl⟩ := own_slice' hO5
  have hPo := own_other PA.outer hg5 (fun g h1 h2 => PA.out _ (List.mem_of_getElem? hv1) g h2 h1)
  obtain ⟨u0, e0⟩ := own_cell hPo (j := 0) (by omega)
  have fz1 := hPo.frozenAt 0
  have hO5' : w5.ownsRow w2.heap.size 68 3 (.slice a5 (l.length + 1) c5) (l ++ [zeroR]).length (flat (l ++ [zeroR])) := by
    rw [flat_append]; simpa [flat, RowV.cells, zeroR] using hO5
  have P6 := PA.put hv1 hg5 hO5' (by simpa using hat)
  have hD5 := (hDc.grown hlt hg5 (fun q e => by have := (own_ge VA q e).1; omega)).set (b := gg) (o := 0) hlt (by omega) (.slice a5 (l.length + 1) c5)
  have P7 : POwn (w5.setCell ⟨gg, 0, none⟩ (.slice a5 (l.length + 1) c5)) w.heap.size (some ⟨gg, 0, none⟩) m c3 _ (ps.set 0 (l ++ [zeroR])) := ⟨own_base' P6.outer s2, P6.fam.base s2, P6.out⟩
  have hrs := rowsIn_set (b := l ++ [zeroR]) hv2
  rw [List.length_append, List.length_singleton] at hrs
  have hr13 : rowsIn (ps.set 0 (l ++ [zeroR])) ≤ 13 := by omega
  have hok7 : ∀ S ∈ ps.set 0 (l ++ [zeroR]), ∀ r ∈ S, r.Ok := fun S hS r hr => by
    rcases List.mem_or_eq_of_mem_set hS with hS | rfl
    · exact f3 S hS r hr
    · rcases List.mem_append.1 hr with hr | hr
      · exact f3 l (List.mem_of_getElem? hv2) r hr
      · rw [List.mem_singleton.1 hr]
        exact ⟨by show (0 : Nat) ≤ maxLen; omega, by decide, by show (0 : Nat) ≤ maxLen; omega⟩
  have hlen7 : (ps.set 0 (l ++ [zeroR])).length = m := by rw [List.length_set, hm]
  clear hO5 hg5 hat hPo hO5' P6 PA VA P4 d0 fz0 hDc hDb
  go_wp2_with fail
  go_ret
  exact ⟨ps.set 0 (l ++ [zeroR]), some ⟨gg, 0, none⟩, c3, _, by omega, by omega, hr13, hok7, (by rw [hlen7]; rfl), (by rw [hlen7]; exact P7), hD5⟩
set_option maxRecDepth 100000 in
set_option maxHeartbeats 1000000 in
theorem drawRunsOf_any (a : Option Addr) (len cap : Nat) (w : World) (hl : len ≤ 1048576) (h : IsBy w w.heap.size a len) :
    Calls Try.prog 32 #[.slice a len cap] w fun e w' => ∃ (l : List RowV) (b c : Nat) (z : Int), l.length ≤ 12 ∧ (∀ r ∈ l, r.Ok) ∧ l.length ≤ c ∧
      e = .returned (.tuple #[.slice (some ⟨b, 0, none⟩) l.length c, .int .i64 z]) ∧ w'.ownsRow w.heap.size 68 3 (.slice (some ⟨b, 0, none⟩) l.length c) l.length (flat l) ∧ Below w.heap.size w w' := by
  go_enter Try.func32, Try.ntmps32
  go_wp2_with fail
  refine (l1Open_any a len cap w hl h).mono ?_
  rintro e w1 ⟨rfl, hR1, hb1⟩
  have hlt := hR1.lt
  go_wp2_with fail
  refine (rows_lit w.heap.size len 12 _ _ hR1 (by omega) (by omega) (by omega)).mono ?_
  rintro e w2 ⟨l, b, c, hll, hok, rfl, hO, hD⟩
  have hlt2 := hD.rdr.lt
  have hcp := own_cap hO
  go_wp2_with fail
  refine (off_any w.heap.size len 1 5 _ hD.rdr (by omega) (by omega) (by omega)).mono ?_
  rintro e w3 ⟨z, hz0, hz1, rfl, hD2⟩
  have O3 := hD2.own hO hlt
  have hb3 := below_drew hb1 (hD.trans hD2)
  have hws1 : w.heap.size ≤ w1.heap.size := hb1.size
  clear hO hD hD2
  go_wp2_with fail
  refine bodyPost_ret (v := .tuple #[.slice (some ⟨b, 0, none⟩) l.length c, .int .i64 z]) ?_ rfl ⟨l, b, c, z, hll, hok, hcp, rfl, own_base' O3 hws1, hb3⟩
  simp [results, Try.results32, go_sem]
def RunsIn (ps : List (List RowV)) : Prop := ps.length ≤ 12 ∧ rowsIn ps ≤ 13 ∧ ∀ S ∈ ps, ∀ r ∈ S, r.Ok
theorem RunsIn.args {ps : List (List RowV)} (h : RunsIn ps) : ps.length ≤ 1048576 ∧ rowsIn ps ≤ 1048576 ∧ ∀ S ∈ ps, S.length ≤ maxLen ∧ ∀ r ∈ S, r.Ok := by
  obtain ⟨h1, h2, h3⟩ := h
  refine ⟨by omega, by omega, fun S hS => ⟨?_, h3 S hS⟩⟩
  have := ps_len h2 S hS
  unfold maxLen; omega
set_option maxRecDepth 100000 in
set_option maxHeartbeats 1000000 in
theorem drawMergedRuns_any (a : Option Addr) (len cap : Nat) (w : World) (hl : len ≤ 1048576) (h : IsBy w w.heap.size a len) :
    Calls Try.prog 33 #[.slice a len cap] w fun e w' => ∃ (ps : List (List RowV)) (b : Option Addr) (c : Nat), RunsIn ps ∧ ps.length ≤ c ∧
      e = .returned (.slice b ps.length c) ∧ PRd w' w'.heap.size b ps.length ps ∧ Below w.heap.size w w' := by
  go_enter Try.func33, Try.ntmps33
  go_wp2_with fail
  refine (l1Open_any a len cap w hl h).mono ?_
  rintro e w1 ⟨rfl, hR1, hb1⟩
  go_wp2_with fail
  refine (runs_any w.heap.size len _ hR1).mono ?_
  rintro e w2 ⟨ps, b, c, vs, h1, h2, h3, h4, rfl, P, hD⟩
  have hb3 := below_drew hb1 hD
  have R := P.rd
  clear P hD
  go_wp2_with fail
  go_ret
  exact ⟨ps, b, c, ⟨h1, h3, h4⟩, h2, rfl, R, hb3⟩
set_option maxRecDepth 100000 in
set_option maxHeartbeats 1000000 in
theorem drawFewerRuns_any (a : Option Addr) (len cap : Nat) (w : World) (hl : len ≤ 1048576) (h : IsBy w w.heap.size a len) :
    Calls Try.prog 38 #[.slice a len cap] w fun e w' => ∃ (ps : List (List RowV)) (b : Option Addr) (c : Nat) (z : Int), RunsIn ps ∧ ps.length ≤ c ∧ -9223372036854775808 ≤ z ∧ z ≤ 9223372036854775807 ∧
      e = .returned (.tuple #[.slice b ps.length c, .int .i64 z]) ∧ PRd w' w'.heap.size b ps.length ps ∧ Below w.heap.size w w' := by
  go_enter Try.func38, Try.ntmps38
  go_wp2_with fail
  refine (l1Open_any a len cap w hl h).mono ?_
  rintro e w1 ⟨rfl, hR1, hb1⟩
  have hlt := hR1.lt
  go_wp2_with fail
  refine (runs_any w.heap.size len _ hR1).mono ?_
  rintro e w2 ⟨ps, b, c, vs, h1, h2, h3, h4, rfl, P, hD⟩
  go_wp2_with fail
  refine (off_any w.heap.size len 2 4 _ hD.rdr (by omega) (by omega) (by omega)).mono ?_
  rintro e w3 ⟨z, hz0, hz1, rfl, hD2⟩
  have R := (P.drewn hD2 hlt).rd
  have hb3 := below_drew hb1 (hD.trans hD2)
  clear P hD hD2
  go_wp2_with fail
  refine bodyPost_ret (v := .tuple #[.slice b ps.length c, .int .i64 z]) ?_ rfl ⟨ps, b, c, z, ⟨h1, h3, h4⟩, h2, hz0, hz1, rfl, R, hb3⟩
  simp [results, Try.results38, go_sem]
end Go.Proofs.Ytgdbpckobngmjaa

namespace Go.Proofs.Ytgdbpckobngmjaa
open Go.RowKit Go.Shelf
attribute [local go_sem] Oper.semAt_some
theorem few_chunksF (N : Nat) : ∀ (f : Nat) (l : List (List RowV)), (∀ S ∈ l, Asc RowV.less S) → fewF N f l = (chunkPF N f l).map mergedL
  | 0, _, _ => rfl
  | f + 1, l, h => by
    rw [fewF, chunkPF]
    split
    · rfl
    · rw [List.map_cons, few_chunksF N f _ (fun S hS => h S (List.mem_of_mem_drop hS)), mergedL_sorted (fun S hS => h S (List.mem_of_mem_take hS))]
theorem runsB_asc {ps : List (List RowV)} (h : runsB ps = true) : ∀ S ∈ ps, Asc RowV.less S := by
  intro S hS
  unfold runsB at h
  rw [Bool.and_eq_true] at h
  have := List.all_eq_true.1 h.2 S hS
  unfold sortedOk at this
  rw [Bool.and_eq_true] at this
  exact adjOk_asc this.2
theorem few_chunks (N : Nat) {l : List (List RowV)} (h : runsB l = true) : fewL N l = (chunkPL N l).map mergedL := few_chunksF N _ _ (runsB_asc h)
theorem cpOf_snoc {w : World} {B : Nat} (l : List (CpIn w B)) (x : CpIn w B) : (cpOf (l ++ [x])).map mergedL = (cpOf l).map mergedL ++ [mergedL x.1.ps] := by
  unfold cpOf
  simp
set_option maxRecDepth 100000 in
set_option maxHeartbeats 4000000 in
theorem implFewerRuns_yes (a : Option Addr) (n cap M : Nat) (ps : List (List RowV)) (w : World) (hm : n ≤ 1048576) (hr : ps.flatten.length ≤ 1048576) (hnc : n ≤ cap) (hok : ∀ rs ∈ ps, ∀ r ∈ rs, r.Ok) (hR : PRd w w.heap.size a n ps) (hs : runsB ps = true) (hM1 : 2 ≤ M) (hM2 : M ≤ 10) :
    Calls Try.prog 30 #[.slice a n cap, .int .i64 M] w fun e w' => ∃ b c vs, e = .returned (.tuple #[.slice b (fewL M ps).length c, .bool true]) ∧ Below w.heap.size w w' ∧ POwn w' w.heap.size b (fewL M ps).length c vs (fewL M ps) := by
  obtain ⟨i0, hi, hz0, hz1, hz2⟩ := info_parts infoPart
  have C0 := runsOk_any a n cap ps w hm hr hok hR
  rw [hs] at C0
  have HRL := Lib.hid hR.len
  have hM0 : 1 ≤ M := by omega
  have hlim : n ≤ 120 ∧ ps.flatten.length ≤ 120 := by
    have h := hs
    simp only [runsB, Bool.and_eq_true, decide_eq_true_eq] at h
    have := HRL.out
    omega
  obtain ⟨hn120, hf120⟩ := hlim
  have CC := fun w => chunkP_any a n cap M w hM0 (by omega)
  have hd1 : decide ((M : Int) < 2) = false := by simp; omega
  have hd2 : decide (10 < (M : Int)) = false := by simp; omega
  have hd3 : ¬ M < 2 := by omega
  have hd4 : ¬ 10 < M := by omega
  rw [few_chunks M hs]
  clear hok hs
  refine (callsIn_wide (n := 5)).1 ?_
  refine callsIn_of_wp_marks Try.func30 rfl trivial ?_ rfl
  simp only [Try.ntmps30, List.size_toArray, List.length_cons, List.length_nil, Nat.reduceAdd, Nat.reduceSub, Array.replicate_succ, Array.replicate_zero, List.push_toArray, List.append_toArray, List.nil_append, List.cons_append]
  gi_wp2_with fail
  refine ⟨trivial, ?_⟩
  refine (callsIn_wide.2 C0).mono ?_
  rintro e w1 ⟨rfl, hb1⟩
  have bF := Boxed.new w1 24 (.slice none 0 0)
  have bF2 := bl1 w1 (.cells #[.slice none 0 0] 24)
  have hR1 := hR.below hb1 (Nat.le_refl _)
  clear C0
  gi_wp2_with fail
  refine ⟨trivial, ?_⟩
  refine (callsIn_wide.2 (CC _)).mono ?_
  rintro e w2 ⟨rfl, rfl⟩
  gi_wp2_with fail
  have hW1 := (bF2.alloc (by have := bF2.size; omega) (.cells #[.slice a n cap] 24)).alloc (by simp; omega) (.cells #[.int .i64 M] 3)
  have bF3 := (bF.alloc (.cells #[.slice a n cap] 24)).alloc (.cells #[.int .i64 M] 3)
  have bS := (Boxed.new (w1.alloc (.cells #[.slice none 0 0] 24)) 24 (.slice a n cap)).alloc (.cells #[.int .i64 M] 3)
  have bN := Boxed.new ((w1.alloc (.cells #[.slice none 0 0] 24)).alloc (.cells #[.slice a n cap] 24)) 3 (.int .i64 M)
  rw [World.size_alloc] at bS
  rw [World.size_alloc, World.size_alloc] at bN
  have hR0 := hR1.below (hW1.mono hb1.size) (Nat.le_refl _)
  have hW0 := hb1.trans (hW1.mono hb1.size)
  generalize hWe : (((w1.alloc (.cells #[.slice none 0 0] 24)).alloc (.cells #[.slice a n cap] 24)).alloc (.cells #[.int .i64 M] 3)) = W0 at *
  have hsz : w.heap.size ≤ W0.heap.size := hW0.size
  have hl1 : w1.heap.size < W0.heap.size := bF3.lt
  have hl2 : w.heap.size ≤ w1.heap.size := hb1.size
  clear hWe hd1 hd2 hd3 hd4
  refine wpIn_rangeFunc_ownF rfl (by omega) (gf := 122) (lb := #[.pointer (some ⟨w1.heap.size + 1, 0, none⟩), .pointer (some ⟨w1.heap.size + 1 + 1, 0, none⟩)]) rfl trivial (enters_of Try.func122 (by kernel_rfl) rfl)
    (chunkP_stops _ (w1.heap.size + 1) (w1.heap.size + 1 + 1) w.heap.size M a n cap ps hM0 (by omega) (by omega) (by omega) hnc W0 bS.cell bS.lt bN.cell bN.lt hR0) keepTwo_t (keepTwo_b hsz bS.lt bN.lt) (Below.refl _ _) (fun _ => rfl)
    (fun (pre : List (CpIn W0 w.heap.size)) W => BoxParts w1.heap.size w.heap.size W ((cpOf pre).map mergedL) ∧ KeepTwo w.heap.size (w1.heap.size + 1) (w1.heap.size + 1 + 1) W0 W)
    (fun _ _ _ => False)
    (OwnFrom.and (Own.from (boxParts_own _ _ _) _) ?keepown)
    (fun _ _ _ _ _ hs _ _ => hs)
    ⟨⟨_, _, [], bF3, World.ownsRow_nil _ _ _ _, Fam.nil _ _, fun v hv => by cases hv⟩, KeepTwo.refl _ _ _ _⟩
    (fun x => { tmps := #[.slice a n cap, .int .i64 M, undef, undef, .slice none 0 0, .bool false, .pointer (some ⟨w1.heap.size, 0, none⟩), .slice x.1.a x.1.n x.1.n, .slice a n cap, .bool true, .bool false, .bool false, .int .i64 M, .bool false, .bool false, .bool false, .int .i64 M, .bool false, .bool false, .slice a n cap, .int .i64 M, .func (.func 122) #[] #[.pointer (some ⟨w1.heap.size + 1, 0, none⟩), .pointer (some ⟨w1.heap.size + 1 + 1, 0, none⟩)], .slice x.1.a x.1.n x.1.n, undef, undef, undef, undef, undef, undef, undef], defers := [] })
    ?assign ?body ?done ?stop
  case keepown =>
    rintro s X Y row h hg hr
    have hk : ∀ k, some k = row → W0.heap.size ≤ k := fun k e => (hr k e.symm).1
    refine ⟨h.1.grown hg (Nat.le_trans hsz h.1.size) (fun k e => Nat.le_trans hsz (hk k e.symm)), ?_, ?_⟩
    · refine (hg.block _ (Nat.lt_of_lt_of_le bS.lt h.1.size) (fun e => ?_)).trans h.2.1
      have h1 : W0.heap.size ≤ w1.heap.size + 1 := hk _ e
      have h2 := bS.lt
      omega
    · refine (hg.block _ (Nat.lt_of_lt_of_le bN.lt h.1.size) (fun e => ?_)).trans h.2.2
      have h1 : W0.heap.size ≤ w1.heap.size + 1 + 1 := hk _ e
      have h2 := bN.lt
      omega
  case assign =>
    intro l x W K hK
    simp only [cpV] at *
    gi_wp2_with fail
    exact hK
  case body =>
    rintro l pre x W ⟨⟨b, c, vs, hv, hP⟩, hB⟩ hlt
    have hEq0 := cpOf_snoc pre x
    have hxR := x.2.1
    have hxm := x.2.2.1
    obtain ⟨⟨xa, xn, rows⟩, hxp⟩ := x
    dsimp only at hxR hxm hEq0 ⊢
    have hc := hv.cell
    have hpl : pre.length ≤ 120 := by have := HRL.out; omega
    have hDl : ((cpOf pre).map mergedL).length ≤ 120 := by rw [show ((cpOf pre).map mergedL).length = pre.length by simp [cpOf]]; exact hpl
    have hsW : w.heap.size ≤ W.heap.size := Nat.le_trans hsz hB.1.size
    generalize (cpOf pre).map mergedL = D at *
    have HEQ := Lib.hid hEq0
    clear hEq0
    have RX : PRd W.drew W.drew.heap.size xa xn rows := (hxR.below hB.1 (Nat.le_refl _)).more hsW
    have bS1 : Boxed W (w1.heap.size + 1) 24 (.slice a n cap) := hB.2.1.trans bS
    have bN1 : Boxed W (w1.heap.size + 1 + 1) 3 (.int .i64 M) := hB.2.2.trans bN
    refine wpIn_block ?_
    refine wpIn_region_round (by kernel_rfl) (by rfl) (by rintro ⟨a, w, h⟩; exact h) ?_
    refine wpAny_take (i := 1) (v := .slice xa xn xn) rfl (by kernel_rfl) (by kernel_rfl) (by kernel_rfl) (fun _ _ _ h => h) (Or.inl ⟨by rfl, fun w => by go_simp⟩) ?_
    refine wpAny_ready (rs := [0, 2]) (by kernel_rfl) (by simp) ?_
    refine AllReady.cons rfl (fun K hK => ?_) ?_
    · go_simp
      refine hK _ _ ?_
      clear hK K
      refine wpAny_ready (rs := [2]) (by kernel_rfl) (by simp) ?_
      refine AllReady.cons rfl (fun K hK => ?_) AllReady.nil
      go_simp
      refine (merged_any xa xn xn rows W.drew hxm.1 hxm.2 RX).mono ?_
      rintro e w2 ⟨b2, c2, rfl, hb2, hO2'⟩
      refine hK _ _ ?_
      clear hK K
      refine wpAny_take (i := 3) (v := .agg #[.slice b2 (mergedL rows).length c2]) rfl (by kernel_rfl) (by kernel_rfl) (by kernel_rfl) (fun _ _ _ h => h) (Or.inl ⟨by rfl, fun w => by go_simp⟩) ?_
      have hb2' : Below W.heap.size W w2 := (Below.refl W.heap.size W).drew.trans hb2
      have hO2 : w2.ownsRow W.heap.size 68 3 (.slice b2 (mergedL rows).length c2) (mergedL rows).length (flat (mergedL rows)) := hO2'
      have hv2 : Boxed w2 w1.heap.size 24 (.slice b D.length c) := (hb2'.block _ hv.lt).trans hv
      have hc2 := hv2.cell
      refine wpAny_ready (rs := [4]) (by kernel_rfl) (by simp) ?_
      refine AllReady.cons rfl (fun K hK => ?_) AllReady.nil
      go_simp
      refine hK _ _ ?_
      clear hK K
      refine wpAny_ready (rs := [5]) (by kernel_rfl) (by simp) ?_
      refine AllReady.cons rfl (fun K hK => ?_) AllReady.nil
      refine step_append_one rfl _ _ 24 rfl w.heap.size 50 i0 (.agg #[.slice none 0 0]) 1 24 Try.underlying24 hi hz0 hz1 hz2 rfl (by decide) (.slice b D.length c) _ _ rfl ((hP.below hb2').outer.alloc _) ⟨w2.heap.size, 0, none⟩ 1 1 [.slice b2 (mergedL rows).length c2] rfl rfl (cell_one_new _ _ _) (by intro u hu; simp at hu; subst hu; rfl) (by unfold maxLen; omega) (by omega) (by have := hb2.size; simp at this ⊢; omega) ?_
      intro v' w4 hO4 hg4 hat
      obtain ⟨a4, c4, rfl⟩ := own_slice' hO4
      obtain ⟨hv4, hf1, hf2, hf3⟩ := round_parts hv hP hsW hl2 bS1 bN1 (by omega) (by omega) (by decide) (by decide) hb2' hO2 hg4 hO4 (by simpa using hat)
      have hc4 := hv4.cell
      have hz4 := hv4.frozen
      refine hK _ _ ?_
      clear hK K
      refine wpAny_ready (rs := [6]) (by kernel_rfl) (by simp) ?_
      refine AllReady.cons rfl (fun K hK => ?_) AllReady.nil
      go_simp
      refine hK _ _ ?_
      clear hK K
      refine wpAny_done (by kernel_rfl) ?_ _
      exact ⟨hf3, hf2, by rw [HEQ.out]; exact hf1, keepTwo_t hB hf2⟩
    · refine AllReady.cons rfl (fun K hK => ?_) AllReady.nil
      go_simp
      refine (merged_any xa xn xn rows W.drew hxm.1 hxm.2 RX).mono ?_
      rintro e w2 ⟨b2, c2, rfl, hb2, hO2'⟩
      refine hK _ _ ?_
      clear hK K
      refine wpAny_take (i := 3) (v := .agg #[.slice b2 (mergedL rows).length c2]) rfl (by kernel_rfl) (by kernel_rfl) (by kernel_rfl) (fun _ _ _ h => h) (Or.inl ⟨by rfl, fun w => by go_simp⟩) ?_
      have hb2' : Below W.heap.size W w2 := (Below.refl W.heap.size W).drew.trans hb2
      have hO2 : w2.ownsRow W.heap.size 68 3 (.slice b2 (mergedL rows).length c2) (mergedL rows).length (flat (mergedL rows)) := hO2'
      have hv2 : Boxed w2 w1.heap.size 24 (.slice b D.length c) := (hb2'.block _ hv.lt).trans hv
      have hc2 := hv2.cell
      refine wpAny_ready (rs := [0, 4]) (by kernel_rfl) (by simp) ?_
      refine AllReady.cons rfl (fun K hK => ?_) ?_
      · go_simp
        refine hK _ _ ?_
        clear hK K
        refine wpAny_ready (rs := [4]) (by kernel_rfl) (by simp) ?_
        refine AllReady.cons rfl (fun K hK => ?_) AllReady.nil
        go_simp
        refine hK _ _ ?_
        clear hK K
        refine wpAny_ready (rs := [5]) (by kernel_rfl) (by simp) ?_
        refine AllReady.cons rfl (fun K hK => ?_) AllReady.nil
        refine step_append_one rfl _ _ 24 rfl w.heap.size 50 i0 (.agg #[.slice none 0 0]) 1 24 Try.underlying24 hi hz0 hz1 hz2 rfl (by decide) (.slice b D.length c) _ _ rfl ((hP.below hb2').outer.alloc _) ⟨w2.heap.size, 0, none⟩ 1 1 [.slice b2 (mergedL rows).length c2] rfl rfl (cell_one_new _ _ _) (by intro u hu; simp at hu; subst hu; rfl) (by unfold maxLen; omega) (by omega) (by have := hb2.size; simp at this ⊢; omega) ?_
        intro v' w4 hO4 hg4 hat
        obtain ⟨a4, c4, rfl⟩ := own_slice' hO4
        obtain ⟨hv4, hf1, hf2, hf3⟩ := round_parts hv hP hsW hl2 bS1 bN1 (by omega) (by omega) (by decide) (by decide) hb2' hO2 hg4 hO4 (by simpa using hat)
        have hc4 := hv4.cell
        have hz4 := hv4.frozen
        refine hK _ _ ?_
        clear hK K
        refine wpAny_ready (rs := [6]) (by kernel_rfl) (by simp) ?_
        refine AllReady.cons rfl (fun K hK => ?_) AllReady.nil
        go_simp
        refine hK _ _ ?_
        clear hK K
        refine wpAny_done (by kernel_rfl) ?_ _
        exact ⟨hf3, hf2, by rw [HEQ.out]; exact hf1, keepTwo_t hB hf2⟩
      · refine AllReady.cons rfl (fun K hK => ?_) AllReady.nil
        go_simp
        refine hK _ _ ?_
        clear hK K
        refine wpAny_ready (rs := [0]) (by kernel_rfl) (by simp) ?_
        refine AllReady.cons rfl (fun K hK => ?_) AllReady.nil
        have hc2' := (hv2.alloc (.cells #[.slice b2 (mergedL rows).length c2] 50)).cell
        go_simp
        refine hK _ _ ?_
        clear hK K
        refine wpAny_ready (rs := [5]) (by kernel_rfl) (by simp) ?_
        refine AllReady.cons rfl (fun K hK => ?_) AllReady.nil
        refine step_append_one rfl _ _ 24 rfl w.heap.size 50 i0 (.agg #[.slice none 0 0]) 1 24 Try.underlying24 hi hz0 hz1 hz2 rfl (by decide) (.slice b D.length c) _ _ rfl ((hP.below hb2').outer.alloc _) ⟨w2.heap.size, 0, none⟩ 1 1 [.slice b2 (mergedL rows).length c2] rfl rfl (cell_one_new _ _ _) (by intro u hu; simp at hu; subst hu; rfl) (by unfold maxLen; omega) (by omega) (by have := hb2.size; simp at this ⊢; omega) ?_
        intro v' w4 hO4 hg4 hat
        obtain ⟨a4, c4, rfl⟩ := own_slice' hO4
        obtain ⟨hv4, hf1, hf2, hf3⟩ := round_parts hv hP hsW hl2 bS1 bN1 (by omega) (by omega) (by decide) (by decide) hb2' hO2 hg4 hO4 (by simpa using hat)
        have hc4 := hv4.cell
        have hz4 := hv4.frozen
        refine hK _ _ ?_
        clear hK K
        refine wpAny_ready (rs := [6]) (by kernel_rfl) (by simp) ?_
        refine AllReady.cons rfl (fun K hK => ?_) AllReady.nil
        go_simp
        refine hK _ _ ?_
        clear hK K
        refine wpAny_done (by kernel_rfl) ?_ _
        exact ⟨hf3, hf2, by rw [HEQ.out]; exact hf1, keepTwo_t hB hf2⟩
  case done =>
    rintro D ys W hD hys ⟨⟨b, c, vs, hv, hP⟩, hB⟩ hK
    rw [hys] at hv hP
    have hc := hv.cell
    gi_wp2_with fail
    refine ⟨by simp, .inl ⟨_, _, rfl, run_takeDeferred hK, ?_⟩⟩
    exact ⟨_, results_tmp2 rfl _ _ _, b, c, vs, by simp, (hW0.trans hB.1).trans (belowK_b (w := w) (Nat.le_refl _) W D _ _ (by omega) hK rfl rfl), hP.keptRow (grownBy_putObj' W D _) (fun r e => by cases e; exact ⟨_, hK, rfl⟩)⟩
  case stop =>
    rintro D c pre W _ _ h _
    exact h.elim
set_option maxRecDepth 100000 in
set_option maxHeartbeats 1000000 in
theorem implFewerRuns_no (a : Option Addr) (n cap : Nat) (N : Int) (ps : List (List RowV)) (w : World) (hm : n ≤ 1048576) (hr : ps.flatten.length ≤ 1048576) (hok : ∀ rs ∈ ps, ∀ r ∈ rs, r.Ok) (hR : PRd w w.heap.size a n ps) (hq : fewerRunsB ps N = false) :
    Calls Try.prog 30 #[.slice a n cap, .int .i64 N] w fun e w' => e = .returned (.tuple #[.slice none 0 0, .bool false]) ∧ Below w.heap.size w w' := by
  have C0 := runsOk_any a n cap ps w hm hr hok hR
  unfold fewerRunsB at hq
  cases hs : runsB ps
  case false =>
    rw [hs] at C0
    clear hq hs
    go_enter Try.func30, Try.ntmps30
    go_wp2_with fail
    refine C0.mono ?_
    rintro e w1 ⟨rfl, hb⟩
    go_wp2_with fail
    go_ret2
    exact ⟨rfl, hb⟩
  rw [hs] at C0 hq
  by_cases h1 : N < 2
  · clear hq hs
    go_enter Try.func30, Try.ntmps30
    go_wp2_with fail
    refine C0.mono ?_
    rintro e w1 ⟨rfl, hb⟩
    go_wp2_with fail
    go_ret2
    exact ⟨rfl, hb⟩
  have h2 : 10 < N := by
    rw [Bool.true_and, Bool.and_eq_false_iff, decide_eq_false_iff_not, decide_eq_false_iff_not] at hq
    omega
  clear hq hs
  go_enter Try.func30, Try.ntmps30
  go_wp2_with fail
  refine C0.mono ?_
  rintro e w1 ⟨rfl, hb⟩
  go_wp2_with fail
  go_ret2
  exact ⟨rfl, hb⟩
theorem implFewerRuns_any (a : Option Addr) (n cap : Nat) (ps : List (List RowV)) (N : Int) (w : World) (hm : n ≤ 1048576) (hr : rowsIn ps ≤ 1048576) (hnc : n ≤ cap) (hok : ∀ rs ∈ ps, rs.length ≤ maxLen ∧ ∀ r ∈ rs, r.Ok) (hR : PRd w w.heap.size a n ps) :
    Calls Try.prog 30 #[.slice a n cap, .int .i64 N] w (FewOut ps N w) := by
  rw [rowsIn_flatten] at hr
  unfold FewOut fewerRunsS
  cases hq : fewerRunsB ps N
  · rw [if_neg (by decide)]
    refine (implFewerRuns_no a n cap N ps w hm hr (fun rs h => (hok rs h).2) hR hq).mono ?_
    rintro e w1 ⟨rfl, hb⟩
    exact ⟨none, 0, [], rfl, hb, World.ownsRow_nil _ _ _ _, Fam.nil _ _, fun v hv => by cases hv⟩
  · rw [if_pos rfl]
    have h := hq
    simp only [fewerRunsB, Bool.and_eq_true, decide_eq_true_eq] at h
    obtain ⟨M, rfl⟩ : ∃ M : Nat, N = (M : Int) := ⟨N.toNat, by omega⟩
    exact implFewerRuns_yes a n cap M ps w hm hr hnc (fun rs h => (hok rs h).2) hR h.1 (by omega) (by omega)
theorem fewF_rows (N : Nat) : ∀ (f : Nat) (l : List (List RowV)), (fewF N f l).flatten.length ≤ l.flatten.length
  | 0, _ => Nat.zero_le _
  | f + 1, l => by
    rw [fewF]
    split
    · exact Nat.zero_le _
    · have ih := fewF_rows N f (l.drop N)
      have e : l.flatten.length = (l.take N).flatten.length + (l.drop N).flatten.length := by
        rw [← List.length_append, ← List.flatten_append, List.take_append_drop]
      rw [List.flatten_cons, List.length_append, sortL_length]
      omega
theorem fewerRunsS_le (ps : List (List RowV)) (N : Int) : (fewerRunsS ps N).length ≤ 1048576 ∧ rowsIn (fewerRunsS ps N) ≤ 1048576 := by
  unfold fewerRunsS
  split
  · rename_i h
    simp only [fewerRunsB, runsB, Bool.and_eq_true, decide_eq_true_eq] at h
    rw [rowsIn_flatten]
    have h3 := fewL_le N.toNat ps
    have h4 := fewF_rows N.toNat ps.length ps
    unfold fewL at h3 ⊢
    exact ⟨by omega, by omega⟩
  · exact ⟨Nat.zero_le _, Nat.zero_le _⟩
end Go.Proofs.Ytgdbpckobngmjaa

namespace Go.Proofs.Ytgdbpckobngmjaa
open Go.RowKit
theorem rowsOk_permR {a b : List RowV} (p : a.Perm b) : rowsOk a = rowsOk b := by
  unfold rowsOk
  rw [p.length_eq, p.all_eq]
theorem sortedOk_sort {l : List RowV} (h : rowsOk l = true) : sortedOk (sortL l) = true := by
  unfold sortedOk
  rw [rowsOk_permR (sortL_perm' l), h, asc_adjOk (sortL_asc l)]; rfl
theorem rowsOk_subR {l m : List RowV} (h : rowsOk l = true) (hs : ∀ r ∈ m, r ∈ l) (hl : m.length ≤ l.length) : rowsOk m = true := by
  unfold rowsOk at h ⊢
  rw [Bool.and_eq_true, decide_eq_true_eq, List.all_eq_true] at h ⊢
  exact ⟨by omega, fun r hr => h.2 r (hs r hr)⟩
theorem rowsOk_lenR {l : List RowV} (h : rowsOk l = true) : l.length ≤ 120 := by
  unfold rowsOk at h
  exact of_decide_eq_true (Bool.and_eq_true _ _ ▸ h).1
theorem runsF_perm {N : Nat} (hN : 1 ≤ N) : ∀ (f : Nat) (l : List RowV), l.length ≤ f → (runsF N f l).flatten.Perm l
  | 0, l, h => by
    have : l = [] := List.length_eq_zero_iff.1 (by omega)
    subst this; exact List.Perm.refl _
  | f + 1, l, h => by
    rw [runsF]
    split
    · rename_i h0
      have : l = [] := List.length_eq_zero_iff.1 h0
      subst this; exact List.Perm.refl _
    · rw [List.flatten_cons]
      have ih := runsF_perm hN f (l.drop N) (by rw [List.length_drop]; omega)
      refine (List.Perm.append (sortL_perm' _) ih).trans ?_
      rw [List.take_append_drop]
theorem runs_good {N : Nat} (hN : 1 ≤ N) {l : List RowV} (h : rowsOk l = true) : ∀ (f : Nat) (m : List RowV), m.Sublist l → ∀ S ∈ runsF N f m, sortedOk S = true ∧ S.length ≤ N
  | 0, _, _ => fun S hS => by cases hS
  | f + 1, m, hm => by
    rw [runsF]
    split
    · intro S hS; cases hS
    · intro S hS
      rcases List.mem_cons.1 hS with rfl | hS
      · refine ⟨sortedOk_sort (rowsOk_subR h (fun r hr => hm.subset (List.mem_of_mem_take hr)) ?_), ?_⟩
        · have := hm.length_le
          rw [List.length_take]; omega
        · rw [sortL_length, List.length_take]; omega
      · exact runs_good hN h f _ ((List.drop_sublist _ _).trans hm) S hS
theorem runs_facts {N : Nat} (hN : 1 ≤ N) {l : List RowV} (h : rowsOk l = true) : runsB (runsL N l) = true ∧ sortL (runsL N l).flatten = sortL l ∧ ∀ S ∈ runsL N l, sortedOk S = true ∧ S.length ≤ N := by
  have hp := runsF_perm hN l.length l (Nat.le_refl _)
  have hg := runs_good hN h l.length l (List.Sublist.refl _)
  have hl := rowsOk_lenR h
  refine ⟨?_, sortL_of_perm hp, hg⟩
  unfold runsB
  rw [Bool.and_eq_true, Bool.and_eq_true, decide_eq_true_eq, decide_eq_true_eq, List.all_eq_true]
  have h1 := runsL_le N l
  have h2 := hp.length_eq
  unfold runsL at h1 ⊢
  exact ⟨⟨by omega, by omega⟩, fun S hS => (hg S hS).1⟩
theorem fewF_perm {N : Nat} (hN : 1 ≤ N) : ∀ (f : Nat) (l : List (List RowV)), l.length ≤ f → (fewF N f l).flatten.Perm l.flatten
  | 0, l, h => by
    have : l = [] := List.length_eq_zero_iff.1 (by omega)
    subst this; exact List.Perm.refl _
  | f + 1, l, h => by
    rw [fewF]
    split
    · rename_i h0
      have : l = [] := List.length_eq_zero_iff.1 h0
      subst this; exact List.Perm.refl _
    · rw [List.flatten_cons]
      have ih := fewF_perm hN f (l.drop N) (by rw [List.length_drop]; omega)
      refine (List.Perm.append (sortL_perm' _) ih).trans ?_
      rw [← List.flatten_append, List.take_append_drop]
theorem fewF_count {N : Nat} (hN : 1 ≤ N) : ∀ (f : Nat) (l : List (List RowV)), l.length ≤ f → (fewF N f l).length = (l.length + N - 1) / N
  | 0, l, h => by
    rw [fewF, show l.length = 0 by omega, List.length_nil, Nat.div_eq_of_lt (by omega)]
  | f + 1, l, h => by
    rw [fewF]
    split
    · rename_i h0
      rw [h0, List.length_nil, Nat.div_eq_of_lt (by omega)]
    · rename_i h0
      rw [List.length_cons, fewF_count hN f (l.drop N) (by rw [List.length_drop]; omega), List.length_drop]
      rcases Nat.lt_or_ge l.length N with hl | hl
      · rw [show l.length - N + N - 1 = N - 1 by omega, Nat.div_eq_of_lt (show N - 1 < N by omega), show l.length + N - 1 = (l.length - 1) + N by omega, Nat.add_div_right _ (by omega), Nat.div_eq_of_lt (by omega)]
      · rw [show l.length + N - 1 = (l.length - N + N - 1) + N by omega, Nat.add_div_right _ (by omega)]
theorem fewF_good {N : Nat} {l : List RowV} (h : ∀ r ∈ l, r.ok = true) (hl : l.length ≤ 120) : ∀ (f : Nat) (m : List (List RowV)), (∀ S ∈ m, ∀ r ∈ S, r ∈ l) → m.flatten.length ≤ l.length → ∀ S ∈ fewF N f m, sortedOk S = true
  | 0, _, _, _ => fun S hS => by cases hS
  | f + 1, m, hm, hml => by
    rw [fewF]
    have e : m.flatten.length = (m.take N).flatten.length + (m.drop N).flatten.length := by
      rw [← List.length_append, ← List.flatten_append, List.take_append_drop]
    split
    · intro S hS; cases hS
    · intro S hS
      rcases List.mem_cons.1 hS with rfl | hS
      · refine sortedOk_sort ?_
        unfold rowsOk
        rw [Bool.and_eq_true, decide_eq_true_eq, List.all_eq_true]
        refine ⟨by omega, fun r hr => h r ?_⟩
        obtain ⟨S, hS1, hS2⟩ := List.mem_flatten.1 hr
        exact hm S (List.mem_of_mem_take hS1) r hS2
      · exact fewF_good h hl f _ (fun S hS r hr => hm S (List.mem_of_mem_drop hS) r hr) (by omega) S hS
theorem few_facts {N : Nat} (hN : 1 ≤ N) {ps : List (List RowV)} (h : runsB ps = true) : runsB (fewL N ps) = true ∧ sortL (fewL N ps).flatten = sortL ps.flatten ∧ (fewL N ps).length = (ps.length + N - 1) / N ∧ (fewL N ps).flatten.length = ps.flatten.length := by
  have h' := h
  simp only [runsB, Bool.and_eq_true, decide_eq_true_eq] at h'
  obtain ⟨⟨h1, h2⟩, h3⟩ := h'
  have hp := fewF_perm hN ps.length ps (Nat.le_refl _)
  have hc := fewF_count hN ps.length ps (Nat.le_refl _)
  have hg : ∀ S ∈ fewL N ps, sortedOk S = true := fewF_good (l := ps.flatten) (fun r hr => by
    obtain ⟨S, hS1, hS2⟩ := List.mem_flatten.1 hr
    have := List.all_eq_true.1 h3 S hS1
    simp only [sortedOk, rowsOk, Bool.and_eq_true, List.all_eq_true] at this
    exact this.1.2 r hS2) h2 _ _ (fun S hS r hr => List.mem_flatten.2 ⟨S, hS, hr⟩) (Nat.le_refl _)
  refine ⟨?_, sortL_of_perm hp, hc, hp.length_eq⟩
  unfold runsB
  rw [Bool.and_eq_true, Bool.and_eq_true, decide_eq_true_eq, decide_eq_true_eq, List.all_eq_true]
  have h4 := fewL_le N ps
  have h5 := hp.length_eq
  unfold fewL at h4 hg ⊢
  exact ⟨⟨by omega, by omega⟩, hg⟩
theorem runs_ok {ps : List (List RowV)} (h : runsB ps = true) : (∀ S ∈ ps, S.length ≤ maxLen ∧ ∀ r ∈ S, r.Ok) ↔ ∀ S ∈ ps, ∀ r ∈ S, r.Ok := by
  refine ⟨fun g S hS => (g S hS).2, fun g S hS => ⟨?_, g S hS⟩⟩
  simp only [runsB, Bool.and_eq_true, decide_eq_true_eq] at h
  have := List.Sublist.length_le (List.sublist_flatten_of_mem hS)
  unfold maxLen; omega
theorem few_subF {N : Nat} : ∀ (f : Nat) (l : List (List RowV)), (∀ S ∈ l, ∀ r ∈ S, r.Ok) → ∀ S ∈ fewF N f l, ∀ r ∈ S, r.Ok
  | 0, _, _ => fun S hS => by cases hS
  | f + 1, l, h => by
    rw [fewF]
    split
    · intro S hS; cases hS
    · intro S hS r hr
      rcases List.mem_cons.1 hS with rfl | hS
      · obtain ⟨T, hT1, hT2⟩ := List.mem_flatten.1 ((sortL_perm' _).mem_iff.1 hr)
        exact h T (List.mem_of_mem_take hT1) r hT2
      · exact few_subF f _ (fun S hS => h S (List.mem_of_mem_drop hS)) S hS r hr
theorem few_sub {N : Nat} {l : List (List RowV)} (h : ∀ S ∈ l, ∀ r ∈ S, r.Ok) : ∀ S ∈ fewL N l, ∀ r ∈ S, r.Ok := few_subF _ _ h
end Go.Proofs.Ytgdbpckobngmjaa

namespace Go.Proofs.Ytgdbpckobngmjaa
open Go.RowKit
set_option maxRecDepth 100000 in
set_option maxHeartbeats 4000000 in
theorem walk_Fewer (a : Option Addr) (len cap : Nat) (xs : List Value) (w : World) (hI : IsCode w a len cap xs) :
    Calls Try.prog 7 #[.slice a len cap] w fun e w' => e = .returned (.bool true) ∧ Below w.heap.size w w' := by
  have hI0 := hI.by_
  obtain ⟨hlc, hcm, _, _⟩ := hI
  go_enter Try.func7, Try.ntmps7
  go_wp2_with fail
  refine (big_any a len cap w (by omega)).mono ?_
  rintro e w0 ⟨rfl, rfl⟩
  by_cases hbig : 1048576 < len
  · have hd : decide (1048576 < len) = true := by simpa using hbig
    rw [hd]
    go_wp2_with fail
    go_ret
    exact ⟨rfl, Below.refl _ _⟩
  have hd : decide (1048576 < len) = false := by simpa using hbig
  rw [hd]
  go_wp2_with fail
  refine (drawFewerRuns_any a len cap w (by omega) hI0).mono ?_
  rintro e w1 ⟨ps, xb, xc, z, hx, hxc, hz0, hz1, rfl, X, B⟩
  have hpl := hx.1
  cases hq : fewerRunsB ps z
  · have hS : fewerRunsS ps z = [] := by unfold fewerRunsS; rw [hq]; exact if_neg (by decide)
    have CI : ∀ w : World, PRd w w.heap.size xb ps.length ps → Calls Try.prog 30 #[.slice xb ps.length xc, .int .i64 z] w (fun e w' => ∃ a c vs, e = .returned (.tuple #[.slice a 0 c, .bool false]) ∧ Below w.heap.size w w' ∧ POwn w' w.heap.size a 0 c vs []) := fun w h => by
      have := implFewerRuns_any xb ps.length xc ps z w hx.args.1 hx.args.2.1 hxc hx.args.2.2 h
      unfold FewOut at this
      rw [hS, hq, List.length_nil] at this
      exact this
    have CS : ∀ w : World, PRd w w.heap.size xb ps.length ps → Calls Try.prog 29 #[.slice xb ps.length xc, .int .i64 z] w (fun e w' => ∃ a c vs, e = .returned (.tuple #[.slice a 0 c, .bool false]) ∧ Below w.heap.size w w' ∧ POwn w' w.heap.size a 0 c vs []) := fun w h => by
      have := specFewerRuns_any xb ps.length xc ps z w hx.args.1 hx.args.2.1 hxc hx.args.2.2 h
      unfold FewOut at this
      rw [hS, hq, List.length_nil] at this
      exact this
    clear hq hS
    go_wp2_with fail
    refine (CI w1 X).mono ?_
    rintro e w2 ⟨pa, pc, pv, rfl, hb, hO⟩
    replace B := B.trans (hb.mono B.size)
    replace X := (X.below hb (Nat.le_refl _)).more hb.size
    clear hb
    have P := hO.rd
    clear hO CI
    go_wp2_with fail
    refine (CS w2 X).mono ?_
    rintro e w3 ⟨qa, qc, qv, rfl, hb, hO⟩
    replace B := B.trans (hb.mono B.size)
    replace X := (X.below hb (Nat.le_refl _)).more hb.size
    replace P := (P.below hb (Nat.le_refl _)).more hb.size
    clear hb
    have Q := hO.rd
    clear hO CS
    clear X
    go_wp2_with fail
    refine (sameParts_eq pa qa 0 pc qc [] w3 (by omega) (by decide) P Q).mono ?_
    rintro e w4 ⟨rfl, hb⟩
    replace B := B.trans (hb.mono B.size)
    replace P := (P.below hb (Nat.le_refl _)).more hb.size
    replace Q := (Q.below hb (Nat.le_refl _)).more hb.size
    clear hb
    go_wp2_with fail
    refine (sameParts_eq pa qa 0 pc qc [] w4 (by omega) (by decide) P Q).mono ?_
    rintro e w5 ⟨rfl, hb⟩
    replace B := B.trans (hb.mono B.size)
    replace P := (P.below hb (Nat.le_refl _)).more hb.size
    replace Q := (Q.below hb (Nat.le_refl _)).more hb.size
    clear hb
    go_wp2_with fail
    go_ret
    exact ⟨rfl, B⟩
  have hq2 := hq
  simp only [fewerRunsB, Bool.and_eq_true, decide_eq_true_eq] at hq2
  obtain ⟨hrb, hz2, hz3⟩ := hq2
  obtain ⟨N, rfl⟩ : ∃ N : Nat, z = (N : Int) := ⟨z.toNat, by omega⟩
  have hS : fewerRunsS ps N = fewL N ps := by unfold fewerRunsS; rw [hq]; rfl
  obtain ⟨g1, g2, g3, g4⟩ := few_facts (N := N) (by omega) hrb
  have hfl := few_sub (N := N) hx.2.2
  have hle := fewerRunsS_le ps N
  rw [hS] at hle
  obtain ⟨np, hnp⟩ : ∃ j, (fewL N ps).length = j := ⟨_, rfl⟩
  rw [hnp] at g3
  have CI : ∀ w : World, PRd w w.heap.size xb ps.length ps → Calls Try.prog 30 #[.slice xb ps.length xc, .int .i64 N] w (fun e w' => ∃ a c vs, e = .returned (.tuple #[.slice a np c, .bool true]) ∧ Below w.heap.size w w' ∧ POwn w' w.heap.size a np c vs (fewL N ps)) := fun w h => by
    have := implFewerRuns_any xb ps.length xc ps N w hx.args.1 hx.args.2.1 hxc hx.args.2.2 h
    unfold FewOut at this
    rw [hS, hq, hnp] at this
    exact this
  have CS : ∀ w : World, PRd w w.heap.size xb ps.length ps → Calls Try.prog 29 #[.slice xb ps.length xc, .int .i64 N] w (fun e w' => ∃ a c vs, e = .returned (.tuple #[.slice a np c, .bool true]) ∧ Below w.heap.size w w' ∧ POwn w' w.heap.size a np c vs (fewL N ps)) := fun w h => by
    have := specFewerRuns_any xb ps.length xc ps N w hx.args.1 hx.args.2.1 hxc hx.args.2.2 h
    unfold FewOut at this
    rw [hS, hq, hnp] at this
    exact this
  obtain ⟨nm, hnm⟩ : ∃ j, (sortL ps.flatten).length = j := ⟨_, rfl⟩
  have CA : ∀ (a : Option Addr) (c : Nat) (w : World), PRd w w.heap.size a ps.length ps → Calls Try.prog 27 #[.slice a ps.length c] w (fun e w' => ∃ b c, e = .returned (.tuple #[.slice b nm c, .bool true]) ∧ Below w.heap.size w w' ∧ w'.ownsRow w.heap.size 68 3 (.slice b nm c) nm (flat (sortL ps.flatten))) := fun a c w h => by
    have := implMergedRuns_any a ps.length c ps w hx.args.1 hx.args.2.1 hx.args.2.2 h
    have e1 : mergedRunsS ps = sortL ps.flatten := by unfold mergedRunsS; rw [hrb, if_pos rfl]
    have e2 : mergedRunsB ps = true := hrb
    rw [e1, e2, hnm] at this
    exact this
  have CB : ∀ (a : Option Addr) (c : Nat) (w : World), PRd w w.heap.size a np (fewL N ps) → Calls Try.prog 27 #[.slice a np c] w (fun e w' => ∃ b c, e = .returned (.tuple #[.slice b nm c, .bool true]) ∧ Below w.heap.size w w' ∧ w'.ownsRow w.heap.size 68 3 (.slice b nm c) nm (flat (sortL ps.flatten))) := fun a c w h => by
    have := implMergedRuns_any a np c (fewL N ps) w (by omega) hle.2 ((runs_ok g1).2 hfl) h
    have e1 : mergedRunsS (fewL N ps) = sortL ps.flatten := by unfold mergedRunsS; rw [g1, if_pos rfl, g2]
    have e2 : mergedRunsB (fewL N ps) = true := g1
    rw [e1, e2, hnm] at this
    exact this
  have hnml : nm ≤ 1048576 := by rw [← hnm, sortL_length, ← rowsIn_flatten]; exact hx.args.2.1
  have hle1 := hle.1
  rw [hnp] at hle1
  have hle2 := hle.2
  have HL := Lib.hid hle2
  have HN := Lib.hid g3
  clear hq hS hrb g1 g2 g3 g4 hfl hle hnp hnm hx
  generalize fewL N ps = PS at *
  generalize sortL ps.flatten = SL at *
  obtain ⟨n, hn⟩ : ∃ n, ps.length = n := ⟨_, rfl⟩
  rw [hn] at CI CS CA X hpl hxc HN
  rw [hn]
  clear hn
  go_wp2_with fail
  refine (CI w1 X).mono ?_
  rintro e w2 ⟨pa, pc, pv, rfl, hb, hO⟩
  replace B := B.trans (hb.mono B.size)
  replace X := (X.below hb (Nat.le_refl _)).more hb.size
  clear hb
  have P := hO.rd
  clear hO CI
  go_wp2_with fail
  refine (CS w2 X).mono ?_
  rintro e w3 ⟨qa, qc, qv, rfl, hb, hO⟩
  replace B := B.trans (hb.mono B.size)
  replace X := (X.below hb (Nat.le_refl _)).more hb.size
  replace P := (P.below hb (Nat.le_refl _)).more hb.size
  clear hb
  have Q := hO.rd
  clear hO CS
  go_wp2_with fail
  refine (sameParts_eq pa qa np pc qc PS w3 (by omega) HL.out P Q).mono ?_
  rintro e w4 ⟨rfl, hb⟩
  replace B := B.trans (hb.mono B.size)
  replace X := (X.below hb (Nat.le_refl _)).more hb.size
  replace P := (P.below hb (Nat.le_refl _)).more hb.size
  replace Q := (Q.below hb (Nat.le_refl _)).more hb.size
  clear hb
  clear Q
  go_wp2_with fail
  refine (CA _ _ w4 X).mono ?_
  rintro e w5 ⟨ma, mc, rfl, hb, hO⟩
  replace B := B.trans (hb.mono B.size)
  replace X := (X.below hb (Nat.le_refl _)).more hb.size
  replace P := (P.below hb (Nat.le_refl _)).more hb.size
  clear hb
  have M := Rd.of_own hO
  clear hO CA
  clear X
  go_wp2_with fail
  refine (CB _ _ w5 P).mono ?_
  rintro e w6 ⟨na, nc, rfl, hb, hO⟩
  replace B := B.trans (hb.mono B.size)
  replace P := (P.below hb (Nat.le_refl _)).more hb.size
  replace M := (M.below hb (Nat.le_refl _)).more hb.size
  clear hb
  have NN := Rd.of_own hO
  clear hO CB
  clear P
  have hw1 : IntKind.i64.wrap ((n : Int) + N) = (n : Int) + N := IntWalk.i64_in _ (by omega)
  have hw2 : IntKind.i64.wrap ((n : Int) + N - 1) = (n : Int) + N - 1 := IntWalk.i64_in _ (by omega)
  have hdv : ((n : Int) + N - 1).tdiv N = (np : Int) := by rw [HN.out, Int.tdiv_eq_ediv_of_nonneg (by omega), show (n : Int) + N - 1 = ((n + N - 1 : Nat) : Int) by omega]; rfl
  have hdv2 : ((n : Int) + N - 1) / N = (np : Int) := by rw [HN.out, show (n : Int) + N - 1 = ((n + N - 1 : Nat) : Int) by omega]; rfl
  have hN0 : (N : Int) ≠ 0 := by omega
  go_wp2_with fail
  refine (sameRows_same ma na nm mc nc SL w6 (by omega) M NN).mono ?_
  rintro e w7 ⟨rfl, hb⟩
  replace B := B.trans (hb.mono B.size)
  replace M := (M.below hb (Nat.le_refl _)).more hb.size
  replace NN := (NN.below hb (Nat.le_refl _)).more hb.size
  clear hb
  clear M
  clear NN
  go_wp2_with fail
  go_ret
  exact ⟨rfl, B⟩
end Go.Proofs.Ytgdbpckobngmjaa

namespace Go.Proofs.Ytgdbpckobngmjaa
open Go.ChangeShapes Go.WideShapes Go.ChangeAt Go.RowKit Go.Joins
open Go.ChangeMaps (open_string shut_string)
namespace Fewer

set_option maxRecDepth 100000 in
theorem lifted (os : Os) (started : os.Started) (H : Type) (enc : TypeId × Value → H) :
    ReturnsInHanded {} Try.checked os 7 .any (Rows.fnFewerSpec.pre6 enc Try.prog Try.f7 Rows.fnFewerRow.domain false) (Rows.fnFewerSpec.post enc Try.prog Try.f7 false true false false) := by
  refine returnsInHanded_of_change (C := Try.checked) own started (by kernel_rfl) Try.func7
    (ChangeSpec.witness6 (enc := enc) (C := Try.checked) false ⟨#[], #[.slice none 0 0], []⟩ 8 (by kernel_rfl) (by kernel_rfl) (by kernel_rfl) (by kernel_rfl)) ?_
  intro W base args ds gs before hval0 hW _ _
  have hval : ∀ (j : Nat) t v, Try.f7.params[j]? = some t → args[j]? = some v → Value.okWide Try.prog W .any base t v := hval0
  have hW' := hW
  obtain ⟨p, q, hA0, hV, rfl, _, _⟩ := hW
  have hA : DataW.TrodAll enc Try.prog W 0 (fun _ => true) true Try.f7.params.toList args.toList ds p := hA0
  rw [Try.params7] at hA hval
  obtain ⟨v0, vs0, d0, ds0, p0, q0, hargs, rfl, rfl, h0, r0⟩ := trodAll_cons hA
  obtain ⟨rfl, rfl, rfl⟩ := trodAll_nil r0
  obtain rfl : args = #[v0] := by cases args; simp_all
  obtain ⟨rfl, rfl⟩ := trodVars_none hV
  have k0 := h0
  have lt0 : ∀ x ∈ p0, x.block < W.heap.size := by obtain ⟨m, hm⟩ := k0; exact DataW.trod_lt m _ _ _ hm
  obtain ⟨a0, len0, cap0, z0, rfl, w0⟩ := open_Bytes (hval 0 42 v0 rfl rfl) h0
  clear hA0 hval0
  refine (walk_Fewer a0 len0 cap0 z0 W w0).mono fun e W' ⟨he, bel⟩ => ?_
  subst he
  exact ⟨_, rfl, _, _, _, [], _, [], hW', trodAll_mk1 (shut_bool Try.underlying4 _), (trodAll_cons_mk (Below.trod laidOut (by kernel_rfl) (of_decide_eq_true (by kernel_rfl)) k0 bel lt0) trodAll_mk0), rfl, bel.frame _, fun h => by cases h⟩

theorem over : Rows.fnFewerRow.holds Try.pinned (OpenSpec.ofChange Rows.fnFewerSpec) :=
  OpenClaim.holds_of_wide 7 Try.f7 rfl rfl rfl rfl rfl rfl rfl ⟨rfl, rfl, rfl, rfl, rfl⟩ rfl rfl rfl rfl rfl (by kernel_rfl) Try.func7 (by kernel_rfl)
    (of_decide_eq_true (by kernel_rfl)) (by unfold Func.isWrapper; first | (rw [if_pos (by decide +kernel)]; kernel_rfl) | (rw [if_neg (by decide +kernel)]; exact ⟨rfl, rfl⟩))
    (fun os started H enc _ => lifted os started H enc)
end Fewer
theorem fnFewer_holds : Rows.FnFewerSaid := Fewer.over
end Go.Proofs.Ytgdbpckobngmjaa
