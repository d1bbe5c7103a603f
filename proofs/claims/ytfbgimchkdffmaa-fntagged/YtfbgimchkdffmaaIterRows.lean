/-
  impl.rowsWhere: the rows that a function wants come in their order; slices.Collect: they are collected into a new slice. Conditions: at most 1048576 rows; the wanted function returns a bool and makes new memory only.
-/
import Derived.Test.YtfbgimchkdffmaaRowsMem
import Derived.RangeFuncNested
import Derived.RangeFuncBound
import Derived.RangeFuncCalls
import Derived.RangeFuncLeaves
import Derived.RangeFuncBox
import Derived.Shelf.Abstract
import Derived.Shelf.RegionOpen
import Derived.WalkKit
import Derived.OwnWalkIn
import Derived.TacticsInMore
import Derived.LoopNIn
import Derived.LoopIn
import Derived.Maps.AppendAt
namespace Go.Proofs.Ytfbgimchkdffmaa
open Go.RowKit Go.Shelf
attribute [local go_sem] Oper.semAt_some
def rowV (r : RowV) : Value := .agg #[.string r.key, .int .i64 r.tag, .string r.val]
theorem abide_below {β : Type} {B : Nat} {J : β → World → Prop} (hJ : AbidesFrom B J) {s : β} {W W' : World} (h : J s W) (hb : Below W.heap.size W W') : J s W' :=
  hJ s W W' none h (gb_of_below hb none) (fun _ e => by cases e)
theorem filter_take_succ {rs : List RowV} {p : RowV → Bool} {k : Nat} {r : RowV} (h : rs[k]? = some r) (hp : p r = true) : (rs.take (k + 1)).filter p = (rs.take k).filter p ++ [r] := by
  obtain ⟨hk, rfl⟩ := List.getElem?_eq_some_iff.1 h
  rw [List.take_succ_eq_append_getElem hk, List.filter_append]; simp [hp]
theorem filter_take_skip {rs : List RowV} {p : RowV → Bool} {k : Nat} {r : RowV} (h : rs[k]? = some r) (hp : p r = false) : (rs.take (k + 1)).filter p = (rs.take k).filter p := by
  obtain ⟨hk, rfl⟩ := List.getElem?_eq_some_iff.1 h
  rw [List.take_succ_eq_append_getElem hk, List.filter_append]; simp [hp]
theorem filter_prefix {rs : List RowV} {p : RowV → Bool} (k : Nat) : (rs.take k).filter p <+: rs.filter p := by
  refine ⟨(rs.drop k).filter p, ?_⟩
  rw [← List.filter_append, List.take_append_drop]
set_option maxRecDepth 100000 in
set_option maxHeartbeats 2000000 in
theorem where1_in (n : Nat) (l Bl Bw n₀ Bc g : Nat) (a : Option Addr) (len cap : Nat) (rs : List RowV) (p : RowV → Bool) (hm : len ≤ 1048576) (J Jx : List RowV → World → Prop) (W : World) (hn₀ : n₀ ≤ W.heap.size)
    (hJ : AbidesFrom W.heap.size J)
    (hw : ∀ (k : Nat) (r : RowV) (W1 : World), rs[k]? = some r → Below n₀ W W1 → Calls Try.prog g #[rowV r, .pointer (some ⟨Bc, 0, none⟩)] W1 fun e W' => e = .returned (.bool (p r)) ∧ Below W1.heap.size W1 W')
    (eg : ∀ args w, (callFunc g args).run Try.prog w = .ok (.enter g args) w)
    (hY : ∀ pre x W1, J pre W1 → pre.length < rs.length → YieldAt Fence.wide (n - 1) Try.prog l #[rowV x] W1 fun e W' =>
      (e = .returned (.bool true) ∧ J (pre ++ [x]) W' ∧ Below n₀ W1 W') ∨ (e = .returned (.bool false) ∧ Jx (pre ++ [x]) W'))
    (hBl : W.cell? ⟨Bl, 0, none⟩ = some (.slice a len cap)) (hBw : W.cell? ⟨Bw, 0, none⟩ = some (.func (.func g) #[] #[.pointer (some ⟨Bc, 0, none⟩)])) (hlw : Bw < n₀) (hR : Rd W n₀ 3 a len (flat rs)) (h0 : J [] W) :
    CallsIn Fence.wide n Try.prog 111 #[.func (.yield l) #[] #[], .pointer (some ⟨Bl, 0, none⟩), .pointer (some ⟨Bw, 0, none⟩)] W fun e W' => (∃ v, e = .returned v) ∧
      ((∃ ys, ys = rs.filter p ∧ J ys W') ∨ (∃ pre, pre <+: rs.filter p ∧ Jx pre W')) := by
  have hl := Lib.hid hR.rows_length
  refine callsIn_of_wp Try.func111 rfl trivial ?_ rfl
  simp only [Try.ntmps111, List.size_toArray, List.length_cons, List.length_nil, Nat.reduceAdd, Nat.reduceSub, Array.replicate_succ, Array.replicate_zero, List.push_toArray, List.append_toArray, List.nil_append, List.cons_append]
  gi_wp2
  gi_loopw [8] (fun i wr => ∃ k : Nat, k ≤ len ∧ i = .int .i64 k ∧ J ((rs.take k).filter p) wr ∧ Below n₀ W wr)
    (fun i _ => len - (intOf i).toNat)
  case atStart => exact ⟨0, Nat.zero_le _, rfl, h0, Below.refl _ _⟩
  case round =>
    obtain ⟨k, hk, rfl, hJs, hnx⟩ := hrel
    by_cases hlt : k < len
    · obtain ⟨b, off, r, rfl, hB1, hrk, c0, c1, c2⟩ := (hR.below hnx (Nat.le_refl _)).row hlt
      have hcw := (hnx.cell (p := ⟨Bw, 0, none⟩) hlw).trans hBw
      have Hr := Lib.hid hrk
      clear hrk
      obtain ⟨key, tag, val⟩ := r
      have hsz : n₀ ≤ wr.heap.size := Nat.le_trans hn₀ hnx.size
      have hb1 := bl1 wr (.cells #[.string key, .int .i64 tag, .string val] 61)
      have hcw2 := (hb1.cell (p := ⟨Bw, 0, none⟩) (Nat.lt_of_lt_of_le hlw hsz)).trans hcw
      have C := hw k ⟨key, tag, val⟩ _ Hr.out (hnx.trans (hb1.mono hsz))
      have hr3 : (wr.alloc (.cells #[.string key, .int .i64 tag, .string val] 61)).heap[wr.heap.size]? = some (.cells #[.string key, .int .i64 tag, .string val] 61 (0, 0)) := World.alloc_heap_new _ _
      have hq : wr.heap.size < (wr.alloc (.cells #[.string key, .int .i64 tag, .string val] 61)).heap.size := by simp
      have hJ1 := abide_below hJ hJs hb1
      have hnx1 := hnx.trans (hb1.mono hsz)
      cases hp : p ⟨key, tag, val⟩
      · rw [hp] at C
        gi_wp2_with fail
        refine ⟨trivial, fun h => (by cases h), ?_⟩
        refine (callsIn_wide.2 C).mono ?_
        rintro e w2 ⟨rfl, hb2⟩
        have hJ2 := abide_below hJ hJ1 hb2
        have hnx2 := hnx1.trans (hb2.mono (Nat.le_of_lt (Nat.lt_of_le_of_lt hsz hq)))
        have Hp := Lib.hid hp
        clear C hr3 hq hJ1 hnx1 hb1 hcw2 hb2 hp
        gi_wp2_with fail
        refine ⟨fun _ h => (by cases h), ?_⟩
        gi_wp2_with fail
        go_roundw
        case rel => exact ⟨k + 1, by omega, by go_num, by rw [filter_take_skip Hr.out Hp.out]; exact hJ2, hnx2⟩
        case measure => simp [intOf]; omega
      · rw [hp] at C
        gi_wp2_with fail
        refine ⟨trivial, fun h => (by cases h), ?_⟩
        refine (callsIn_wide.2 C).mono ?_
        rintro e w2 ⟨rfl, hb2⟩
        have hJ2 := abide_below hJ hJ1 hb2
        have hnx2 := hnx1.trans (hb2.mono (Nat.le_of_lt (Nat.lt_of_le_of_lt hsz hq)))
        have hr4 := (hb2.block _ hq).trans hr3
        have z0 : w2.cell? ⟨wr.heap.size, 0, none⟩ = some (.string key) := by simp [World.cell?, hr4]
        have z1 : w2.cell? ⟨wr.heap.size, 1, none⟩ = some (.int .i64 tag) := by simp [World.cell?, hr4]
        have z2 : w2.cell? ⟨wr.heap.size, 2, none⟩ = some (.string val) := by simp [World.cell?, hr4]
        have Hp := Lib.hid hp
        clear C hr3 hJ1 hnx1 hb1 hcw2 hb2 hp hr4
        obtain ⟨fn, tmps, assign, body, hy, hRd⟩ := hY _ ⟨key, tag, val⟩ w2 hJ2 (by
          have := List.length_filter_le p (rs.take k)
          rw [List.length_take, hl.out] at this
          rw [hl.out]; omega)
        simp only [rowV] at hy
        gi_wp2_with fail
        refine ⟨fun h => (by cases h), ?_⟩
        refine hRd.mono ?_
        rintro e W3 (⟨rfl, hJ3, hk3⟩ | ⟨rfl, hJx3⟩)
        · rw [← filter_take_succ Hr.out Hp.out] at hJ3
          have hnx3 := hnx2.trans hk3
          clear z0 z1 z2 hJ2 hnx2 hk3
          gi_wp2_with fail
          go_roundw
          case rel => exact ⟨k + 1, by omega, by go_num, hJ3, hnx3⟩
          case measure => simp [intOf]; omega
        · rw [← filter_take_succ Hr.out Hp.out] at hJx3
          clear z0 z1 z2 hJ2 hnx2
          gi_wp2_with fail
          refine bodyPost_ret (results_none rfl _ _ _) rfl ?_
          exact ⟨⟨_, rfl⟩, .inr ⟨_, filter_prefix (k + 1), hJx3⟩⟩
    · obtain rfl : k = len := by omega
      gi_wp2
      go_end0
      refine ⟨⟨_, rfl⟩, .inl ⟨_, rfl, ?_⟩⟩
      rwa [List.take_of_length_le (by rw [hl.out]; omega)] at hJs
set_option maxRecDepth 100000 in
theorem where_any (a : Option Addr) (len cap : Nat) (f : Value) (w : World) (hf : ∃ g lb, f = .func (.func g) #[] lb) :
    Calls Try.prog 65 #[.slice a len cap, f] w fun e w' => e = .returned (.func (.func 111) #[] #[.pointer (some ⟨w.heap.size, 0, none⟩), .pointer (some ⟨w.heap.size + 1, 0, none⟩)]) ∧ w' = (w.alloc (.cells #[.slice a len cap] 24)).alloc (.cells #[f] 80) := by
  obtain ⟨g, lb, rfl⟩ := hf
  go_enter Try.func65, Try.ntmps65
  go_wp2_with fail
  go_ret
  exact ⟨rfl, rfl⟩
/-- What rowsWhere returns: the wanted rows, in their order. -/
theorem where_stops (n : Nat) (Bl Bw n₀ Bc g : Nat) (a : Option Addr) (len cap : Nat) (rs : List RowV) (p : RowV → Bool) (hm : len ≤ 1048576) (w : World) (hn₀ : n₀ ≤ w.heap.size)
    (hw : ∀ (k : Nat) (r : RowV) (W1 : World), rs[k]? = some r → Below n₀ w W1 → Calls Try.prog g #[rowV r, .pointer (some ⟨Bc, 0, none⟩)] W1 fun e W' => e = .returned (.bool (p r)) ∧ Below W1.heap.size W1 W')
    (eg : ∀ args w, (callFunc g args).run Try.prog w = .ok (.enter g args) w)
    (hBl : w.cell? ⟨Bl, 0, none⟩ = some (.slice a len cap)) (hBw : w.cell? ⟨Bw, 0, none⟩ = some (.func (.func g) #[] #[.pointer (some ⟨Bc, 0, none⟩)])) (hll : Bl < n₀) (hlw : Bw < n₀) (hR : Rd w n₀ 3 a len (flat rs)) :
    SeqStopsK Fence.wide n Try.prog 111 #[.pointer (some ⟨Bl, 0, none⟩), .pointer (some ⟨Bw, 0, none⟩)] (fun x : RowV => #[rowV x]) (Below n₀) (fun ys => ys = rs.filter p) (fun pre => pre <+: rs.filter p) rs.length w := fun l J Jx W hW hJ _ hY h0 =>
  where1_in n l Bl Bw n₀ Bc g a len cap rs p hm J Jx W (Nat.le_trans hn₀ hW.size) hJ (fun k r W1 hr hb => hw k r W1 hr ((hW.mono hn₀).trans hb)) eg hY ((hW.cell (p := ⟨Bl, 0, none⟩) (Nat.lt_of_lt_of_le hll hn₀)).trans hBl) ((hW.cell (p := ⟨Bw, 0, none⟩) (Nat.lt_of_lt_of_le hlw hn₀)).trans hBw) hlw (hR.below (hW.mono hn₀) (Nat.le_refl _)) h0
end Go.Proofs.Ytfbgimchkdffmaa
