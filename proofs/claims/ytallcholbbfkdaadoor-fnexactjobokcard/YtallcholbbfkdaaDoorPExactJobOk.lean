/-
  Rows.FnExactJobOkCardSaid: laws.FnExactJobOk returns true for every input, and each argument reads afterwards as it read before; the listed variables are tied to the program's text. No further conditions.
-/
import Derived.Test.YtallcholbbfkdaaDoorPlain
import Derived.WalkKit
import Derived.LaidEql
import Derived.Stop.Asserts
import Derived.RowKitTokens
import Derived.Test.YtallcholbbfkdaaDoorRowsOut
import Derived.Test.YtallcholbbfkdaaDoorPartMem
import Derived.Test.YtallcholbbfkdaaDoorAppendAny
import Derived.Test.YtallcholbbfkdaaDoorSince
import Derived.Test.YtallcholbbfkdaaDoorIterRows
import Derived.Test.YtallcholbbfkdaaDoorRdHead
import Derived.Test.YtallcholbbfkdaaDoorLowB
import Derived.Test.YtallcholbbfkdaaDoorRdIn
import Derived.Test.YtallcholbbfkdaaDoorSortedList
import Derived.Maps.AppendAt
import Derived.Deep.MidRow
import Derived.OwnWalkIn
import Derived.RangeFuncCalls
import Derived.Test.YtallcholbbfkdaaDoorStepOne
import Derived.Laws.ResultCell
import Derived.Test.YtallcholbbfkdaaDoorRowsMem
import Derived.Test.YtallcholbbfkdaaDoorMarkRows
import Derived.Test.YtallcholbbfkdaaDoorRows
import Derived.ProofKit
import Derived.LaidMore
import Derived.LaidLaws
import Derived.LaidHandle
import Derived.Deep.DeepHandedRow
import Derived.OpenVars
import Derived.Stop.Joined
import Derived.Test.YtallcholbbfkdaaDoorOpen
import Derived.Test.YtallcholbbfkdaaDoorCards
import Derived.Test.YtallcholbbfkdaaDoorTie
namespace Go.Proofs.YtallcholbbfkdaaDoor
open Go.RowKit Go.Extern.Stop Go.Stop Go.Extern
theorem is_typeOf (v : Value) (w : World) : (Extern.ReflectliteType.typeOf #[.iface 198 v]).run Tryd.prog w = .ok (.iface 156 (.agg #[.pointer (some ⟨4, 198, none⟩)])) w := by kernel_rfl
noncomputable def cmpF : Array Value → Sem Value := Extern.ReflectliteType.method fun t => do Go.Extern.Rtype.noPackHeld "Comparable" t; pure (.bool (← typeInfo t).comparable)
theorem is_comparable (w : World) : (cmpF #[.agg #[.pointer (some ⟨4, 198, none⟩)]]).run Tryd.prog w = .ok (.bool true) w := by kernel_rfl
theorem is_methodComparable (v : Value) (w : World) : (Go.method 329 156 v "Comparable").run Tryd.prog w = .ok (159, v) w := by kernel_rfl
theorem is_comp : (Tryd.prog.info? 198).map (·.comparable) = some true := by kernel_rfl
theorem is_size : (Tryd.prog.info? 217).map (·.size) = some 1 := by kernel_rfl
theorem is_noIs (v : Value) (xT : TypeId) (w : World) : (Instr.typeAssert (.iface 101 v) xT 158 true).run Tryd.prog w = .ok (.tuple #[.nilIface, .bool false]) w := run_typeAssert_lacksB Tryd.underlying158 (by kernel_rfl) (by kernel_rfl) v xT w
theorem is_hasUnwrap (v : Value) (xT : TypeId) (w : World) : (Instr.typeAssert (.iface 101 v) xT 161 true).run Tryd.prog w = .ok (.tuple #[.iface 101 v, .bool true]) w := run_typeAssert_hasB Tryd.underlying161 (by kernel_rfl) v xT w
theorem is_methodUnwrap (v : Value) (w : World) : (Go.method 329 101 v "Unwrap").run Tryd.prog w = .ok (153, v) w := by kernel_rfl
theorem is_nil (b : Addr) (w : World) :
    Calls Tryd.prog 53 #[.nilIface, .iface 198 (.pointer (some b))] w fun e w' => e = .returned (.bool false) ∧ w' = w := by
  have hn := run_eql_iface_nil_left (P := Tryd.prog) w 198 (.pointer (some b)) Tryd.underlying72
  go_enter Tryd.func53, Tryd.ntmps53
  go_wp2
  go_ret
  exact ⟨rfl, rfl⟩
theorem is_rejection (pb po : Nat) (b : Addr) (w : World) (h1 : w.cell? ⟨pb, po, none⟩ = some (.iface 198 (.pointer (some b)))) :
    Calls Tryd.prog 53 #[.iface 101 (.pointer (some ⟨pb, po, none⟩)), .iface 198 (.pointer (some b))] w fun e w' => e = .returned (.bool true) ∧ w' = w := by
  obtain ⟨i, hi, hcmp⟩ := Option.map_eq_some_iff.1 is_comp
  obtain ⟨j, hj, hjs⟩ := Option.map_eq_some_iff.1 is_size
  have h8 := @run_callFunc_extern Tryd.prog 76 _ Extern.ReflectliteType.typeOf Tryd.func76 (by kernel_rfl) (by kernel_rfl) (by kernel_rfl) (by kernel_rfl)
  have h32 := @run_callFunc_extern Tryd.prog 159 _ cmpF Tryd.func159 (by kernel_rfl) (by kernel_rfl) (by kernel_rfl) (by kernel_rfl)
  have tT := is_typeOf
  have cT := is_comparable
  have mR := is_methodComparable
  have nW := is_noIs
  have uW := is_hasUnwrap
  have mU := is_methodUnwrap
  have heq := run_eql_iface_ptr_same (P := Tryd.prog) w b Tryd.underlying72 Tryd.underlying198 hi hcmp hj
  have hty := run_eql_iface_types (P := Tryd.prog) 101 198 (.pointer (some ⟨pb, po, none⟩)) (.pointer (some b)) Tryd.underlying72 (by decide) w
  go_enter Tryd.func53, Tryd.ntmps53
  go_wp2
  refine wp_loop_rounds 2 ?_
  rw [rounds_succ]
  go_wp2
  rw [rounds_succ]
  go_wp2
  go_ret
  exact ⟨rfl, rfl⟩
end Go.Proofs.YtallcholbbfkdaaDoor

namespace Go.Proofs.YtallcholbbfkdaaDoor
open Go.RowKit
theorem flat_one2 (l : List RowV) : ∀ u ∈ flat l, u.oneCell' = true := by
  induction l with
  | nil => simp [flat]
  | cons r l ih =>
    intro u hu
    rw [flat_cons] at hu
    simp only [List.mem_cons] at hu
    rcases hu with rfl | rfl | rfl | hu
    · rfl
    · rfl
    · rfl
    · exact ih u hu
theorem flatten_take {ps : List (List RowV)} {k : Nat} {r : List RowV} (h : ps[k]? = some r) : (ps.take (k + 1)).flatten = (ps.take k).flatten ++ r := by
  obtain ⟨hk, rfl⟩ := List.getElem?_eq_some_iff.1 h
  rw [List.take_succ_eq_append_getElem hk, List.flatten_append]; simp only [List.flatten_cons, List.flatten_nil, List.append_nil]
theorem flatten_take_le (ps : List (List RowV)) (k : Nat) : (ps.take k).flatten.length ≤ ps.flatten.length := by
  have : ps.flatten = (ps.take k).flatten ++ (ps.drop k).flatten := by rw [← List.flatten_append, List.take_append_drop]
  rw [this, List.length_append]; omega
set_option maxRecDepth 100000 in
set_option maxHeartbeats 4000000 in
theorem all_any (a : Option Addr) (n cap : Nat) (ps : List (List RowV)) (w : World) (hn : n ≤ 1048576) (hm : ps.flatten.length ≤ 1048576) (hP : PRd w w.heap.size a n ps) :
    Calls Tryd.prog 22 #[.slice a n cap] w (RowsOut w ps.flatten) := by
  obtain ⟨i0, hi, hz0, hz1, hz2⟩ := info_parts infoRow
  have hpl := Lib.hid hP.len
  have hO0 : (w.alloc (.cells #[] 68)).ownsRow w.heap.size 68 3 (.slice (some ⟨w.heap.size, 0, none⟩) 0 0) 0 (flat (ps.take 0).flatten) := World.ownsRow_lit (base := w.heap.size) (size := 3) w #[] 0 (Nat.le_refl _) (Nat.zero_le _) rfl
  go_enter Tryd.func22, Tryd.ntmps22
  go_wp2_with fail
  go_loopw [3, 4] (fun v i wr => ∃ (k q : Nat) (b : Option Addr) (c : Nat), k ≤ n ∧ i = .int .i64 k ∧ v = .slice b q c ∧ q ≤ 1048576 ∧ Hid ((ps.take k).flatten.length = q) ∧ wr.ownsRow w.heap.size 68 3 (.slice b q c) q (flat (ps.take k).flatten) ∧ Below w.heap.size w wr) (fun _ i _ => n - (intOf i).toNat)
  case atStart => exact ⟨0, 0, _, 0, Nat.zero_le _, rfl, rfl, Nat.zero_le _, Lib.hid (by simp), hO0, bl1 _ _⟩
  case round =>
    obtain ⟨k, q, b, c, hk, rfl, rfl, hq, HQ, hO, hbr⟩ := hrel
    clear hO0
    by_cases hlt : k < n
    · obtain ⟨b1, o1, a1, c1, r1, rfl, hB1, hr1, d1, R1⟩ := (hP.below hbr (Nat.le_refl _)).at_ hlt
      have HC := Lib.hid (flatten_take hr1)
      have hle2 := flatten_take_le ps (k + 1)
      rw [HC.out, List.length_append, HQ.out] at hle2
      replace R1 := R1.more hbr.size
      clear hr1
      go_wp2_with (at_builtin; refine wpList_append_rd rfl _ _ 27 rfl w.heap.size 68 i0 (.agg #[.string ⟨#[]⟩, .int .i64 0, .string ⟨#[]⟩]) 3 40 Tryd.underlying27 hi hz0 hz1 hz2 rfl (by decide) (.slice b q c) q (flat (ps.take k).flatten) (by rfl) hO a1 wr.heap.size r1.length c1 (flat r1) (by rfl) R1 (flat_one2 _) (by unfold maxLen; omega) (by omega) hbr.size ?_)
      intro v' w8 hO8 hg8 _
      obtain ⟨a', cap', rfl⟩ := own_slice' hO8
      have hb8 := hbr.grown hg8 hbr.size (fun q e => (own_ge hO q e).1)
      rw [← flat_append, ← HC.out] at hO8
      clear hg8 hO R1 d1
      go_wp2_with fail
      go_roundw
      case rel => exact ⟨k + 1, q + r1.length, a', cap', by omega, by go_num, by go_num, by omega, Lib.hid (by rw [HC.out, List.length_append, HQ.out]), hO8, hb8⟩
      case measure => simp [intOf]; omega
    · have hkn : k = n := by omega
      have HA := Lib.hid (show (ps.take k).flatten = ps.flatten by rw [List.take_of_length_le (by rw [hpl.out]; omega)])
      have HL := HQ.out
      rw [HA.out] at HL hO
      subst HL
      clear hkn
      go_wp2_with fail
      go_ret
      exact ⟨b, c, rfl, hbr, hO⟩
set_option maxRecDepth 100000 in
set_option maxHeartbeats 4000000 in
theorem l3All_any (a : Option Addr) (n cap : Nat) (ps : List (List RowV)) (w : World) (hn : n ≤ 1048576) (hm : ps.flatten.length ≤ 1048576) (hP : PRd w w.heap.size a n ps) :
    Calls Tryd.prog 92 #[.slice a n cap] w (RowsOut w ps.flatten) := by
  obtain ⟨i0, hi, hz0, hz1, hz2⟩ := info_parts infoRow
  have hpl := Lib.hid hP.len
  have hO0 : (w.alloc (.cells #[] 68)).ownsRow w.heap.size 68 3 (.slice (some ⟨w.heap.size, 0, none⟩) 0 0) 0 (flat (ps.take 0).flatten) := World.ownsRow_lit (base := w.heap.size) (size := 3) w #[] 0 (Nat.le_refl _) (Nat.zero_le _) rfl
  go_enter Tryd.func92, Tryd.ntmps92
  go_wp2_with fail
  go_loopw [3, 4] (fun v i wr => ∃ (k q : Nat) (b : Option Addr) (c : Nat), k ≤ n ∧ i = .int .i64 k ∧ v = .slice b q c ∧ q ≤ 1048576 ∧ Hid ((ps.take k).flatten.length = q) ∧ wr.ownsRow w.heap.size 68 3 (.slice b q c) q (flat (ps.take k).flatten) ∧ Below w.heap.size w wr) (fun _ i _ => n - (intOf i).toNat)
  case atStart => exact ⟨0, 0, _, 0, Nat.zero_le _, rfl, rfl, Nat.zero_le _, Lib.hid (by simp), hO0, bl1 _ _⟩
  case round =>
    obtain ⟨k, q, b, c, hk, rfl, rfl, hq, HQ, hO, hbr⟩ := hrel
    clear hO0
    by_cases hlt : k < n
    · obtain ⟨b1, o1, a1, c1, r1, rfl, hB1, hr1, d1, R1⟩ := (hP.below hbr (Nat.le_refl _)).at_ hlt
      have HC := Lib.hid (flatten_take hr1)
      have hle2 := flatten_take_le ps (k + 1)
      rw [HC.out, List.length_append, HQ.out] at hle2
      replace R1 := R1.more hbr.size
      clear hr1
      go_wp2_with (at_builtin; refine wpList_append_rd rfl _ _ 27 rfl w.heap.size 68 i0 (.agg #[.string ⟨#[]⟩, .int .i64 0, .string ⟨#[]⟩]) 3 40 Tryd.underlying27 hi hz0 hz1 hz2 rfl (by decide) (.slice b q c) q (flat (ps.take k).flatten) (by rfl) hO a1 wr.heap.size r1.length c1 (flat r1) (by rfl) R1 (flat_one2 _) (by unfold maxLen; omega) (by omega) hbr.size ?_)
      intro v' w8 hO8 hg8 _
      obtain ⟨a', cap', rfl⟩ := own_slice' hO8
      have hb8 := hbr.grown hg8 hbr.size (fun q e => (own_ge hO q e).1)
      rw [← flat_append, ← HC.out] at hO8
      clear hg8 hO R1 d1
      go_wp2_with fail
      go_roundw
      case rel => exact ⟨k + 1, q + r1.length, a', cap', by omega, by go_num, by go_num, by omega, Lib.hid (by rw [HC.out, List.length_append, HQ.out]), hO8, hb8⟩
      case measure => simp [intOf]; omega
    · have hkn : k = n := by omega
      have HA := Lib.hid (show (ps.take k).flatten = ps.flatten by rw [List.take_of_length_le (by rw [hpl.out]; omega)])
      have HL := HQ.out
      rw [HA.out] at HL hO
      subst HL
      clear hkn
      go_wp2_with fail
      go_ret
      exact ⟨b, c, rfl, hbr, hO⟩
end Go.Proofs.YtallcholbbfkdaaDoor

namespace Go.Proofs.YtallcholbbfkdaaDoor
open Go.RowKit Go.Extern.Stop Go.Stop Go.Extern
/-- What the listed variable errors.errorType holds: the handle of the type error. -/
def errTypeV : Value := .iface 156 (.agg #[.pointer (some ⟨4, 72, none⟩)])
theorem as_nil (t : Value) (w : World) :
    Calls Tryd.prog 66 #[.nilIface, t] w fun e w' => e = .returned (.bool false) ∧ w' = w := by
  go_enter Tryd.func66, Tryd.ntmps66
  go_wp2
  go_ret
  exact ⟨rfl, rfl⟩
theorem rl_valueOfP (t : Addr) (w : World) : (ReflectliteValue.unpack (.iface 103 (.pointer (some t)))).run Tryd.prog w
    = .ok (.agg #[.pointer (some ⟨4, 103, none⟩), .pointer (some ⟨w.heap.size, 0, none⟩), .int .u64 150]) (w.alloc (.cells #[.pointer (some t)] 103)) := by kernel_rfl
theorem rl_typeP (a : Addr) (w : World) : (ReflectliteValue.methodAny (ReflectliteValue.valueError "reflectlite.Value.Type" 0) (fun t _ _ _ => ReflectliteType.toType t) #[.agg #[.pointer (some ⟨4, 103, none⟩), .pointer (some a), .int .u64 150]]).run Tryd.prog w
    = .ok (.iface 156 (.agg #[.pointer (some ⟨4, 103, none⟩)])) w := by kernel_rfl
theorem rl_methodKind (h : Value) (w : World) : (Go.method 329 156 (.agg #[h]) "Kind").run Tryd.prog w = .ok (149, h) w := by kernel_rfl
theorem rl_kindP (w : World) : ((ReflectliteType.abiMethod fun t => (fun a : Nat => Value.int IntKind.u8 (a : Int)) <$> Rtype.kind t) #[.pointer (some ⟨4, 103, none⟩)]).run Tryd.prog w = .ok (.int .u8 22) w := by kernel_rfl
theorem rl_kindR (w : World) : ((ReflectliteType.abiMethod fun t => (fun a : Nat => Value.int IntKind.u8 (a : Int)) <$> Rtype.kind t) #[.pointer (some ⟨4, 101, none⟩)]).run Tryd.prog w = .ok (.int .u8 22) w := by kernel_rfl
theorem rlm (z : Sem Value) (f : TypeId → Addr → Nat → Nat → Sem Value) (v : Value) :
    ReflectliteValue.method z f #[v] = (do match ← ReflectliteValue.parts v with | none => z | some (t, a, fl) => f t a fl (fl % 32)) := rfl
theorem rl_partsP (a : Addr) (w : World) : (ReflectliteValue.parts (.agg #[.pointer (some ⟨4, 103, none⟩), .pointer (some a), .int .u64 150])).run Tryd.prog w = .ok (some (103, a, 150)) w := by kernel_rfl
theorem rl_isNilP (a p : Addr) (W : World) (ha : W.cell? a = some (.pointer (some p))) :
    (ReflectliteValue.method (ReflectliteValue.valueError "reflectlite.Value.IsNil" 0) ReflectliteValue.isNil #[.agg #[.pointer (some ⟨4, 103, none⟩), .pointer (some a), .int .u64 150]]).run Tryd.prog W = .ok (.bool false) W := by
  rw [rlm]
  simp only [Sem.run_bind, rl_partsP, Result.andThen]
  simp [ReflectliteValue.isNil, loadVar, isAgg, underlying, Tryd.underlying103, ha, Result.andThen]
theorem rl_methodElem (h : Value) (w : World) : (Go.method 329 156 (.agg #[h]) "Elem").run Tryd.prog w = .ok (160, .agg #[h]) w := by kernel_rfl
theorem rl_methodImplements (h : Value) (w : World) : (Go.method 329 156 (.agg #[h]) "Implements").run Tryd.prog w = .ok (161, .agg #[h]) w := by kernel_rfl
theorem rl_methodAssignable (h : Value) (w : World) : (Go.method 329 156 (.agg #[h]) "AssignableTo").run Tryd.prog w = .ok (158, .agg #[h]) w := by kernel_rfl
theorem rl_elemP (w : World) : (ReflectliteType.method ReflectliteType.elem #[.agg #[.pointer (some ⟨4, 103, none⟩)]]).run Tryd.prog w = .ok (.iface 156 (.agg #[.pointer (some ⟨4, 101, none⟩)])) w := by kernel_rfl
theorem rl_implementsR (w : World) : (ReflectliteType.relation "Implements" ReflectliteType.implements_ #[.agg #[.pointer (some ⟨4, 101, none⟩)], .iface 156 (.agg #[.pointer (some ⟨4, 72, none⟩)])]).run Tryd.prog w = .ok (.bool true) w := by kernel_rfl
theorem rl_typeOfR (v : Value) (w : World) : (ReflectliteType.typeOf #[.iface 101 v]).run Tryd.prog w = .ok (.iface 156 (.agg #[.pointer (some ⟨4, 101, none⟩)])) w := by kernel_rfl
theorem rl_assignableR (w : World) : (ReflectliteType.relation "AssignableTo" ReflectliteType.assignableTo #[.agg #[.pointer (some ⟨4, 101, none⟩)], .iface 156 (.agg #[.pointer (some ⟨4, 101, none⟩)])]).run Tryd.prog w = .ok (.bool true) w := by kernel_rfl
theorem rl_valueOfR (e : Addr) (w : World) : (ReflectliteValue.unpack (.iface 101 (.pointer (some e)))).run Tryd.prog w
    = .ok (.agg #[.pointer (some ⟨4, 101, none⟩), .pointer (some ⟨w.heap.size, 0, none⟩), .int .u64 150]) (w.alloc (.cells #[.pointer (some e)] 101)) := by kernel_rfl
theorem rl_elemOfP (w : World) : (Rtype.elem? 103).run Tryd.prog w = .ok (some 101) w := by kernel_rfl
theorem rl_mkR (p : Addr) (w : World) : (ReflectliteValue.mk 101 p ReflectliteValue.flagAddr).run Tryd.prog w = .ok (.agg #[.pointer (some ⟨4, 101, none⟩), .pointer (some p), .int .u64 406]) w := by kernel_rfl
theorem rl_elemVP (a p : Addr) (W : World) (ha : W.cell? a = some (.pointer (some p))) :
    (ReflectliteValue.method (ReflectliteValue.valueError "reflectlite.Value.Elem" 0) ReflectliteValue.elem #[.agg #[.pointer (some ⟨4, 103, none⟩), .pointer (some a), .int .u64 150]]).run Tryd.prog W
      = .ok (.agg #[.pointer (some ⟨4, 101, none⟩), .pointer (some p), .int .u64 406]) W := by
  rw [rlm]
  simp only [Sem.run_bind, rl_partsP, Result.andThen]
  simp [ReflectliteValue.elem, loadVar, isAgg, underlying, Tryd.underlying103, ha, Result.andThen, rl_elemOfP, rl_mkR]
theorem rl_partsRa (a : Addr) (w : World) : (ReflectliteValue.parts (.agg #[.pointer (some ⟨4, 101, none⟩), .pointer (some a), .int .u64 406])).run Tryd.prog w = .ok (some (101, a, 406)) w := by kernel_rfl
theorem rl_partsR (a : Addr) (w : World) : (ReflectliteValue.parts (.agg #[.pointer (some ⟨4, 101, none⟩), .pointer (some a), .int .u64 150])).run Tryd.prog w = .ok (some (101, a, 150)) w := by kernel_rfl
theorem rl_directR (w : World) : (Rtype.directlyAssignable 101 101).run Tryd.prog w = .ok true w := by kernel_rfl
theorem rl_setR (ta b e : Addr) (old : Value) (W : World) (hb : W.cell? b = some (.pointer (some e))) (ht : W.cell? ta = some old) (hf : W.frozen? ta = false) :
    (ReflectliteValue.set #[.agg #[.pointer (some ⟨4, 101, none⟩), .pointer (some ta), .int .u64 406], .agg #[.pointer (some ⟨4, 101, none⟩), .pointer (some b), .int .u64 150]]).run Tryd.prog W
      = .ok (.tuple #[]) (W.setCell ta (.pointer (some e))) := by
  generalize hx : (Value.agg #[.pointer (some ⟨4, 101, none⟩), .pointer (some ta), .int .u64 406]) = x
  generalize hy : (Value.agg #[.pointer (some ⟨4, 101, none⟩), .pointer (some b), .int .u64 150]) = y
  have p1 : ∀ w, (ReflectliteValue.parts x).run Tryd.prog w = .ok (some (101, ta, 406)) w := by subst hx; exact rl_partsRa ta
  have p2 : ∀ w, (ReflectliteValue.parts y).run Tryd.prog w = .ok (some (101, b, 150)) w := by subst hy; exact rl_partsR b
  change Sem.run Tryd.prog (Bind.bind (ReflectliteValue.parts x) fun p => Bind.bind (ReflectliteValue.parts y) _) W = _
  simp only [Sem.run_bind, p1, p2, Result.andThen]
  simp [ReflectliteValue.flagAddr, loadVar, isAgg, underlying, Tryd.underlying101, hb, Result.andThen, rl_directR, storeVar, Value.cells, storeCells, Addr.add]
  rw [run_store Tryd.prog W ta _ _ (by rfl)]
  simp [ht, hf]
set_option maxHeartbeats 4000000 in
theorem as_loop_hit (e t b0 : Addr) (old : Value) (w : World) (ht0 : w.cell? t = some old) (hf0 : w.frozen? t = false) (hb0 : w.cell? b0 = some (.pointer (some t))) :
    Calls Tryd.prog 96 #[.iface 101 (.pointer (some e)), .iface 103 (.pointer (some t)), .agg #[.pointer (some ⟨4, 103, none⟩), .pointer (some b0), .int .u64 150], .iface 156 (.agg #[.pointer (some ⟨4, 101, none⟩)])] w fun ev w' => ev = .returned (.bool true) ∧ w' = ((w.alloc (.cells #[.pointer (some ⟨4, 103, none⟩), .pointer (some b0), .int .u64 150] 142)).alloc (.cells #[.pointer (some e)] 101)).setCell t (.pointer (some e)) := by
  have hA := @run_callFunc_extern Tryd.prog 93 _ (fun args => ReflectliteValue.unpack (args.getD 0 (.tuple #[]))) Tryd.func93 (by kernel_rfl) (by kernel_rfl) (by kernel_rfl) (by kernel_rfl)
  have hT := @run_callFunc_extern Tryd.prog 76 _ ReflectliteType.typeOf Tryd.func76 (by kernel_rfl) (by kernel_rfl) (by kernel_rfl) (by kernel_rfl)
  have hG := @run_callFunc_extern Tryd.prog 158 _ (ReflectliteType.relation "AssignableTo" ReflectliteType.assignableTo) Tryd.func158 (by kernel_rfl) (by kernel_rfl) (by kernel_rfl) (by kernel_rfl)
  have hE := @run_callFunc_extern Tryd.prog 120 _ (ReflectliteValue.method (ReflectliteValue.valueError "reflectlite.Value.Elem" 0) ReflectliteValue.elem) Tryd.func120 (by kernel_rfl) (by kernel_rfl) (by kernel_rfl) (by kernel_rfl)
  have hS := @run_callFunc_extern Tryd.prog 121 _ ReflectliteValue.set Tryd.func121 (by kernel_rfl) (by kernel_rfl) (by kernel_rfl) (by kernel_rfl)
  have tO := rl_typeOfR
  have mA := rl_methodAssignable
  have aR := rl_assignableR
  have vR := rl_valueOfR
  have hbl : b0.block < w.heap.size := by
    rcases Nat.lt_or_ge b0.block w.heap.size with h | h
    · exact h
    · simp [World.cell?, Array.getElem?_eq_none h] at hb0
  have htl : t.block < w.heap.size := by
    rcases Nat.lt_or_ge t.block w.heap.size with h | h
    · exact h
    · simp [World.cell?, Array.getElem?_eq_none h] at ht0
  have el := rl_elemVP b0 t (w.alloc (.cells #[.pointer (some ⟨4, 103, none⟩), .pointer (some b0), .int .u64 150] 142)) (by rw [World.cell?_alloc_lt _ _ b0 hbl]; exact hb0)
  have st := rl_setR t ⟨w.heap.size + 1, 0, none⟩ e old ((w.alloc (.cells #[.pointer (some ⟨4, 103, none⟩), .pointer (some b0), .int .u64 150] 142)).alloc (.cells #[.pointer (some e)] 101))
    (by rw [World.cell?_alloc_at _ _ _ _ (by simp)]; rfl)
    (by rw [World.cell?_alloc_lt _ _ t (by simp; omega), World.cell?_alloc_lt _ _ t htl]; exact ht0)
    (by rw [World.frozen?_alloc_old _ _ t (by simp; omega), World.frozen?_alloc_old _ _ t (Nat.ne_of_lt htl)]; exact hf0)
  go_enter Tryd.func96, Tryd.ntmps96
  go_wp2
  refine wp_loop_rounds 1 ?_
  rw [rounds_succ]
  go_wp2
  go_ret
  exact ⟨rfl, rfl⟩
end Go.Proofs.YtallcholbbfkdaaDoor

namespace Go.Proofs.YtallcholbbfkdaaDoor
open Go.RowKit Go.Extern.Stop Go.Stop Go.Extern
set_option maxHeartbeats 4000000 in
theorem as_hit (e t : Addr) (old : Value) (w : World) (hg : w.cell? ⟨2, 0, none⟩ = some errTypeV) (ht0 : w.cell? t = some old) (hf0 : w.frozen? t = false) :
    Calls Tryd.prog 66 #[.iface 101 (.pointer (some e)), .iface 103 (.pointer (some t))] w fun ev w' => ev = .returned (.bool true) ∧ w' = ((((w.alloc (.cells #[.pointer (some t)] 103)).alloc (.cells #[.pointer (some ⟨4, 103, none⟩), .pointer (some ⟨w.heap.size, 0, none⟩), .int .u64 150] 142)).alloc (.cells #[.pointer (some ⟨4, 103, none⟩), .pointer (some ⟨w.heap.size, 0, none⟩), .int .u64 150] 142)).alloc (.cells #[.pointer (some e)] 101)).setCell t (.pointer (some e)) := by
  have hA := @run_callFunc_extern Tryd.prog 93 _ (fun args => ReflectliteValue.unpack (args.getD 0 (.tuple #[]))) Tryd.func93 (by kernel_rfl) (by kernel_rfl) (by kernel_rfl) (by kernel_rfl)
  have hT := @run_callFunc_extern Tryd.prog 94 _ (ReflectliteValue.methodAny (ReflectliteValue.valueError "reflectlite.Value.Type" 0) (fun t _ _ _ => ReflectliteType.toType t)) Tryd.func94 (by kernel_rfl) (by kernel_rfl) (by kernel_rfl) (by kernel_rfl)
  have hN := @run_callFunc_extern Tryd.prog 95 _ (ReflectliteValue.method (ReflectliteValue.valueError "reflectlite.Value.IsNil" 0) ReflectliteValue.isNil) Tryd.func95 (by kernel_rfl) (by kernel_rfl) (by kernel_rfl) (by kernel_rfl)
  have hK := @run_callFunc_extern Tryd.prog 149 _ (ReflectliteType.abiMethod fun t => do pure (.int .u8 (← Rtype.kind t))) Tryd.func149 (by kernel_rfl) (by kernel_rfl) (by kernel_rfl) (by kernel_rfl)
  have hE := @run_callFunc_extern Tryd.prog 160 _ (ReflectliteType.method ReflectliteType.elem) Tryd.func160 (by kernel_rfl) (by kernel_rfl) (by kernel_rfl) (by kernel_rfl)
  have hI := @run_callFunc_extern Tryd.prog 161 _ (ReflectliteType.relation "Implements" ReflectliteType.implements_) Tryd.func161 (by kernel_rfl) (by kernel_rfl) (by kernel_rfl) (by kernel_rfl)
  have f6 := rl_valueOfP
  have f7 := rl_typeP
  have mK := rl_methodKind
  have mE := rl_methodElem
  have mI := rl_methodImplements
  have k27 := rl_kindP
  have k25 := rl_kindR
  have e27 := rl_elemP
  have i25 := rl_implementsR
  have n8 := rl_isNilP ⟨w.heap.size, 0, none⟩ t ((w.alloc (.cells #[.pointer (some t)] 103)).alloc (.cells #[.pointer (some ⟨4, 103, none⟩), .pointer (some ⟨w.heap.size, 0, none⟩), .int .u64 150] 142)) (by simp)
  have hlt : 2 < w.heap.size := by
    rcases Nat.lt_or_ge 2 w.heap.size with h | h
    · exact h
    · simp [World.cell?, Array.getElem?_eq_none h] at hg
  unfold errTypeV at hg
  have hg2 : ((w.alloc (.cells #[.pointer (some t)] 103)).alloc (.cells #[.pointer (some ⟨4, 103, none⟩), .pointer (some ⟨w.heap.size, 0, none⟩), .int .u64 150] 142)).cell? ⟨2, 0, none⟩ = some (.iface 156 (.agg #[.pointer (some ⟨4, 72, none⟩)])) := by
    rw [World.cell?_alloc_lt _ _ ⟨2, 0, none⟩ (by simp; omega), World.cell?_alloc_lt _ _ ⟨2, 0, none⟩ hlt]; exact hg
  have htl : t.block < w.heap.size := by
    rcases Nat.lt_or_ge t.block w.heap.size with h | h
    · exact h
    · simp [World.cell?, Array.getElem?_eq_none h] at ht0
  have ht2 : ((w.alloc (.cells #[.pointer (some t)] 103)).alloc (.cells #[.pointer (some ⟨4, 103, none⟩), .pointer (some ⟨w.heap.size, 0, none⟩), .int .u64 150] 142)).cell? t = some old := by
    rw [World.cell?_alloc_lt _ _ t (by simp; omega), World.cell?_alloc_lt _ _ t htl]; exact ht0
  have hf2 : ((w.alloc (.cells #[.pointer (some t)] 103)).alloc (.cells #[.pointer (some ⟨4, 103, none⟩), .pointer (some ⟨w.heap.size, 0, none⟩), .int .u64 150] 142)).frozen? t = false := by
    rw [World.frozen?_alloc_old _ _ t (by simp; omega), World.frozen?_alloc_old _ _ t (Nat.ne_of_lt htl)]; exact hf0
  have CL := as_loop_hit e t ⟨w.heap.size, 0, none⟩ old _ ht2 hf2 (by simp)
  go_enter Tryd.func66, Tryd.ntmps66
  go_wp2_with (go_at_call 96; refine CL.mono ?_; rintro ev w' ⟨rfl, rfl⟩)
  go_ret
  exact ⟨rfl, rfl⟩
end Go.Proofs.YtallcholbbfkdaaDoor

namespace Go.Proofs.YtallcholbbfkdaaDoor
open Go.RowKit Go.Shelf
attribute [local go_sem] Oper.semAt_some
/-- Stretches of so many rows; no more than so many. -/
def chunksF (N : Nat) : Nat → List RowV → List (List RowV)
  | 0, _ => []
  | f + 1, l => if l.length = 0 then [] else l.take N :: chunksF N f (l.drop N)
def chunksL (N : Nat) (l : List RowV) : List (List RowV) := chunksF N l.length l
theorem chunksF_fuel {N : Nat} (hN : 1 ≤ N) : ∀ (f g : Nat) (l : List RowV), l.length ≤ f → l.length ≤ g → chunksF N f l = chunksF N g l
  | 0, 0, _, _, _ => rfl
  | 0, g + 1, l, h, _ => by rw [chunksF, chunksF, if_pos (by omega)]
  | f + 1, 0, l, _, h => by rw [chunksF, chunksF, if_pos (by omega)]
  | f + 1, g + 1, l, hf, hg => by
    rw [chunksF, chunksF]
    by_cases h : l.length = 0
    · rw [if_pos h, if_pos h]
    · rw [if_neg h, if_neg h, chunksF_fuel hN f g _ (by rw [List.length_drop]; omega) (by rw [List.length_drop]; omega)]
theorem chunksL_none {N : Nat} {l : List RowV} (h : l.length = 0) : chunksL N l = [] := by
  unfold chunksL
  rw [h]; rfl
theorem chunksL_next {N : Nat} (hN : 1 ≤ N) {l : List RowV} (h : l.length ≠ 0) : chunksL N l = l.take N :: chunksL N (l.drop N) := by
  unfold chunksL
  obtain ⟨f, hf⟩ : ∃ f, l.length = f + 1 := ⟨l.length - 1, by omega⟩
  rw [hf, chunksF, if_neg h, chunksF_fuel hN f (l.drop N).length _ (by rw [List.length_drop]; omega) (Nat.le_refl _)]
/-- A stretch of rows, where it lies. -/
structure ChV where
  a : Option Addr
  n : Nat
  rows : List RowV
def ChIn (w : World) (B : Nat) : Type := {x : ChV // Rd w B 3 x.a x.n (flat x.rows) ∧ x.n ≤ 1048576 ∧ ∃ b off, x.a = some ⟨b, off, none⟩}
def chOf {w : World} {B : Nat} (ys : List (ChIn w B)) : List (List RowV) := ys.map fun x => x.1.rows
def chV {w : World} {B : Nat} (x : ChIn w B) : Array Value := #[.slice x.1.a x.1.n x.1.n]
/-- What lies below a bound is kept, and two more blocks. -/
def KeepTwo (n₀ B1 B2 : Nat) (W W' : World) : Prop := Below n₀ W W' ∧ W'.heap[B1]? = W.heap[B1]? ∧ W'.heap[B2]? = W.heap[B2]?
theorem KeepTwo.refl (n₀ B1 B2 : Nat) (W : World) : KeepTwo n₀ B1 B2 W W := ⟨Below.refl _ _, rfl, rfl⟩
theorem keepTwo_t {n₀ B1 B2 : Nat} {A B C : World} (h : KeepTwo n₀ B1 B2 A B) (k : KeepTwo n₀ B1 B2 B C) : KeepTwo n₀ B1 B2 A C := ⟨h.1.trans k.1, k.2.1.trans h.2.1, k.2.2.trans h.2.2⟩
theorem keepTwo_b {n₀ B1 B2 : Nat} {w : World} (hn : n₀ ≤ w.heap.size) (h1 : B1 < w.heap.size) (h2 : B2 < w.heap.size) (W : World) (l : Nat) (o o' : Obj) (hl : w.heap.size ≤ l) (h : W.heap[l]? = some o) (hc : o.isCells = false) (hw : o.isWalk = false) : KeepTwo n₀ B1 B2 W (W.putObj l o') := by
  have hb := belowK_b (n₀ := w.heap.size) (Nat.le_refl _) W l o o' hl h hc hw
  exact ⟨belowK_b hn W l o o' hl h hc hw, hb.block _ h1, hb.block _ h2⟩
theorem KeepTwo.cell1 {n₀ B1 B2 : Nat} {W W' : World} (h : KeepTwo n₀ B1 B2 W W') : W'.cell? ⟨B1, 0, none⟩ = W.cell? ⟨B1, 0, none⟩ := World.cell?_of_block (a := ⟨B1, 0, none⟩) h.2.1
theorem KeepTwo.cell2 {n₀ B1 B2 : Nat} {W W' : World} (h : KeepTwo n₀ B1 B2 W W') : W'.cell? ⟨B2, 0, none⟩ = W.cell? ⟨B2, 0, none⟩ := World.cell?_of_block (a := ⟨B2, 0, none⟩) h.2.2
set_option maxRecDepth 100000 in
set_option maxHeartbeats 2000000 in
theorem chunk1_in (n l Bs Bn n₀ N : Nat) (a : Option Addr) (len cap : Nat) (rs : List RowV) (w0 : World) (hN1 : 1 ≤ N) (hN2 : N ≤ 120) (hm : len ≤ 1048576) (hlc : len ≤ cap) (J Jx : List (ChIn w0 n₀) → World → Prop) (W : World)
    (hY : ∀ pre x W1, J pre W1 → pre.length < rs.length → YieldAt Fence.wide (n - 1) Tryd.prog l (chV x) W1 fun e W' =>
      (e = .returned (.bool true) ∧ J (pre ++ [x]) W' ∧ KeepTwo n₀ Bs Bn W1 W') ∨ (e = .returned (.bool false) ∧ Jx (pre ++ [x]) W'))
    (hA : ∀ s X, J s X → J s (World.drew X)) (hBs : W.cell? ⟨Bs, 0, none⟩ = some (.slice a len cap)) (hBn : W.cell? ⟨Bn, 0, none⟩ = some (.int .i64 N)) (hR : Rd w0 n₀ 3 a len (flat rs)) (h0 : J [] W) :
    CallsIn Fence.wide n Tryd.prog 97 #[.func (.yield l) #[] #[], .pointer (some ⟨Bs, 0, none⟩), .pointer (some ⟨Bn, 0, none⟩)] W fun e W' => (∃ v, e = .returned v) ∧
      ((∃ ys, chOf ys = chunksL N rs ∧ J ys W') ∨ (∃ pre, chOf pre <+: chunksL N rs ∧ Jx pre W')) := by
  have hl := Lib.hid hR.rows_length
  have HR := Lib.hid hR
  generalize hT : chunksL N rs = T
  have HT := Lib.hid hT
  clear hT hR
  have HBs := Lib.hid hBs
  have HBn := Lib.hid hBn
  refine callsIn_of_wp Tryd.func97 rfl trivial ?_ rfl
  simp only [Tryd.ntmps97, List.size_toArray, List.length_cons, List.length_nil, Nat.reduceAdd, Nat.reduceSub, Array.replicate_succ, Array.replicate_zero, List.push_toArray, List.append_toArray, List.nil_append, List.cons_append]
  clear hBs hBn
  gi_wp2
  gi_loopw [4] (fun v wr => ∃ (p : Nat) (ys : List (ChIn w0 n₀)), v = .int .i64 p ∧ p ≤ len + 120 ∧ ys.length ≤ p ∧ Hid (T = chOf ys ++ chunksL N (rs.drop p)) ∧ J ys wr ∧ KeepTwo n₀ Bs Bn W wr)
    (fun v _ => len - (intOf v).toNat)
  case atStart => exact ⟨0, [], rfl, by omega, by simp, Lib.hid HT.out.symm, h0, KeepTwo.refl _ _ _ _⟩
  case round =>
    obtain ⟨p, ys, rfl, hp, hyp, HG, hJs, hK⟩ := hrel
    have cS : wr.cell? ⟨Bs, 0, none⟩ = some (.slice a len cap) := hK.cell1.trans HBs.out
    have cN : wr.cell? ⟨Bn, 0, none⟩ = some (.int .i64 N) := hK.cell2.trans HBn.out
    by_cases hlt : p < len
    · have hdl : (rs.drop p).length = len - p := by rw [List.length_drop, hl.out]
      obtain ⟨q, hq1, hq2⟩ : ∃ q : Nat, min (N : Int) ((len - p : Nat) : Int) = (q : Int) ∧ q = min N (len - p) := ⟨min N (len - p), by omega, rfl⟩
      have HN := Lib.hid (chunksL_next hN1 (l := rs.drop p) (by omega))
      have hRp := (show 0 < len by omega)
      obtain ⟨b, off, e, hb, hcell⟩ := HR.out.2 hRp
      subst e
      have hq3 : 1 ≤ q := by omega
      have hq4 : p + q ≤ len := by omega
      clear hRp
      gi_wp2_with fail
      gi_region
      rw [← hq2]
      have hJ2 := hA _ _ hJs
      have hK2 : KeepTwo n₀ Bs Bn W wr.drew := ⟨hK.1.drew, hK.2⟩
      have cS2 : wr.drew.cell? ⟨Bs, 0, none⟩ = some (.slice (some ⟨b, off, none⟩) len cap) := cS
      have cN2 : wr.drew.cell? ⟨Bn, 0, none⟩ = some (.int .i64 N) := cN
      have hrl : ((rs.drop p).take q).length = q := by rw [List.length_take, hdl]; omega
      have hxR : Rd w0 n₀ 3 (some ⟨b, off + p * 3, none⟩) q (flat ((rs.drop p).take q)) := by
        refine Rd.head (n := len - p) ⟨by rw [flat_length, hdl], fun _ => ⟨b, off + p * 3, rfl, hb, fun j u hu => ?_⟩⟩ (by omega)
        have e : flat rs = flat (rs.take p) ++ flat (rs.drop p) := by rw [← flat_append, List.take_append_drop]
        have := hcell (p * 3 + j) u (by
          rw [e, List.getElem?_append_right (by rw [flat_length, List.length_take]; omega), flat_length, List.length_take, show p * 3 + j - min p rs.length * 3 = j by rw [hl.out, Nat.min_eq_left (by omega)]; omega]
          exact hu)
        rw [Nat.add_assoc]; exact this
      have hxq : q ≤ 1048576 ∧ ∃ b' off', some (⟨b, off + p * 3, none⟩ : Addr) = some ⟨b', off', none⟩ := ⟨by omega, b, off + p * 3, rfl⟩
      obtain ⟨x, hx⟩ : ∃ x : ChIn w0 n₀, x = ⟨⟨some ⟨b, off + p * 3, none⟩, q, (rs.drop p).take q⟩, hxR, hxq⟩ := ⟨_, rfl⟩
      have hxe : chOf (ys ++ [x]) = chOf ys ++ [(rs.drop p).take q] := by
        unfold chOf
        rw [List.map_append, hx]
        rfl
      have htk : (rs.drop p).take N = (rs.drop p).take q := by
        rw [hq2]
        rcases Nat.le_total N (len - p) with h | h
        · rw [Nat.min_eq_left h]
        · rw [Nat.min_eq_right h, List.take_of_length_le (by omega), List.take_of_length_le (by omega)]
      have HG2 := Lib.hid (show T = chOf (ys ++ [x]) ++ chunksL N (rs.drop (p + N)) by rw [HG.out, HN.out, hxe, htk, List.append_assoc, List.drop_drop]; rfl)
      obtain ⟨fn, tmps, assign, body, hy, hRd⟩ := hY ys x wr.drew hJ2 (by rw [hl.out]; omega)
      rw [show chV x = #[.slice (some ⟨b, off + p * 3, none⟩) q q] by rw [hx]; rfl] at hy
      have hlen : (ys ++ [x]).length ≤ p + N := by rw [List.length_append, List.length_singleton]; omega
      have hs1 : p + q - p = q := by omega
      clear hx hxe HN HG hJs hJ2 hY hxR hxq htk hrl cS cN hK hq1 hq2 hdl
      gi_wp2_with fail
      refine ⟨fun h => (by cases h), ?_⟩
      refine hRd.mono ?_
      rintro e W3 (⟨rfl, hJ3, hk3⟩ | ⟨rfl, hJx3⟩)
      · have hK3 := keepTwo_t hK2 hk3
        have cN3 : W3.cell? ⟨Bn, 0, none⟩ = some (.int .i64 N) := hK3.cell2.trans HBn.out
        clear hk3 hRd hy cS2 cN2 hK2
        gi_wp2_with fail
        go_roundw
        case rel => exact ⟨p + N, ys ++ [x], by go_num, by omega, hlen, HG2, hJ3, hK3⟩
        case measure => simp [intOf]; omega
      · clear hRd hy cS2 cN2 hK2
        gi_wp2_with fail
        refine bodyPost_ret (results_none rfl _ _ _) rfl ?_
        exact ⟨⟨_, rfl⟩, .inr ⟨ys ++ [x], ⟨chunksL N (rs.drop (p + N)), HG2.out.symm⟩, hJx3⟩⟩
    · have hd : rs.drop p = [] := List.drop_of_length_le (by rw [hl.out]; omega)
      have HG2 := Lib.hid (show chOf ys = T by rw [HG.out, hd, chunksL_none rfl, List.append_nil])
      clear hd
      gi_wp2
      go_end0
      exact ⟨⟨_, rfl⟩, .inl ⟨ys, HG2.out, hJs⟩⟩
set_option maxRecDepth 100000 in
theorem chunk_any (a : Option Addr) (len cap N : Nat) (w : World) (hN : 1 ≤ N) (hN2 : N ≤ 120) :
    Calls Tryd.prog 68 #[.slice a len cap, .int .i64 N] w fun e w' => e = .returned (.func (.func 97) #[] #[.pointer (some ⟨w.heap.size, 0, none⟩), .pointer (some ⟨w.heap.size + 1, 0, none⟩)]) ∧ w' = (w.alloc (.cells #[.slice a len cap] 27)).alloc (.cells #[.int .i64 N] 3) := by
  have hd : ¬ N < 1 := by omega
  go_enter Tryd.func68, Tryd.ntmps68
  go_wp2_with fail
  go_ret
  exact ⟨rfl, rfl⟩
theorem runs_chunks (N : Nat) : ∀ (f : Nat) (l : List RowV), (chunksF N f l).length ≤ f
  | 0, _ => Nat.le_refl _
  | f + 1, l => by
    rw [chunksF]
    split
    · exact Nat.zero_le _
    · rw [List.length_cons]; exact Nat.succ_le_succ (runs_chunks N f _)
/-- What a chunk's range yields. -/
theorem chunk_stops (n Bs Bn n₀ N : Nat) (a : Option Addr) (len cap : Nat) (rs : List RowV) (hN1 : 1 ≤ N) (hN2 : N ≤ 120) (hm : len ≤ 1048576) (hlc : len ≤ cap) (w : World)
    (hBs : w.cell? ⟨Bs, 0, none⟩ = some (.slice a len cap)) (hls : Bs < w.heap.size) (hBn : w.cell? ⟨Bn, 0, none⟩ = some (.int .i64 N)) (hln : Bn < w.heap.size) (hR : Rd w n₀ 3 a len (flat rs)) :
    SeqStopsK Fence.wide n Tryd.prog 97 #[.pointer (some ⟨Bs, 0, none⟩), .pointer (some ⟨Bn, 0, none⟩)] (fun x : ChIn w n₀ => chV x) (KeepTwo n₀ Bs Bn) (fun ys => chOf ys = chunksL N rs) (fun pre => chOf pre <+: chunksL N rs) rs.length w := fun l J Jx W hW hA _ hY h0 =>
  chunk1_in n l Bs Bn n₀ N a len cap rs w hN1 hN2 hm hlc J Jx W hY (fun s X h => hA s X X.drew none h (gb_of_below (Below.refl X.heap.size X).drew none) (fun r e => by cases e)) ((hW.cell (p := ⟨Bs, 0, none⟩) hls).trans hBs) ((hW.cell (p := ⟨Bn, 0, none⟩) hln).trans hBn) hR h0
end Go.Proofs.YtallcholbbfkdaaDoor

namespace Go.Proofs.YtallcholbbfkdaaDoor
open Go.RowKit
def splitsOfB (rs : List RowV) (N : Int) : Bool := rowsOk rs && ((decide (1 ≤ N) && decide (N ≤ 120)) && decide ((rs.length : Int) ≤ 20 * N))
def splitsOfS (rs : List RowV) (N : Int) : List (List RowV) := if splitsOfB rs N = true then chunksL N.toNat rs else []
theorem chunksF_count {N : Nat} (hN : 1 ≤ N) : ∀ (f : Nat) (l : List RowV), l.length ≤ f → (chunksF N f l).length = (l.length + N - 1) / N
  | 0, l, h => by
    rw [chunksF, show l.length = 0 by omega, List.length_nil, Nat.div_eq_of_lt (by omega)]
  | f + 1, l, h => by
    rw [chunksF]
    split
    · rename_i h0
      rw [h0, List.length_nil, Nat.div_eq_of_lt (by omega)]
    · rename_i h0
      rw [List.length_cons, chunksF_count hN f (l.drop N) (by rw [List.length_drop]; omega), List.length_drop]
      rcases Nat.lt_or_ge l.length N with hl | hl
      · rw [show l.length - N + N - 1 = N - 1 by omega, Nat.div_eq_of_lt (show N - 1 < N by omega), show l.length + N - 1 = (l.length - 1) + N by omega, Nat.add_div_right _ (by omega), Nat.div_eq_of_lt (by omega)]
      · rw [show l.length + N - 1 = (l.length - N + N - 1) + N by omega, Nat.add_div_right _ (by omega)]
theorem chunks_many {N : Nat} (hN : 1 ≤ N) (l : List RowV) : (chunksL N l).length ≤ 20 ↔ l.length ≤ 20 * N := by
  unfold chunksL
  rw [chunksF_count hN _ _ (Nat.le_refl _), ← Nat.lt_succ_iff, Nat.div_lt_iff_lt_mul (by omega)]
  omega
theorem chunksF_flat {N : Nat} (hN : 1 ≤ N) : ∀ (f : Nat) (l : List RowV), l.length ≤ f → (chunksF N f l).flatten = l
  | 0, l, h => by
    have : l = [] := List.length_eq_zero_iff.1 (by omega)
    subst this; rfl
  | f + 1, l, h => by
    rw [chunksF]
    split
    · rename_i h0
      have : l = [] := List.length_eq_zero_iff.1 h0
      subst this; rfl
    · rw [List.flatten_cons, chunksF_flat hN f (l.drop N) (by rw [List.length_drop]; omega), List.take_append_drop]
theorem chunksL_flat {N : Nat} (hN : 1 ≤ N) (l : List RowV) : (chunksL N l).flatten = l := chunksF_flat hN _ _ (Nat.le_refl _)
theorem chunksL_le {N : Nat} (l : List RowV) : (chunksL N l).length ≤ l.length := runs_chunks N _ _
theorem rowsIn_flatS : ∀ ps : List (List RowV), rowsIn ps = ps.flatten.length
  | [] => rfl
  | p :: ps => by rw [rowsIn, List.flatten_cons, List.length_append, rowsIn_flatS ps]
theorem splitsOfS_le (rs : List RowV) (N : Int) : (splitsOfS rs N).length ≤ 1048576 ∧ rowsIn (splitsOfS rs N) ≤ 1048576 := by
  unfold splitsOfS
  split
  · rename_i h
    simp only [splitsOfB, Bool.and_eq_true, decide_eq_true_eq] at h
    have h1 : rs.length ≤ 120 := by
      have h2 := h.1
      unfold rowsOk at h2
      exact of_decide_eq_true (Bool.and_eq_true _ _ ▸ h2).1
    have h3 := chunksL_le (N := N.toNat) rs
    rw [rowsIn_flatS, chunksL_flat (by omega)]
    exact ⟨by omega, by omega⟩
  · exact ⟨Nat.zero_le _, Nat.zero_le _⟩
end Go.Proofs.YtallcholbbfkdaaDoor

namespace Go.Proofs.YtallcholbbfkdaaDoor
open Go.RowKit
def HaltR_ (p : Prop) : Prop := p
theorem haltR_ {p : Prop} (h : HaltR_ p) : p := h
theorem unhaltR_ {p : Prop} (h : p) : HaltR_ p := h
/-- Stretches of so many rows, each sorted; no more than so many. -/
def runsF (N : Nat) : Nat → List RowV → List (List RowV)
  | 0, _ => []
  | f + 1, l => if l.length = 0 then [] else sortL (l.take N) :: runsF N f (l.drop N)
def runsL (N : Nat) (l : List RowV) : List (List RowV) := runsF N l.length l
theorem runsF_fuel {N : Nat} (hN : 1 ≤ N) : ∀ (f g : Nat) (l : List RowV), l.length ≤ f → l.length ≤ g → runsF N f l = runsF N g l
  | 0, 0, _, _, _ => rfl
  | 0, g + 1, l, h, _ => by rw [runsF, runsF, if_pos (by omega)]
  | f + 1, 0, l, _, h => by rw [runsF, runsF, if_pos (by omega)]
  | f + 1, g + 1, l, hf, hg => by
    rw [runsF, runsF]
    by_cases h : l.length = 0
    · rw [if_pos h, if_pos h]
    · rw [if_neg h, if_neg h, runsF_fuel hN f g _ (by rw [List.length_drop]; omega) (by rw [List.length_drop]; omega)]
theorem runsL_none {N : Nat} {l : List RowV} (h : l.length = 0) : runsL N l = [] := by
  unfold runsL
  rw [h]; rfl
theorem runsL_next {N : Nat} (hN : 1 ≤ N) {l : List RowV} (h : l.length ≠ 0) : runsL N l = sortL (l.take N) :: runsL N (l.drop N) := by
  unfold runsL
  obtain ⟨f, hf⟩ : ∃ f, l.length = f + 1 := ⟨l.length - 1, by omega⟩
  rw [hf, runsF, if_neg h, runsF_fuel hN f (l.drop N).length _ (by rw [List.length_drop]; omega) (Nat.le_refl _)]
theorem runsF_le (N : Nat) : ∀ (f : Nat) (l : List RowV), (runsF N f l).length ≤ f
  | 0, _ => Nat.le_refl _
  | f + 1, l => by
    rw [runsF]
    split
    · exact Nat.zero_le _
    · rw [List.length_cons]; exact Nat.succ_le_succ (runsF_le N f _)
theorem runsL_le (N : Nat) (l : List RowV) : (runsL N l).length ≤ l.length := runsF_le N _ _
def runsOfB (rs : List RowV) (N : Int) : Bool := rowsOk rs && (decide (1 ≤ N) && decide (N ≤ 120))
def runsOfS (rs : List RowV) (N : Int) : List (List RowV) := if runsOfB rs N = true then runsL N.toNat rs else []
/-- One more part at the end of a list of parts. -/
theorem POwn.snoc {w w3 w4 : World} {lo n c n' c' : Nat} {a a' : Option Addr} {vs : List Value} {ps : List (List RowV)} {v : Value} {rs : List RowV} {o : Obj} (h : POwn w lo a n c vs ps) (hlo : lo ≤ w.heap.size) (hb : Below w.heap.size w w3)
    (hO3 : w3.ownsRow w.heap.size 68 3 v rs.length (flat rs)) (hg4 : (w3.alloc o).grownBy w4 (Value.slice a n c).ownBlock) (hO4 : w4.ownsRow lo 39 1 (.slice a' n' c') n' (vs ++ [v]))
    (hat : (Value.slice a' n' c').ownBlock = (Value.slice a n c).ownBlock ∨ (Value.slice a' n' c').ownBlock = some (w3.heap.size + 1)) : POwn w4 lo a' n' c' (vs ++ [v]) (ps ++ [rs]) := by
  have hv : ∀ g, v.ownBlock = some g → w.heap.size ≤ g := fun g e => (own_ge hO3 g e).1
  have F := (h.fam.snoc hb (own_base' hO3 hlo) hv).below (bl1 w3 o)
  have hne : ∀ u ∈ vs ++ [v], ∀ g, u.ownBlock = some g → (Value.slice a n c).ownBlock ≠ some g := by
    intro u hu g hg
    rcases List.mem_append.1 hu with hu | hu
    · exact h.out u hu g hg
    · rw [List.mem_singleton] at hu
      subst hu
      intro e
      have h1 := (own_ge h.outer g e).2
      have h2 := hv g hg
      omega
  have F3 := h.fam.snoc hb (own_base' hO3 hlo) hv
  refine ⟨hO4, ⟨F.len, fun i u rs' hu hr => own_other (F.own i u rs' hu hr) hg4 (fun g h1 h2 => hne u (List.mem_of_getElem? hu) g h1 h2), F.sep⟩, fun u hu g hg => ?_⟩
  rcases hat with e | e
  · rw [e]; exact hne u hu g hg
  · rw [e]
    intro e2
    injection e2 with e2
    obtain ⟨i, hi⟩ := List.getElem?_of_mem hu
    have hil : i < (ps ++ [rs]).length := by
      have := (List.getElem?_eq_some_iff.1 hi).1
      rw [F3.len] at this
      exact this
    have := F3.own i u _ hi (List.getElem?_eq_getElem hil)
    have := (own_ge this g hg).2
    omega
set_option maxRecDepth 100000 in
theorem l1In_size (n : Int) (b : Bool) (w : World) (h : (decide (1 ≤ n) && decide (n ≤ 120)) = b) : Calls Tryd.prog 39 #[.int .i64 n, .int .i64 1, .int .i64 120] w fun e w' => e = .returned (.bool b) ∧ Below w.heap.size w w' := by
  have E := Lib.hid h
  clear h
  by_cases h1 : 1 ≤ n
  · have d1 : decide (1 ≤ n) = true := by simp [h1]
    go_enter Tryd.func39, Tryd.ntmps39
    go_wp2
    go_ret
    exact ⟨ret_bool (by rw [← E.out, d1, Bool.true_and]), Below.refl _ _⟩
  · have d1 : decide (1 ≤ n) = false := by simp [h1]
    go_enter Tryd.func39, Tryd.ntmps39
    go_wp2
    go_ret
    exact ⟨ret_bool (by rw [← E.out, d1, Bool.false_and]), Below.refl _ _⟩
def RunsOut (rs : List RowV) (N : Int) (w : World) (e : Ending) (w' : World) : Prop :=
  ∃ a c vs, e = .returned (.tuple #[.slice a (runsOfS rs N).length c, .bool (runsOfB rs N)]) ∧ Below w.heap.size w w' ∧ POwn w' w.heap.size a (runsOfS rs N).length c vs (runsOfS rs N)
end Go.Proofs.YtallcholbbfkdaaDoor

namespace Go.Proofs.YtallcholbbfkdaaDoor
open Go.RowKit
def SplitOut (rs : List RowV) (N : Int) (w : World) (e : Ending) (w' : World) : Prop :=
  ∃ a c vs, e = .returned (.tuple #[.slice a (splitsOfS rs N).length c, .bool (splitsOfB rs N)]) ∧ Below w.heap.size w w' ∧ POwn w' w.heap.size a (splitsOfS rs N).length c vs (splitsOfS rs N)
theorem SplitOut.no {rs : List RowV} {N : Int} {w w' : World} (h : splitsOfB rs N = false) (hb : Below w.heap.size w w') : SplitOut rs N w (.returned (.tuple #[.slice none 0 0, .bool false])) w' := by
  have e2 : splitsOfS rs N = [] := by unfold splitsOfS; rw [h]; exact if_neg (by decide)
  unfold SplitOut
  rw [h, e2]
  exact ⟨none, 0, [], rfl, hb, World.ownsRow_nil _ _ _ _, Fam.nil _ _, fun v hv => by cases hv⟩
theorem flat_one1S (l : List RowV) : ∀ u ∈ flat l, u.oneCell' = true := by
  intro u hu
  unfold flat at hu
  obtain ⟨r, _, hr⟩ := List.mem_flatMap.1 hu
  simp only [RowV.cells, List.mem_cons, List.not_mem_nil, or_false] at hr
  rcases hr with rfl | rfl | rfl <;> rfl
set_option maxRecDepth 100000 in
set_option maxHeartbeats 4000000 in
theorem specSplitsOf_any (a : Option Addr) (n cap : Nat) (rs : List RowV) (N : Int) (w : World) (hm : n ≤ 1048576) (hnc : n ≤ cap) (hok : ∀ r ∈ rs, r.Ok) (hR : Rd w w.heap.size 3 a n (flat rs)) :
    Calls Tryd.prog 10 #[.slice a n cap, .int .i64 N] w (SplitOut rs N w) := by
  have C0 := specRowsOk_any a n cap rs w hm hok hR
  have hlr := hR.rows_length
  cases hq : rowsOk rs
  case false =>
    rw [hq] at C0
    have E : splitsOfB rs N = false := by unfold splitsOfB; rw [hq]; rfl
    clear hq
    go_enter Tryd.func10, Tryd.ntmps10
    go_wp2_with fail
    refine C0.mono ?_
    rintro e w1 ⟨rfl, hb⟩
    go_wp2_with fail
    go_ret2
    exact SplitOut.no E hb
  rw [hq] at C0
  have CI := fun b h w => l1In_size N b w h
  cases hp : (decide (1 ≤ N) && decide (N ≤ 120))
  case false =>
    have E : splitsOfB rs N = false := by unfold splitsOfB; rw [hp, Bool.false_and, Bool.and_false]
    have CI2 := CI _ hp
    clear hq hp CI
    go_enter Tryd.func10, Tryd.ntmps10
    go_wp2_with fail
    refine C0.mono ?_
    rintro e w1 ⟨rfl, hb⟩
    go_wp2_with fail
    refine (CI2 _).mono ?_
    rintro e w2 ⟨rfl, hb2⟩
    have hb' := hb.trans (hb2.mono hb.size)
    go_wp2_with fail
    go_ret2
    exact SplitOut.no E hb'
  obtain ⟨hN1, hN2⟩ : 1 ≤ N ∧ N ≤ 120 := by simpa using hp
  obtain ⟨M, rfl⟩ : ∃ M : Nat, N = (M : Int) := ⟨N.toNat, by omega⟩
  have hM1 : 1 ≤ M := by omega
  have hM2 : M ≤ 120 := by omega
  have hw20 : IntKind.i64.wrap (20 * (M : Int)) = 20 * (M : Int) := IntWalk.i64_in _ (by omega)
  have CI2 := CI _ hp
  by_cases hbig : 20 * M < n
  case pos =>
    have E : splitsOfB rs M = false := by unfold splitsOfB; rw [hlr, decide_eq_false (show ¬ ((n : Int) ≤ 20 * (M : Int)) by omega), Bool.and_false, Bool.and_false]
    have hd : decide (20 * (M : Int) < (n : Int)) = true := by simp; omega
    clear hq hp CI
    go_enter Tryd.func10, Tryd.ntmps10
    go_wp2_with fail
    refine C0.mono ?_
    rintro e w1 ⟨rfl, hb⟩
    go_wp2_with fail
    refine (CI2 _).mono ?_
    rintro e w2 ⟨rfl, hb2⟩
    have hb' := hb.trans (hb2.mono hb.size)
    go_wp2_with fail
    go_ret2
    exact SplitOut.no E hb'
  have hd : decide (20 * (M : Int) < (n : Int)) = false := by simp; omega
  have E : splitsOfB rs M = true := by unfold splitsOfB; rw [hlr, hp, hq, decide_eq_true (show (n : Int) ≤ 20 * (M : Int) by omega)]; rfl
  have E2 : splitsOfS rs M = chunksL M rs := by unfold splitsOfS; rw [E]; rfl
  unfold SplitOut
  rw [E2, E]
  have hrl := Lib.hid hlr
  generalize hT : chunksL M rs = T
  have HT := Lib.hid hT
  clear hq E E2 hp CI hN1 hN2 hT hlr
  obtain ⟨i0, gi, gz0, gz1, gz2⟩ := info_parts infoRow
  obtain ⟨i1, hi, hy0, hy1, hy2⟩ := info_parts infoPart
  go_enter Tryd.func10, Tryd.ntmps10
  go_wp2_with fail
  refine C0.mono ?_
  rintro e w1 ⟨rfl, hb⟩
  go_wp2_with fail
  refine (CI2 _).mono ?_
  rintro e w2 ⟨rfl, hb2⟩
  have hb' := hb.trans (hb2.mono hb.size)
  have hb3 := bl1 w2 (.cells #[] 39)
  have O0 := World.ownsRow_lit (base := w.heap.size) (e := 39) (size := 1) w2 #[] 0 hb'.size (Nat.zero_le _) rfl
  have B0 := hb'.trans (hb3.mono hb'.size)
  clear hb hb2 hb' hb3 C0 CI2 hw20 hd
  go_wp2_with fail
  generalize w2.alloc (.cells #[] 39) = w3 at *
  go_loopw [6, 7] (fun v i wr => ∃ (k q : Nat) (g : Option Addr) (c : Nat) (vs : List Value) (D : List (List RowV)), i = .int .i64 k ∧ v = .slice g q c ∧ k ≤ n + 120 ∧ q ≤ k ∧ (k < n → k + M ≤ n + 120) ∧ Hid (D.length = q) ∧ Hid (T = D ++ chunksL M (rs.drop k)) ∧ POwn wr w.heap.size g q c vs D ∧ Below w.heap.size w wr) (fun _ i _ => n + 121 - (intOf i).toNat)
  case atStart => exact ⟨0, 0, _, _, [], [], rfl, rfl, Nat.zero_le _, Nat.le_refl _, fun _ => by omega, Lib.hid rfl, Lib.hid HT.out.symm, ⟨O0, Fam.nil _ _, fun v hv => by cases hv⟩, B0⟩
  case round =>
    obtain ⟨k, q, g, c, vs, D, rfl, rfl, hkn, hqk, _, HD, HJ, hP, hb⟩ := hrel
    clear O0 B0
    by_cases hlt : k < n
    · obtain ⟨m, hmm⟩ : ∃ m, m = min (k + M) n := ⟨_, rfl⟩
      have hm1 : m ≤ n := by omega
      have hm2 : k < m := by omega
      obtain ⟨b0, off0, ea, _, _⟩ := hR.2 (show 0 < n by omega)
      have R1 := ((hR.below hb (Nat.le_refl _)).more hb.size)
      have R2 := R1.from_ (k := k) (by omega) hnc
      have R3 := R2.head (k := m - k) (by omega)
      have ef : fromA a cap k = some ⟨b0, off0 + k * 3, none⟩ := by
        unfold fromA
        rw [if_neg (by omega), ea, Option.map_some, Addr.add_mid]
      have hdl : (rs.drop k).length = n - k := by rw [List.length_drop, hrl.out]
      have htk : (rs.drop k).take (m - k) = (rs.drop k).take M := by
        by_cases h : k + M ≤ n
        · rw [show m - k = M by omega]
        · rw [List.take_of_length_le (by omega), List.take_of_length_le (by omega)]
      have hne : (rs.drop k).length ≠ 0 := by omega
      have hjl : ((rs.drop k).take M).length = m - k := by rw [← htk, List.length_take]; omega
      have HJ2 := Lib.hid (show T = (D ++ [(rs.drop k).take M]) ++ chunksL M (rs.drop (k + M)) by rw [HJ.out, chunksL_next hM1 hne, List.append_assoc, List.drop_drop]; rfl)
      have HD2 := Lib.hid (show (D ++ [(rs.drop k).take M]).length = q + 1 by rw [List.length_append, HD.out]; rfl)
      rw [ef, htk] at R3
      have Or := World.ownsRow_lit (base := wr.heap.size) (e := 68) (size := 3) wr #[] 0 (Nat.le_refl _) (Nat.zero_le _) rfl
      have hbr := bl1 wr (.cells #[] 68)
      have R4 := (R3.below hbr (Nat.le_refl _)).more hbr.size
      generalize (rs.drop k).take M = X at *
      have hq1 : q + 1 ≤ maxLen := by unfold maxLen; omega
      have hq2 : (q + 1) * 24 ≤ 140737488355328 := by omega
      have hr1 : 0 + (m - k) ≤ maxLen := by unfold maxLen; omega
      have hr2 : (0 + (m - k)) * 40 ≤ 140737488355328 := by omega
      have hk2 : k + M ≤ n + 120 := by omega
      have hk3 : k + M < n → k + M + M ≤ n + 120 := by omega
      have hk4 : q + 1 ≤ k + M := by omega
      have hk5 : n + 121 - (k + M) < n + 121 - k := by omega
      have hM' : min ((k : Int) + (M : Int)) (n : Int) = (m : Int) := by omega
      have hkc : ¬ cap = k := by omega
      clear R1 R2 R3 ef hdl htk hne HJ HD hmm
      subst ea
      go_wp2_with (at_builtin; refine wpList_append_rd rfl _ _ 27 rfl wr.heap.size 68 i0 (.agg #[.string ⟨#[]⟩, .int .i64 0, .string ⟨#[]⟩]) 3 40 Tryd.underlying27 gi gz0 gz1 gz2 rfl (by decide) (.slice (some ⟨wr.heap.size, 0, none⟩) 0 0) 0 [] rfl Or (some ⟨b0, off0 + k * 3, none⟩) _ (m - k) _ (flat X) rfl R4 (flat_one1S _) hr1 hr2 hbr.size ?_; intro v' w4 hO4 hg4 hat4; refine haltR_ ?_)
      refine unhaltR_ ?_
      have hb4 := hbr.grown hg4 hbr.size (fun q e' => (own_ge Or q e').1)
      obtain ⟨b4, c4, rfl⟩ : ∃ b c, v' = .slice b (m - k) c := by
        have h := hO4
        rw [Nat.zero_add] at h
        exact own_slice' h
      have hO6 : w4.ownsRow wr.heap.size 68 3 (.slice b4 (m - k) c4) X.length (flat X) := by
        have h := hO4
        rw [Nat.zero_add, List.nil_append] at h
        rw [hjl]; exact h
      have hb5 := hb.trans (hb4.mono hb.size)
      have hPo := own_below hP.outer hb4
      have hg8 : w.heap.size ≤ w4.heap.size := hb5.size
      clear hO4 hg4 hat4 Or hbr R4
      go_wp2_with (at_builtin; refine wpList_append_own_at _ rfl _ _ 24 rfl w.heap.size 39 i1 (.agg #[.slice none 0 0]) 1 24 Tryd.underlying24 hi hy0 hy1 hy2 rfl (by decide) (.slice g q c) _ _ rfl (hPo.alloc _) ⟨w4.heap.size, 0, none⟩ 1 1 [.slice b4 (m - k) c4] rfl rfl (cell_one_new _ _ _) (by simp [Value.oneCell']) hq1 hq2 (Nat.le_trans hg8 (bl1 w4 _).size) ?_; intro v' w5 hO5 hg5 _ hat; refine haltR_ ?_)
      refine unhaltR_ ?_
      obtain ⟨a', cap', rfl⟩ := own_slice' hO5
      have hb6 := below_grown1 hb5 hPo hg5
      have hP2 := hP.snoc hb.size hb4 hO6 hg5 hO5 (by simpa using hat)
      clear hg5 hat hO5 hPo hb5 hb4 hO6 hP hb
      go_wp2_with fail
      go_roundw
      case rel => exact ⟨k + M, q + 1, a', cap', _, D ++ [X], by go_num, rfl, hk2, hk4, hk3, HD2, HJ2, hP2, hb6⟩
      case measure => simp [intOf]; omega
    · have hJ := HJ.out
      have hdl : (rs.drop k).length = 0 := by rw [List.length_drop, hrl.out]; omega
      rw [chunksL_none hdl, List.append_nil] at hJ
      have HTD := Lib.hid hJ
      clear hJ hdl HJ
      go_wp2_with fail
      go_ret2
      rw [HTD.out, HD.out]
      exact ⟨g, c, vs, rfl, hb, hP⟩
end Go.Proofs.YtallcholbbfkdaaDoor

namespace Go.Proofs.YtallcholbbfkdaaDoor
open Go.RowKit
set_option maxRecDepth 100000 in
set_option maxHeartbeats 1000000 in
theorem answerPart_nil (b : Option Addr) (n c : Nat) (w : World) :
    Calls Tryd.prog 41 #[.slice b n c, .nilIface] w fun e w' => e = .returned (.tuple #[.slice b n c, .bool true]) ∧ Below w.heap.size w w' := by
  have CA := fun t w => as_nil t w
  go_enter Tryd.func41, Tryd.ntmps41
  go_wp2_with fail
  refine (CA _ _).mono ?_
  rintro e w1 ⟨rfl, rfl⟩
  have hb := bl1 w (.cells #[.pointer none] 101)
  go_wp2_with fail
  go_ret2
  exact ⟨rfl, hb⟩
set_option maxRecDepth 100000 in
set_option maxHeartbeats 1000000 in
theorem answerPart_hit (l : Value) (p : Addr) (w : World) (hg : w.cell? ⟨2, 0, none⟩ = some errTypeV) :
    Calls Tryd.prog 41 #[l, .iface 101 (.pointer (some p))] w fun e w' => e = .returned (.tuple #[.slice none 0 0, .bool false]) ∧ Below w.heap.size w w' := by
  have hlt : 2 < w.heap.size := by
    rcases Nat.lt_or_ge 2 w.heap.size with h | h
    · exact h
    · simp [World.cell?, Array.getElem?_eq_none h] at hg
  have hg1 : (w.alloc (.cells #[.pointer none] 101)).cell? ⟨2, 0, none⟩ = some errTypeV := by
    rw [World.cell?_alloc_lt _ _ ⟨2, 0, none⟩ hlt]; exact hg
  have CA := as_hit p ⟨w.heap.size, 0, none⟩ (.pointer none) (w.alloc (.cells #[.pointer none] 101)) hg1 (Boxed.new w _ _).cell (Boxed.new w _ _).frozen
  clear hg hg1 hlt
  go_enter Tryd.func41, Tryd.ntmps41
  go_wp2_with fail
  refine CA.mono ?_
  rintro e w1 ⟨rfl, rfl⟩
  have hb := bl1 w (.cells #[.pointer none] 101)
  have hs := hb.size
  generalize w.alloc (.cells #[.pointer none] 101) = w1 at *
  have hb2 := ((((hb.alloc hs (.cells #[.pointer (some ⟨w.heap.size, 0, none⟩)] 103)).alloc (by simp; omega) (.cells #[.pointer (some ⟨4, 103, none⟩), .pointer (some ⟨w1.heap.size, 0, none⟩), .int .u64 150] 142)).alloc (by simp; omega) (.cells #[.pointer (some ⟨4, 103, none⟩), .pointer (some ⟨w1.heap.size, 0, none⟩), .int .u64 150] 142)).alloc (by simp; omega) (.cells #[.pointer (some p)] 101)).setCell (p := ⟨w.heap.size, 0, none⟩) (Nat.le_refl _) (.pointer (some p))
  go_wp2_with fail
  go_ret2
  exact ⟨rfl, hb2⟩
end Go.Proofs.YtallcholbbfkdaaDoor

namespace Go.Proofs.YtallcholbbfkdaaDoor
open Go.RowKit
def noDefer (o : Oper) : Bool := match o.op with | .defer _ => false | _ => true
theorem noDefer_out {o : Oper} (h : noDefer o = true) : ∀ c, o.op ≠ .defer c := by
  intro c e
  unfold noDefer at h
  rw [e] at h
  cases h
theorem wpIn_round {P : Program} {l n : Nat} {o : Oper} {a : Act} {w : World} {K : Act → World → Prop} {Q : Exit → Act → World → Prop} (hd : noDefer o = true) (h : o.wp P a w K Q) : o.wpIn (Fence.wide.inRound l) n P a w K Q := by
  refine ⟨fun _ _ => trivial, ?_⟩
  rw [Oper.semAt_plain _ _ _ (noDefer_out hd)]
  unfold Oper.wp at h
  revert h
  generalize (execOp a.eval o).run P w = r
  intro h
  cases r with
  | ok x w' =>
    cases x with
    | value v => exact h
    | skip => exact h
    | defer d => exact h
    | enter f args => exact ⟨fun h => (by cases h), (callsIn_wide (n := n - 1)).2 h⟩
    | row r args => exact ⟨fun h => (by cases h), fun c cs _ => let ⟨v, w2, h1, h2⟩ := h c cs; ⟨v, w2, h1, stepsIn_wide.2 h2⟩⟩
    | _ => exact h.elim
  | halt x w' => cases x <;> first | exact h | exact h.elim
theorem wpOpsIn_round {P : Program} {l n : Nat} {ops : Array Oper} {Q : Exit → Act → World → Prop} (hd : ∀ o ∈ ops.toList, noDefer o = true) (hQ : ¬ LetsOut Q) : ∀ (is : List Nat) (a : Act) (w : World), wpOps P ops Q is a w → wpOpsIn (Fence.wide.inRound l) n P ops Q is a w := by
  intro is
  induction is with
  | nil => exact fun a w h => h
  | cons i is ih =>
    intro a w h
    unfold wpOps at h
    unfold wpOpsIn
    cases ho : ops[i]? with
    | none => rw [ho] at h; exact ih _ _ h
    | some o =>
      rw [ho] at h
      have hm : o ∈ ops.toList := by
        obtain ⟨hi, rfl⟩ := Array.getElem?_eq_some_iff.1 ho
        simp
      simp only at h ⊢
      split
      · rename_i hw
        rw [if_pos hw] at h
        rcases h with h | ⟨_, h⟩
        · exact wpIn_round (hd o hm) (Oper.wp_mono (fun a w h => ih a w h) h)
        · exact absurd h hQ
      · rename_i hw
        rw [if_neg hw] at h
        exact ⟨fun _ _ => trivial, ih _ _ h⟩
theorem wpIn_region_round {P : Program} {l n id : Nat} {ops : List Oper} {Q : Exit → Act → World → Prop} {a : Act} {w : World} (hm : P.follows .mixedOrders = true) (hd : ops.all noDefer = true) (hQ : ¬ LetsOut Q)
    (h : wpAny P .any ops.toArray Q ops.length (Array.replicate ops.length false) a w.drew) : (Code.region id ops.toArray true).wpIn (Fence.wide.inRound l) n P Q a w := by
  refine wpIn_region_draw fun t => ?_
  refine wpOpsIn_round (fun o ho => List.all_eq_true.1 hd o (by simpa using ho)) hQ _ _ _ ?_
  simp only [Region.schedule, hm, Bool.true_or, if_true]
  have := wpAny_sound ops.length t _ a _ h
  simpa [Region.linearise] using this
end Go.Proofs.YtallcholbbfkdaaDoor

namespace Go.Proofs.YtallcholbbfkdaaDoor
open Go.RowKit Go.Shelf
attribute [local go_sem] Oper.semAt_some
theorem runsF_chunks (N : Nat) : ∀ (f : Nat) (l : List RowV), runsF N f l = (chunksF N f l).map sortL
  | 0, _ => rfl
  | f + 1, l => by
    rw [runsF, chunksF]
    split
    · rfl
    · rw [List.map_cons, runsF_chunks N f]
theorem runsL_chunks (N : Nat) (l : List RowV) : runsL N l = (chunksL N l).map sortL := runsF_chunks N _ l
theorem kept_row {X Y : World} {row : Option Nat} {n₀ e size n : Nat} {v : Value} {xs : List Value} (hr : X.ownsRow n₀ e size v n xs) (hg : X.grownBy Y row) (hrow : ∀ r, row = some r → ∃ o : Obj, X.heap[r]? = some o ∧ o.isCells = false) : Y.ownsRow n₀ e size v n xs := by
  refine hr.kept hg ?_
  rcases hr.2 with ⟨rfl, _⟩ | ⟨g, cap, cur, rfl, _, hgb, _⟩
  · exact .inl rfl
  · refine .inr fun e' => ?_
    obtain ⟨o, ho, hc⟩ := hrow g (by simpa [Value.ownBlock] using e'.symm)
    rw [hgb] at ho; cases ho; cases hc
theorem POwn.keptRow {X Y : World} {row : Option Nat} {lo n c : Nat} {a : Option Addr} {vs : List Value} {ps : List (List RowV)} (h : POwn X lo a n c vs ps) (hg : X.grownBy Y row) (hrow : ∀ r, row = some r → ∃ o : Obj, X.heap[r]? = some o ∧ o.isCells = false) : POwn Y lo a n c vs ps :=
  ⟨kept_row h.outer hg hrow, ⟨h.fam.len, fun i v rs hv hr => kept_row (h.fam.own i v rs hv hr) hg hrow, h.fam.sep⟩, h.out⟩
/-- A box holds a slice of parts. -/
def BoxParts (B n₀ : Nat) (W : World) (ps : List (List RowV)) : Prop := ∃ a c vs, Boxed W B 24 (.slice a ps.length c) ∧ POwn W n₀ a ps.length c vs ps
theorem boxParts_own {β : Type} (B n₀ : Nat) (f : β → List (List RowV)) : Own (fun s W => BoxParts B n₀ W (f s)) := by
  rintro s X Y row ⟨a, c, vs, hv, hP⟩ hg hrow
  refine ⟨a, c, vs, hv.kept hg (fun e' => ?_), hP.keptRow hg hrow⟩
  obtain ⟨o, ho, hc⟩ := hrow B e'.symm
  rw [show X.heap[B]? = _ from hv] at ho; cases ho; cases hc
theorem POwn.setBox {W : World} {B lo n c : Nat} {t : TypeId} {u x : Value} {a : Option Addr} {vs : List Value} {ps : List (List RowV)} (h : POwn W lo a n c vs ps) (hv : Boxed W B t u) (h1 : t ≠ 39) (h2 : t ≠ 68) : POwn (W.setCell ⟨B, 0, none⟩ x) lo a n c vs ps :=
  ⟨h.outer.kept (grownBy_setCell' W B x) (.inr (hv.not_row h1 h.outer).symm), ⟨h.fam.len, fun i v rs hw hr => (h.fam.own i v rs hw hr).kept (grownBy_setCell' W B x) (.inr (hv.not_row h2 (h.fam.own i v rs hw hr)).symm), h.fam.sep⟩, h.out⟩
theorem keeps_of_below {W W' : World} (h : Below W.heap.size W W') : KeepsOthers W W' := ⟨h.size, fun i _ hi _ => (h.block i (Array.getElem?_eq_some_iff.1 hi).1).trans hi⟩
theorem keeps_row {X Y : World} {n₀ e size n : Nat} {v : Value} {xs : List Value} (hr : X.ownsRow n₀ e size v n xs) (hg : X.grownBy Y v.ownBlock) : KeepsOthers X Y := by
  refine KeepsOthers.of_grownBy hg fun j o ej hj => ?_
  rcases hr.2 with ⟨rfl, _⟩ | ⟨g, cap, cur, rfl, _, hgb, _⟩
  · simp [Value.ownBlock] at ej
  · obtain rfl : g = j := by simpa [Value.ownBlock] using ej
    rw [hgb] at hj; cases hj; rfl
/-- One more part at the end of the list in the box: a call that makes its rows, an append, a store. -/
theorem round_parts {W w2 w4 : World} {B B1 B2 n₀ c c' : Nat} {b a' : Option Addr} {t1 t2 : TypeId} {v v1 v2 : Value} {vs : List Value} {D : List (List RowV)} {rs : List RowV} {o : Obj} (hv : Boxed W B 24 (.slice b D.length c)) (hP : POwn W n₀ b D.length c vs D) (hn : n₀ ≤ W.heap.size) (hB : n₀ ≤ B)
    (b1 : Boxed W B1 t1 v1) (b2 : Boxed W B2 t2 v2) (d1 : B1 ≠ B) (d2 : B2 ≠ B) (e1 : t1 ≠ 39) (e2 : t2 ≠ 39) (hb : Below W.heap.size W w2) (hO : w2.ownsRow W.heap.size 68 3 v rs.length (flat rs))
    (hg4 : (w2.alloc o).grownBy w4 (Value.slice b D.length c).ownBlock) (hO4 : w4.ownsRow n₀ 39 1 (.slice a' (D.length + 1) c') (D.length + 1) (vs ++ [v])) (hat : (Value.slice a' (D.length + 1) c').ownBlock = (Value.slice b D.length c).ownBlock ∨ (Value.slice a' (D.length + 1) c').ownBlock = some (w2.heap.size + 1)) :
    Boxed w4 B 24 (.slice b D.length c) ∧ BoxParts B n₀ (w4.setCell ⟨B, 0, none⟩ (.slice a' (D.length + 1) c')) (D ++ [rs]) ∧ KeepTwo n₀ B1 B2 W (w4.setCell ⟨B, 0, none⟩ (.slice a' (D.length + 1) c')) ∧ KeepsOthers W (w4.setCell ⟨B, 0, none⟩ (.slice a' (D.length + 1) c')) := by
  have hv2 : Boxed w2 B 24 (.slice b D.length c) := (hb.block _ hv.lt).trans hv
  have hP2 := hP.below hb
  have hv4 : Boxed w4 B 24 (.slice b D.length c) := (hv2.alloc o).kept hg4 (hv2.not_row (by decide) hP2.outer)
  have hP4 := hP.snoc hn hb hO hg4 hO4 hat
  have k1 : Boxed w4 B1 t1 v1 := ((show Boxed w2 B1 t1 v1 from (hb.block _ b1.lt).trans b1).alloc o).kept hg4 ((show Boxed w2 B1 t1 v1 from (hb.block _ b1.lt).trans b1).not_row e1 hP2.outer)
  have k2 : Boxed w4 B2 t2 v2 := ((show Boxed w2 B2 t2 v2 from (hb.block _ b2.lt).trans b2).alloc o).kept hg4 ((show Boxed w2 B2 t2 v2 from (hb.block _ b2.lt).trans b2).not_row e2 hP2.outer)
  have hl : (D ++ [rs]).length = D.length + 1 := by rw [List.length_append, List.length_singleton]
  have hb4 : Below n₀ W w4 := ((hb.mono hn).alloc (Nat.le_trans hn hb.size) o).grown hg4 (by have := hb.size; simp; omega) (fun q e => (own_ge hP2.outer q e).1)
  refine ⟨hv4, ⟨a', c', vs ++ [v], by rw [hl]; exact hv4.set _, by rw [hl]; exact hP4.setBox hv4 (by decide) (by decide)⟩, ⟨hb4.setCell (p := ⟨B, 0, none⟩) hB _, ?_, ?_⟩, ?_⟩
  · exact (show Boxed _ B1 t1 v1 from k1.other d1 _).trans b1.symm
  · exact (show Boxed _ B2 t2 v2 from k2.other d2 _).trans b2.symm
  · exact (((keeps_of_below hb).trans (KeepsOthers.alloc _ _)).trans (keeps_row (hP2.outer.alloc o) hg4)).trans (KeepsOthers.setCell _ _ _)
theorem chOf_snoc {w : World} {B : Nat} (l : List (ChIn w B)) (x : ChIn w B) : (chOf (l ++ [x])).map sortL = (chOf l).map sortL ++ [sortL x.1.rows] := by
  unfold chOf
  simp
set_option maxRecDepth 100000 in
theorem sizeOk_any (n : Int) (b : Bool) (w : World) (h : (decide (1 ≤ n) && decide (n ≤ 120)) = b) : Calls Tryd.prog 67 #[.int .i64 n] w fun e w' => e = .returned (.bool b) ∧ w' = w := by
  have E := Lib.hid h
  clear h
  by_cases h1 : 1 ≤ n
  · have d1 : decide (1 ≤ n) = true := by simp [h1]
    go_enter Tryd.func67, Tryd.ntmps67
    go_wp2
    go_ret
    exact ⟨ret_bool (by rw [← E.out, d1, Bool.true_and]), rfl⟩
  · have d1 : decide (1 ≤ n) = false := by simp [h1]
    go_enter Tryd.func67, Tryd.ntmps67
    go_wp2
    go_ret
    exact ⟨ret_bool (by rw [← E.out, d1, Bool.false_and]), rfl⟩
theorem runsF_rows (N : Nat) : ∀ (f : Nat) (l : List RowV), rowsIn (runsF N f l) ≤ l.length
  | 0, _ => Nat.zero_le _
  | f + 1, l => by
    rw [runsF]
    split
    · exact Nat.zero_le _
    · have ih := runsF_rows N f (l.drop N)
      rw [List.length_drop] at ih
      have e : rowsIn (sortL (l.take N) :: runsF N f (l.drop N)) = (sortL (l.take N)).length + rowsIn (runsF N f (l.drop N)) := by simp [rowsIn]
      rw [e, sortL_length, List.length_take]
      omega
theorem runsOfS_le (rs : List RowV) (N : Int) : (runsOfS rs N).length ≤ 1048576 ∧ rowsIn (runsOfS rs N) ≤ 1048576 := by
  unfold runsOfS
  split
  · rename_i h
    simp only [runsOfB, Bool.and_eq_true] at h
    have h1 := h.1
    unfold rowsOk at h1
    have h2 : rs.length ≤ 120 := of_decide_eq_true (Bool.and_eq_true _ _ ▸ h1).1
    have h3 := runsL_le N.toNat rs
    have h4 := runsF_rows N.toNat rs.length rs
    unfold runsL at h3 ⊢
    exact ⟨by omega, by omega⟩
  · exact ⟨Nat.zero_le _, Nat.zero_le _⟩
end Go.Proofs.YtallcholbbfkdaaDoor

namespace Go.Proofs.YtallcholbbfkdaaDoor
open Go.RowKit Go.Shelf
attribute [local go_sem] Oper.semAt_some
/-- What impl.split gives: the splits and no error, or no splits and a rejection. -/
def SplitErr (T : List (List RowV)) (q : Bool) (w : World) (e : Ending) (w' : World) : Prop :=
  if q = true then ∃ b c vs, e = .returned (.tuple #[.slice b T.length c, .nilIface]) ∧ Below w.heap.size w w' ∧ POwn w' w.heap.size b T.length c vs T
  else ∃ p, e = .returned (.tuple #[.slice none 0 0, .iface 101 (.pointer (some p))]) ∧ Below w.heap.size w w'
set_option maxRecDepth 100000 in
set_option maxHeartbeats 1000000 in
theorem split_norows (a : Option Addr) (n cap : Nat) (N : Int) (rs : List RowV) (w : World) (tE : TypeId) (xE : Value) (hm : n ≤ 1048576) (hok : ∀ r ∈ rs, r.Ok) (hR : Rd w w.heap.size 3 a n (flat rs)) (hE : w.cell? ⟨1, 0, none⟩ = some (.iface tE xE)) (hEl : 1 < w.heap.size) (hq : rowsOk rs = false) :
    Calls Tryd.prog 42 #[.slice a n cap, .int .i64 N] w fun e w' => ∃ p, e = .returned (.tuple #[.slice none 0 0, .iface 101 (.pointer (some p))]) ∧ Below w.heap.size w w' := by
  have C0 := implRowsOk_any a n cap rs w hm hok hR
  rw [hq] at C0
  clear hq
  go_enter Tryd.func42, Tryd.ntmps42
  go_wp2_with fail
  refine C0.mono ?_
  rintro e w1 ⟨rfl, hb⟩
  have hE1 := (hb.cell (p := ⟨1, 0, none⟩) hEl).trans hE
  go_wp2_with fail
  go_region
  all_goals (go_wp2_with fail; go_ret2; exact ⟨_, rfl, (hb.alloc hb.size _).drew⟩)
set_option maxRecDepth 100000 in
set_option maxHeartbeats 1000000 in
theorem split_nosize (a : Option Addr) (n cap : Nat) (N : Int) (rs : List RowV) (w : World) (tE : TypeId) (xE : Value) (hm : n ≤ 1048576) (hok : ∀ r ∈ rs, r.Ok) (hR : Rd w w.heap.size 3 a n (flat rs)) (hE : w.cell? ⟨1, 0, none⟩ = some (.iface tE xE)) (hEl : 1 < w.heap.size) (hq : rowsOk rs = true) (hp : (decide (1 ≤ N) && decide (N ≤ 120)) = false) :
    Calls Tryd.prog 42 #[.slice a n cap, .int .i64 N] w fun e w' => ∃ p, e = .returned (.tuple #[.slice none 0 0, .iface 101 (.pointer (some p))]) ∧ Below w.heap.size w w' := by
  have C0 := implRowsOk_any a n cap rs w hm hok hR
  rw [hq] at C0
  have CS := fun w => sizeOk_any N false w hp
  clear hq hp
  go_enter Tryd.func42, Tryd.ntmps42
  go_wp2_with fail
  refine C0.mono ?_
  rintro e w1 ⟨rfl, hb⟩
  go_wp2_with fail
  refine (CS _).mono ?_
  rintro e w2 ⟨rfl, rfl⟩
  have hE1 := (hb.cell (p := ⟨1, 0, none⟩) hEl).trans hE
  go_wp2_with fail
  go_region
  all_goals (go_wp2_with fail; go_ret2; exact ⟨_, rfl, (hb.alloc hb.size _).drew⟩)
theorem chOf_one {w : World} {B : Nat} (l : List (ChIn w B)) (x : ChIn w B) : chOf (l ++ [x]) = chOf l ++ [x.1.rows] := by
  unfold chOf
  simp
set_option maxRecDepth 100000 in
set_option maxHeartbeats 8000000 in
theorem split_in (a : Option Addr) (n cap M : Nat) (rs : List RowV) (w : World) (hnc : n ≤ cap) (tE : TypeId) (xE : Value) (hm : n ≤ 1048576) (hok : ∀ r ∈ rs, r.Ok) (hR : Rd w w.heap.size 3 a n (flat rs)) (hE : w.cell? ⟨1, 0, none⟩ = some (.iface tE xE)) (hEl : 1 < w.heap.size) (hs : rowsOk rs = true) (hM1 : 1 ≤ M) (hM2 : M ≤ 120) (qb : Bool) (hqb : decide ((chunksL M rs).length ≤ 20) = qb) :
    Calls Tryd.prog 42 #[.slice a n cap, .int .i64 M] w (SplitErr (chunksL M rs) qb w) := by
  obtain ⟨i0, hi, hz0, hz1, hz2⟩ := info_parts infoPart
  have C0 := implRowsOk_any a n cap rs w hm hok hR
  rw [hs] at C0
  have HRL := Lib.hid hR.rows_length
  have hn120 : n ≤ 120 := by rw [← HRL.out]; unfold rowsOk at hs; exact of_decide_eq_true (Bool.and_eq_true _ _ ▸ hs).1
  have CS := fun w => sizeOk_any (M : Int) true w (by simp; omega)
  have CC := fun w => chunk_any a n cap M w hM1 hM2
  clear hok hs
  refine (callsIn_wide (n := 5)).1 ?_
  refine callsIn_of_wp_marks Tryd.func42 rfl trivial ?_ rfl
  simp only [Tryd.ntmps42, List.size_toArray, List.length_cons, List.length_nil, Nat.reduceAdd, Nat.reduceSub, Array.replicate_succ, Array.replicate_zero, List.push_toArray, List.append_toArray, List.nil_append, List.cons_append]
  gi_wp2_with fail
  refine ⟨trivial, ?_⟩
  refine (callsIn_wide.2 C0).mono ?_
  rintro e w0 ⟨rfl, hb1⟩
  gi_wp2_with fail
  refine ⟨trivial, ?_⟩
  refine (callsIn_wide.2 (CS _)).mono ?_
  rintro e w1 ⟨rfl, rfl⟩
  have bF := Boxed.new w1 24 (.slice none 0 0)
  have bF2 := bl1 w1 (.cells #[.slice none 0 0] 24)
  have hR1 := hR.below hb1 (Nat.le_refl _)
  have hE1 := (hb1.cell (p := ⟨1, 0, none⟩) hEl).trans hE
  clear C0 CS
  gi_wp2_with fail
  refine ⟨trivial, ?_⟩
  refine (callsIn_wide.2 (CC _)).mono ?_
  rintro e w2 ⟨rfl, rfl⟩
  gi_wp2_with fail
  have hW1 := (bF2.alloc (by have := bF2.size; omega) (.cells #[.slice a n cap] 27)).alloc (by simp; omega) (.cells #[.int .i64 M] 3)
  have bF3 := (bF.alloc (.cells #[.slice a n cap] 27)).alloc (.cells #[.int .i64 M] 3)
  have bS := (Boxed.new (w1.alloc (.cells #[.slice none 0 0] 24)) 27 (.slice a n cap)).alloc (.cells #[.int .i64 M] 3)
  have bN := Boxed.new ((w1.alloc (.cells #[.slice none 0 0] 24)).alloc (.cells #[.slice a n cap] 27)) 3 (.int .i64 M)
  rw [World.size_alloc] at bS
  rw [World.size_alloc, World.size_alloc] at bN
  have hR0 := hR1.below (hW1.mono hb1.size) (Nat.le_refl _)
  have hW0 := hb1.trans (hW1.mono hb1.size)
  generalize hWe : (((w1.alloc (.cells #[.slice none 0 0] 24)).alloc (.cells #[.slice a n cap] 27)).alloc (.cells #[.int .i64 M] 3)) = W0 at *
  have hsz : w.heap.size ≤ W0.heap.size := hW0.size
  have hl1 : w1.heap.size < W0.heap.size := bF3.lt
  have hl2 : w.heap.size ≤ w1.heap.size := hb1.size
  clear hWe
  refine wpIn_rangeFunc_ownF rfl (by omega) (gf := 97) (lb := #[.pointer (some ⟨w1.heap.size + 1, 0, none⟩), .pointer (some ⟨w1.heap.size + 1 + 1, 0, none⟩)]) rfl trivial (enters_of Tryd.func97 (by kernel_rfl) rfl)
    (chunk_stops _ (w1.heap.size + 1) (w1.heap.size + 1 + 1) w.heap.size M a n cap rs hM1 hM2 hm hnc W0 bS.cell bS.lt bN.cell bN.lt hR0) keepTwo_t (keepTwo_b hsz bS.lt bN.lt) (Below.refl _ _) (fun _ => rfl)
    (fun (pre : List (ChIn W0 w.heap.size)) W => BoxParts w1.heap.size w.heap.size W (chOf pre) ∧ KeepTwo w.heap.size (w1.heap.size + 1) (w1.heap.size + 1 + 1) W0 W)
    (fun _ _ _ => False)
    (OwnFrom.and (Own.from (boxParts_own _ _ _) _) ?keepown)
    (fun _ _ _ _ _ hs _ _ => hs)
    ⟨⟨_, _, [], bF3, World.ownsRow_nil _ _ _ _, Fam.nil _ _, fun v hv => by cases hv⟩, KeepTwo.refl _ _ _ _⟩
    (fun x => { tmps := #[.slice a n cap, .int .i64 M, undef, undef, .slice none 0 0, .nilIface, .pointer (some ⟨w1.heap.size, 0, none⟩), .slice x.1.a x.1.n x.1.n, .slice a n cap, .bool true, .bool false, undef, undef, undef, undef, .int .i64 M, .bool true, .bool false, undef, undef, undef, undef, .slice a n cap, .int .i64 M, .func (.func 97) #[] #[.pointer (some ⟨w1.heap.size + 1, 0, none⟩), .pointer (some ⟨w1.heap.size + 1 + 1, 0, none⟩)], .slice x.1.a x.1.n x.1.n, undef, undef, undef, undef, undef, undef, undef, undef, undef, undef, undef, undef, undef, undef], defers := [] })
    ?assign ?body ?done ?stop
  case keepown =>
    rintro s X Y row h hg hr
    have hk : ∀ k, some k = row → W0.heap.size ≤ k := fun k e => (hr k e.symm).1
    refine ⟨h.1.grown hg (Nat.le_trans hsz h.1.size) (fun k e => Nat.le_trans hsz (hk k e.symm)), ?_, ?_⟩
    · refine (hg.block _ (Nat.lt_of_lt_of_le bS.lt h.1.size) (fun e => ?_)).trans h.2.1
      have h1 : W0.heap.size ≤ w1.heap.size + 1 := hk _ e
      have h2 := bS.lt
      omega
    · refine (hg.block _ (Nat.lt_of_lt_of_le bN.lt h.1.size) (fun e => ?_)).trans h.2.2
      have h1 : W0.heap.size ≤ w1.heap.size + 1 + 1 := hk _ e
      have h2 := bN.lt
      omega
  case assign =>
    intro l x W K hK
    simp only [chV] at *
    gi_wp2_with fail
    exact hK
  case body =>
    rintro l pre x W ⟨⟨b, c, vs, hv, hP⟩, hB⟩ hlt
    have hEq0 := chOf_one pre x
    have hxR := x.2.1
    have hxm := x.2.2.1
    obtain ⟨⟨xa, xn, rows⟩, hxp⟩ := x
    dsimp only at hxR hxm hEq0 ⊢
    have hxl : rows.length = xn := hxR.rows_length
    have hc := hv.cell
    have hpl : pre.length ≤ 120 := by have := HRL.out; omega
    have hDl : (chOf pre).length ≤ 120 := by rw [show (chOf pre).length = pre.length by simp [chOf]]; exact hpl
    have hsW : w.heap.size ≤ W.heap.size := Nat.le_trans hsz hB.1.size
    generalize (chOf pre) = D at *
    have HEQ := Lib.hid hEq0
    clear hEq0
    have RX : Rd W.drew W.drew.heap.size 3 xa xn (flat rows) := (hxR.below hB.1 (Nat.le_refl _)).more hsW
    have bS1 : Boxed W (w1.heap.size + 1) 27 (.slice a n cap) := hB.2.1.trans bS
    have bN1 : Boxed W (w1.heap.size + 1 + 1) 3 (.int .i64 M) := hB.2.2.trans bN
    refine wpIn_block ?_
    refine wpIn_region_round (by kernel_rfl) (by rfl) (by rintro ⟨a, w, h⟩; exact h) ?_
    refine wpAny_take (i := 1) (v := .slice xa xn xn) rfl (by kernel_rfl) (by kernel_rfl) (by kernel_rfl) (fun _ _ _ h => h) (Or.inl ⟨by rfl, fun w => by go_simp⟩) ?_
    refine wpAny_ready (rs := [0, 2]) (by kernel_rfl) (by simp) ?_
    refine AllReady.cons rfl (fun K hK => ?_) ?_
    · go_simp
      refine hK _ _ ?_
      clear hK K
      refine wpAny_ready (rs := [2]) (by kernel_rfl) (by simp) ?_
      refine AllReady.cons rfl (fun K hK => ?_) AllReady.nil
      go_simp
      refine (clone_any xa xn xn rows W.drew hxm RX).mono ?_
      rintro e w2 ⟨b2, c2, rfl, hO2', hb2⟩
      refine hK _ _ ?_
      clear hK K
      refine wpAny_take (i := 3) (v := .agg #[.slice b2 xn c2]) rfl (by kernel_rfl) (by kernel_rfl) (by kernel_rfl) (fun _ _ _ h => h) (Or.inl ⟨by rfl, fun w => by go_simp⟩) ?_
      have hb2' : Below W.heap.size W w2 := (Below.refl W.heap.size W).drew.trans hb2
      have hO2 : w2.ownsRow W.heap.size 68 3 (.slice b2 xn c2) rows.length (flat rows) := by rw [hxl]; exact hO2'
      have hv2 : Boxed w2 w1.heap.size 24 (.slice b D.length c) := (hb2'.block _ hv.lt).trans hv
      have hc2 := hv2.cell
      refine wpAny_ready (rs := [4]) (by kernel_rfl) (by simp) ?_
      refine AllReady.cons rfl (fun K hK => ?_) AllReady.nil
      go_simp
      refine hK _ _ ?_
      clear hK K
      refine wpAny_ready (rs := [5]) (by kernel_rfl) (by simp) ?_
      refine AllReady.cons rfl (fun K hK => ?_) AllReady.nil
      refine step_append_one rfl _ _ 24 rfl w.heap.size 39 i0 (.agg #[.slice none 0 0]) 1 24 Tryd.underlying24 hi hz0 hz1 hz2 rfl (by decide) (.slice b D.length c) _ _ rfl ((hP.below hb2').outer.alloc _) ⟨w2.heap.size, 0, none⟩ 1 1 [.slice b2 xn c2] rfl rfl (cell_one_new _ _ _) (by intro u hu; simp at hu; subst hu; rfl) (by unfold maxLen; omega) (by omega) (by have := hb2.size; simp at this ⊢; omega) ?_
      intro v' w4 hO4 hg4 hat
      obtain ⟨a4, c4, rfl⟩ := own_slice' hO4
      obtain ⟨hv4, hf1, hf2, hf3⟩ := round_parts hv hP hsW hl2 bS1 bN1 (by omega) (by omega) (by decide) (by decide) hb2' hO2 hg4 hO4 (by simpa using hat)
      have hc4 := hv4.cell
      have hz4 := hv4.frozen
      refine hK _ _ ?_
      clear hK K
      refine wpAny_ready (rs := [6]) (by kernel_rfl) (by simp) ?_
      refine AllReady.cons rfl (fun K hK => ?_) AllReady.nil
      go_simp
      refine hK _ _ ?_
      clear hK K
      refine wpAny_done (by kernel_rfl) ?_ _
      exact ⟨hf3, hf2, by rw [HEQ.out]; exact hf1, keepTwo_t hB hf2⟩
    · refine AllReady.cons rfl (fun K hK => ?_) AllReady.nil
      go_simp
      refine (clone_any xa xn xn rows W.drew hxm RX).mono ?_
      rintro e w2 ⟨b2, c2, rfl, hO2', hb2⟩
      refine hK _ _ ?_
      clear hK K
      refine wpAny_take (i := 3) (v := .agg #[.slice b2 xn c2]) rfl (by kernel_rfl) (by kernel_rfl) (by kernel_rfl) (fun _ _ _ h => h) (Or.inl ⟨by rfl, fun w => by go_simp⟩) ?_
      have hb2' : Below W.heap.size W w2 := (Below.refl W.heap.size W).drew.trans hb2
      have hO2 : w2.ownsRow W.heap.size 68 3 (.slice b2 xn c2) rows.length (flat rows) := by rw [hxl]; exact hO2'
      have hv2 : Boxed w2 w1.heap.size 24 (.slice b D.length c) := (hb2'.block _ hv.lt).trans hv
      have hc2 := hv2.cell
      refine wpAny_ready (rs := [0, 4]) (by kernel_rfl) (by simp) ?_
      refine AllReady.cons rfl (fun K hK => ?_) ?_
      · go_simp
        refine hK _ _ ?_
        clear hK K
        refine wpAny_ready (rs := [4]) (by kernel_rfl) (by simp) ?_
        refine AllReady.cons rfl (fun K hK => ?_) AllReady.nil
        go_simp
        refine hK _ _ ?_
        clear hK K
        refine wpAny_ready (rs := [5]) (by kernel_rfl) (by simp) ?_
        refine AllReady.cons rfl (fun K hK => ?_) AllReady.nil
        refine step_append_one rfl _ _ 24 rfl w.heap.size 39 i0 (.agg #[.slice none 0 0]) 1 24 Tryd.underlying24 hi hz0 hz1 hz2 rfl (by decide) (.slice b D.length c) _ _ rfl ((hP.below hb2').outer.alloc _) ⟨w2.heap.size, 0, none⟩ 1 1 [.slice b2 xn c2] rfl rfl (cell_one_new _ _ _) (by intro u hu; simp at hu; subst hu; rfl) (by unfold maxLen; omega) (by omega) (by have := hb2.size; simp at this ⊢; omega) ?_
        intro v' w4 hO4 hg4 hat
        obtain ⟨a4, c4, rfl⟩ := own_slice' hO4
        obtain ⟨hv4, hf1, hf2, hf3⟩ := round_parts hv hP hsW hl2 bS1 bN1 (by omega) (by omega) (by decide) (by decide) hb2' hO2 hg4 hO4 (by simpa using hat)
        have hc4 := hv4.cell
        have hz4 := hv4.frozen
        refine hK _ _ ?_
        clear hK K
        refine wpAny_ready (rs := [6]) (by kernel_rfl) (by simp) ?_
        refine AllReady.cons rfl (fun K hK => ?_) AllReady.nil
        go_simp
        refine hK _ _ ?_
        clear hK K
        refine wpAny_done (by kernel_rfl) ?_ _
        exact ⟨hf3, hf2, by rw [HEQ.out]; exact hf1, keepTwo_t hB hf2⟩
      · refine AllReady.cons rfl (fun K hK => ?_) AllReady.nil
        go_simp
        refine hK _ _ ?_
        clear hK K
        refine wpAny_ready (rs := [0]) (by kernel_rfl) (by simp) ?_
        refine AllReady.cons rfl (fun K hK => ?_) AllReady.nil
        have hc2' := (hv2.alloc (.cells #[.slice b2 xn c2] 39)).cell
        go_simp
        refine hK _ _ ?_
        clear hK K
        refine wpAny_ready (rs := [5]) (by kernel_rfl) (by simp) ?_
        refine AllReady.cons rfl (fun K hK => ?_) AllReady.nil
        refine step_append_one rfl _ _ 24 rfl w.heap.size 39 i0 (.agg #[.slice none 0 0]) 1 24 Tryd.underlying24 hi hz0 hz1 hz2 rfl (by decide) (.slice b D.length c) _ _ rfl ((hP.below hb2').outer.alloc _) ⟨w2.heap.size, 0, none⟩ 1 1 [.slice b2 xn c2] rfl rfl (cell_one_new _ _ _) (by intro u hu; simp at hu; subst hu; rfl) (by unfold maxLen; omega) (by omega) (by have := hb2.size; simp at this ⊢; omega) ?_
        intro v' w4 hO4 hg4 hat
        obtain ⟨a4, c4, rfl⟩ := own_slice' hO4
        obtain ⟨hv4, hf1, hf2, hf3⟩ := round_parts hv hP hsW hl2 bS1 bN1 (by omega) (by omega) (by decide) (by decide) hb2' hO2 hg4 hO4 (by simpa using hat)
        have hc4 := hv4.cell
        have hz4 := hv4.frozen
        refine hK _ _ ?_
        clear hK K
        refine wpAny_ready (rs := [6]) (by kernel_rfl) (by simp) ?_
        refine AllReady.cons rfl (fun K hK => ?_) AllReady.nil
        go_simp
        refine hK _ _ ?_
        clear hK K
        refine wpAny_done (by kernel_rfl) ?_ _
        exact ⟨hf3, hf2, by rw [HEQ.out]; exact hf1, keepTwo_t hB hf2⟩
  case done =>
    rintro D ys W hD hys ⟨⟨b, c, vs, hv, hP⟩, hB⟩ hK
    rw [hys] at hv hP
    have hc := hv.cell
    have hBW := hW0.trans hB.1
    have hEW := (hBW.cell (p := ⟨1, 0, none⟩) hEl).trans hE
    have HQB := Lib.hid hqb
    generalize hTe : chunksL M rs = T at *
    cases qb
    · have hd20 : decide (20 < (T.length : Int)) = true := by have := of_decide_eq_false HQB.out; simp; omega
      gi_wp2_with fail
      refine wpIn_wide.2 ?_
      have hDl := (Array.getElem?_eq_some_iff.1 hK).1
      have hK2 : ((W.alloc (.cells #[.iface tE xE, .string ⟨#[110, 117, 109, 98, 101, 114, 32, 111, 102, 32, 115, 112, 108, 105, 116, 115]⟩] 105)).drew).heap[D]? = some (.deferred (some [])) := ((bl1 W _).block D hDl).trans hK
      have hB2 := (hBW.alloc hBW.size (.cells #[.iface tE xE, .string ⟨#[110, 117, 109, 98, 101, 114, 32, 111, 102, 32, 115, 112, 108, 105, 116, 115]⟩] 105)).drew
      go_region
      all_goals (
        generalize (W.alloc (.cells #[.iface tE xE, .string ⟨#[110, 117, 109, 98, 101, 114, 32, 111, 102, 32, 115, 112, 108, 105, 116, 115]⟩] 105)).drew = W2 at *
        gi_wp2_with fail
        refine ⟨by simp, .inl ⟨_, _, rfl, run_takeDeferred hK2, ?_⟩⟩
        refine ⟨_, results_tmp2 rfl _ _ _, ?_⟩
        exact ⟨⟨W.heap.size, 0, none⟩, by simp, hB2.trans (belowK_b (w := w) (Nat.le_refl _) W2 D _ _ (by omega) hK2 rfl rfl)⟩)
    · have hd20 : decide (20 < (T.length : Int)) = false := by have := of_decide_eq_true HQB.out; simp; omega
      gi_wp2_with fail
      refine ⟨by simp, .inl ⟨_, _, rfl, run_takeDeferred hK, ?_⟩⟩
      refine ⟨_, results_tmp2 rfl _ _ _, ?_⟩
      exact (⟨b, c, vs, by simp, (hW0.trans hB.1).trans (belowK_b (w := w) (Nat.le_refl _) W D _ _ (by omega) hK rfl rfl), hP.keptRow (grownBy_putObj' W D _) (fun r e => by cases e; exact ⟨_, hK, rfl⟩)⟩)
  case stop =>
    rintro D c pre W _ _ h _
    exact h.elim
theorem SplitErr.out_no {T : List (List RowV)} {w : World} {e : Ending} {w' : World} (h : SplitErr T false w e w') : ∃ p, e = .returned (.tuple #[.slice none 0 0, .iface 101 (.pointer (some p))]) ∧ Below w.heap.size w w' := by
  unfold SplitErr at h
  rw [if_neg (by decide)] at h
  exact h
theorem SplitErr.out_yes {T : List (List RowV)} {w : World} {e : Ending} {w' : World} (h : SplitErr T true w e w') : ∃ b c vs, e = .returned (.tuple #[.slice b T.length c, .nilIface]) ∧ Below w.heap.size w w' ∧ POwn w' w.heap.size b T.length c vs T := by
  unfold SplitErr at h
  rw [if_pos rfl] at h
  exact h
theorem split_any (a : Option Addr) (n cap : Nat) (N : Int) (rs : List RowV) (w : World) (hnc : n ≤ cap) (tE : TypeId) (xE : Value) (hm : n ≤ 1048576) (hok : ∀ r ∈ rs, r.Ok) (hR : Rd w w.heap.size 3 a n (flat rs)) (hE : w.cell? ⟨1, 0, none⟩ = some (.iface tE xE)) (hEl : 1 < w.heap.size) :
    Calls Tryd.prog 42 #[.slice a n cap, .int .i64 N] w (SplitErr (splitsOfS rs N) (splitsOfB rs N) w) := by
  cases hq : rowsOk rs
  · rw [show splitsOfB rs N = false by unfold splitsOfB; rw [hq]; rfl]
    exact split_norows a n cap N rs w tE xE hm hok hR hE hEl hq
  cases hp : (decide (1 ≤ N) && decide (N ≤ 120))
  · rw [show splitsOfB rs N = false by unfold splitsOfB; rw [hp, Bool.false_and, Bool.and_false]]
    exact split_nosize a n cap N rs w tE xE hm hok hR hE hEl hq hp
  obtain ⟨hN1, hN2⟩ : 1 ≤ N ∧ N ≤ 120 := by simpa using hp
  obtain ⟨M, rfl⟩ : ∃ M : Nat, N = (M : Int) := ⟨N.toNat, by omega⟩
  have hM1 : 1 ≤ M := by omega
  have C := split_in a n cap M rs w hnc tE xE hm hok hR hE hEl hq hM1 (by omega)
  have e : splitsOfB rs M = decide ((chunksL M rs).length ≤ 20) := by
    unfold splitsOfB
    rw [hq, hp, Bool.true_and, Bool.true_and]
    have := chunks_many hM1 rs
    rw [decide_eq_decide, this]
    omega
  cases hf : splitsOfB rs M
  · rw [hf] at e
    exact C false e.symm
  · rw [hf] at e
    rw [show splitsOfS rs M = chunksL M rs by unfold splitsOfS; rw [hf]; rfl]
    exact C true e.symm
set_option maxRecDepth 100000 in
set_option maxHeartbeats 1000000 in
theorem implSplitsOf_any (a : Option Addr) (n cap : Nat) (rs : List RowV) (N : Int) (w : World) (hm : n ≤ 1048576) (hnc : n ≤ cap) (hok : ∀ r ∈ rs, r.Ok) (hR : Rd w w.heap.size 3 a n (flat rs)) (tE : TypeId) (xE : Value) (hE : w.cell? ⟨1, 0, none⟩ = some (.iface tE xE)) (hg : w.cell? ⟨2, 0, none⟩ = some errTypeV) :
    Calls Tryd.prog 12 #[.slice a n cap, .int .i64 N] w (SplitOut rs N w) := by
  have hEl : 1 < w.heap.size := by
    rcases Nat.lt_or_ge 1 w.heap.size with h | h
    · exact h
    · simp [World.cell?, Array.getElem?_eq_none h] at hE
  have hgl : 2 < w.heap.size := by
    rcases Nat.lt_or_ge 2 w.heap.size with h | h
    · exact h
    · simp [World.cell?, Array.getElem?_eq_none h] at hg
  have C := split_any a n cap N rs w hnc tE xE hm hok hR hE hEl
  cases hq : splitsOfB rs N
  · rw [hq] at C
    replace C := C.mono fun e w' h => SplitErr.out_no h
    have HQ := Lib.hid hq
    clear hq
    go_enter Tryd.func12, Tryd.ntmps12
    go_wp2_with fail
    refine C.mono ?_
    rintro e w1 ⟨p, rfl, hb⟩
    have hg1 := (hb.cell (p := ⟨2, 0, none⟩) hgl).trans hg
    go_wp2_with fail
    refine (answerPart_hit _ p w1 hg1).mono ?_
    rintro e w2 ⟨rfl, hb2⟩
    go_wp2_with fail
    go_ret2
    exact SplitOut.no HQ.out (hb.trans (hb2.mono hb.size))
  · rw [hq] at C
    replace C := C.mono fun e w' h => SplitErr.out_yes h
    unfold SplitOut
    rw [hq]
    clear hq
    generalize splitsOfS rs N = T at *
    go_enter Tryd.func12, Tryd.ntmps12
    go_wp2_with fail
    refine C.mono ?_
    rintro e w1 ⟨b, c, vs, rfl, hb, hP⟩
    go_wp2_with fail
    refine (answerPart_nil b T.length c w1).mono ?_
    rintro e w2 ⟨rfl, hb2⟩
    go_wp2_with fail
    go_ret2
    exact ⟨b, c, vs, rfl, hb.trans (hb2.mono hb.size), hP.below hb2⟩
end Go.Proofs.YtallcholbbfkdaaDoor

namespace Go.Proofs.YtallcholbbfkdaaDoor
open Go.RowKit
/-- No error, or a rejection that wraps E. -/
def ErrOut (q : Bool) (E : Value) (w : World) (e : Ending) (w' : World) : Prop :=
  Below w.heap.size w w' ∧ ((q = true ∧ e = .returned .nilIface) ∨ (q = false ∧ ∃ p, e = .returned (.iface 101 (.pointer (some ⟨p, 0, none⟩))) ∧ w'.cell? ⟨p, 0, none⟩ = some E))
def splitsFine (ps : List (List RowV)) : Bool := decide (ps.length ≤ 20) && (ps.all rowsOk && decide (ps.flatten.length ≤ 120))
theorem cell_two_new (w : World) (u v : Value) (t : TypeId) : (w.alloc (.cells #[u, v] t)).cell? ⟨w.heap.size, 0, none⟩ = some u := by simp [go_sem]
theorem ErrOut.no {w w' : World} {p : Nat} {u v : Value} {t : TypeId} (hb : Below w.heap.size w w') (hp : p = w'.heap.size) : ErrOut false u w (.returned (.iface 101 (.pointer (some ⟨p, 0, none⟩)))) (w'.alloc (.cells #[u, v] t)) := by
  subst hp
  exact ⟨hb.alloc hb.size _, .inr ⟨rfl, _, rfl, cell_two_new _ _ _ _⟩⟩
theorem ErrOut.out_no {u : Value} {w w' : World} {e : Ending} (h : ErrOut false u w e w') : ∃ p, e = .returned (.iface 101 (.pointer (some ⟨p, 0, none⟩))) ∧ w'.cell? ⟨p, 0, none⟩ = some u ∧ Below w.heap.size w w' := by
  rcases h.2 with ⟨h1, _⟩ | ⟨_, p, h2, h3⟩
  · cases h1
  · exact ⟨p, h2, h3, h.1⟩
theorem ErrOut.out_yes {u : Value} {w w' : World} {e : Ending} (h : ErrOut true u w e w') : e = .returned .nilIface ∧ Below w.heap.size w w' := by
  rcases h.2 with ⟨_, h2⟩ | ⟨h1, _⟩
  · exact ⟨h2, h.1⟩
  · cases h1
set_option maxRecDepth 100000 in
set_option maxHeartbeats 2000000 in
theorem checkSplits_any (a : Option Addr) (n cap : Nat) (ps : List (List RowV)) (w : World) (tE : TypeId) (xE : Value) (hE : w.cell? ⟨0, 0, none⟩ = some (.iface tE xE)) (hEl : 0 < w.heap.size)
    (hn : n ≤ 1048576) (hr : ps.flatten.length ≤ 1048576) (hok : ∀ rs ∈ ps, ∀ r ∈ rs, r.Ok) (hP : PRd w w.heap.size a n ps) :
    Calls Tryd.prog 80 #[.slice a n cap] w (ErrOut (splitsFine ps) (.iface tE xE) w) := by
  have hpl := hP.len
  by_cases hbig : 20 < n
  · have E : splitsFine ps = false := by unfold splitsFine; rw [hpl, decide_eq_false (by omega)]; rfl
    rw [E]
    go_enter Tryd.func80, Tryd.ntmps80
    go_wp2_with fail
    go_ret
    exact ErrOut.no (Below.refl _ _) rfl
  have HPL := Lib.hid hpl
  have HE := Lib.hid (show splitsFine ps = (ps.all rowsOk && decide (ps.flatten.length ≤ 120)) by unfold splitsFine; rw [hpl, decide_eq_true (by omega), Bool.true_and])
  have hle := fun k => flatten_take_le ps k
  have HLE := Lib.hid hle
  clear hpl hle
  go_enter Tryd.func80, Tryd.ntmps80
  go_wp2_with fail
  go_loopw [3, 15] (fun v i wr => ∃ k : Nat, k ≤ n ∧ i = .int .i64 k ∧ (∃ m : Nat, v = .int .i64 m ∧ Hid (m = (ps.take k).flatten.length)) ∧ Hid ((ps.take k).all rowsOk = true) ∧ Below w.heap.size w wr) (fun _ i _ => n - (intOf i).toNat)
  case atStart => exact ⟨0, by omega, rfl, ⟨0, rfl, Lib.hid rfl⟩, Lib.hid rfl, Below.refl _ _⟩
  case round =>
    obtain ⟨k, hk, rfl, ⟨m, rfl, HM⟩, HA, hb⟩ := hrel
    have hE1 := (hb.cell (p := ⟨0, 0, none⟩) hEl).trans hE
    by_cases hlt : k < n
    · obtain ⟨b1, o1, va, vc, rs, rfl, hB1, hrs, c0, RR⟩ := ((hP.below hb (Nat.le_refl _)).more hb.size).at_ hlt
      have hro := hok rs (List.mem_of_getElem? hrs)
      have hbA := (hb.alloc hb.size (.cells #[.slice va rs.length vc] 39))
      have bv := Boxed.new wr 39 (.slice va rs.length vc)
      have RA := (RR.below (bl1 wr (.cells #[.slice va rs.length vc] 39)) (Nat.le_refl _)).more (bl1 wr (.cells #[.slice va rs.length vc] 39)).size
      have htk := flatten_take hrs
      have hsum : (ps.take (k + 1)).flatten.length = m + rs.length := by rw [htk, List.length_append, HM.out]
      have hlek := HLE.out (k + 1)
      have hall : (ps.take (k + 1)).all rowsOk = rowsOk rs := by
        obtain ⟨hk1, hk2⟩ := List.getElem?_eq_some_iff.1 hrs
        rw [List.take_succ_eq_append_getElem hk1, List.all_append, HA.out, hk2]
        simp
      have hmr : m + rs.length ≤ 1048576 := by omega
      have HS := Lib.hid hsum.symm
      have HAL := Lib.hid hall
      have hmem := List.mem_of_getElem? hrs
      have CR := fun w h => implRowsOk_any va rs.length vc rs w (by omega) hro h
      clear hsum hlek htk hall RR HA HM hrs hro
      cases hq : rowsOk rs
      · have E : splitsFine ps = false := by
          rw [HE.out]
          cases ha : ps.all rowsOk
          · rfl
          · rw [List.all_eq_true.1 ha rs hmem] at hq; cases hq
        rw [hq] at CR
        clear hq HAL HS hmem
        generalize rs.length = nr at *
        go_wp2_with fail
        refine (CR _ RA).mono ?_
        rintro e w1 ⟨rfl, hb1⟩
        have hb2 := hbA.trans (hb1.mono hbA.size)
        have hE2 := (hb2.cell (p := ⟨0, 0, none⟩) hEl).trans hE
        go_wp2_with fail
        go_ret
        rw [E]
        exact ErrOut.no hb2 rfl
      · rw [hq] at CR HAL
        clear hq hmem
        generalize rs.length = nr at *
        go_wp2_with fail
        refine (CR _ RA).mono ?_
        rintro e w1 ⟨rfl, hb1⟩
        have bv1 : Boxed w1 wr.heap.size 39 (.slice va nr vc) := (hb1.block _ bv.lt).trans bv
        have bc1 := bv1.cell
        have hb2 := hbA.trans (hb1.mono hbA.size)
        go_wp2_with fail
        go_roundw
        case rel => exact ⟨k + 1, by omega, by go_num, ⟨m + nr, by go_num, HS⟩, HAL, hb2⟩
        case measure => simp [intOf]; omega
    · obtain rfl : k = n := by omega
      have hT : ps.take k = ps := List.take_of_length_le (by rw [HPL.out]; exact Nat.le_refl _)
      have hM := HM.out
      have hA := HA.out
      rw [hT] at hM hA
      have E := HE.out
      rw [hA, Bool.true_and, ← hM] at E
      clear HM HA hT hA hM
      by_cases h120 : 120 < m
      · rw [decide_eq_false (by omega)] at E
        go_wp2_with fail
        go_ret
        rw [E]
        exact ErrOut.no hb rfl
      · rw [decide_eq_true (by omega)] at E
        go_wp2_with fail
        go_ret
        rw [E]
        exact ⟨hb, .inl ⟨rfl, rfl⟩⟩
end Go.Proofs.YtallcholbbfkdaaDoor

namespace Go.Proofs.YtallcholbbfkdaaDoor
namespace JobA
open Go.RowKit
theorem bl4 (w : World) (a b c d : Obj) : Below w.heap.size w ((((w.alloc a).alloc b).alloc c).alloc d) := (bl3 w a b c).alloc (by simp; omega) _
set_option maxRecDepth 100000 in
theorem overNumbers_any (F : Nat) (w : World) : Calls Tryd.prog 104 #[.func (.func F) #[] #[]] w fun e w' => e = .returned (.func (.func 122) #[] #[.pointer (some ⟨w.heap.size, 0, none⟩)]) ∧ w' = w.alloc (.cells #[.func (.func F) #[] #[]] 81) := by
  go_enter Tryd.func104, Tryd.ntmps104
  go_wp2
  go_ret
  exact ⟨rfl, rfl⟩
theorem load_aggr {w : World} {b : Nat} {t c : Value} (h0 : w.cell? ⟨b, 0, none⟩ = some t) (h1 : w.cell? ⟨b, 1, none⟩ = some c) : (loadVar 127 ⟨b, 0, none⟩).run Tryd.prog w = .ok (.agg #[t, c]) w := by
  refine run_loadVar_mid (P := Tryd.prog) w b 0 127 [t, c] _ ?_ Tryd.underlying127 rfl (by kernel_rfl)
  intro j v hv
  match j, hv with
  | 0, hv => injection hv with hv; subst hv; exact h0
  | 1, hv => injection hv with hv; subst hv; exact h1
  | j + 2, hv => simp at hv
/-- A block of two cells, and what was made behind it. -/
theorem two_cells (w : World) (t c : Value) (ty : TypeId) {w' : World} (h : Below (w.alloc (.cells #[t, c] ty)).heap.size (w.alloc (.cells #[t, c] ty)) w') : w'.cell? ⟨w.heap.size, 0, none⟩ = some t ∧ w'.cell? ⟨w.heap.size, 1, none⟩ = some c := by
  have e0 : (w.alloc (.cells #[t, c] ty)).cell? ⟨w.heap.size, 0, none⟩ = some t := by simp [go_sem]
  have e1 : (w.alloc (.cells #[t, c] ty)).cell? ⟨w.heap.size, 1, none⟩ = some c := by simp [go_sem]
  exact ⟨(h.cell (p := ⟨w.heap.size, 0, none⟩) (by simp)).trans e0, (h.cell (p := ⟨w.heap.size, 1, none⟩) (by simp)).trans e1⟩
set_option maxRecDepth 100000 in
set_option maxHeartbeats 2000000 in
theorem aggr_1 (w : World) : Calls Tryd.prog 78 #[.int .i64 1] w fun e w' => e = .returned (.tuple #[.agg #[.func (.func 102) #[] #[], .func (.func 103) #[] #[]], .bool true]) ∧ Below w.heap.size w w' := by
  have CO := fun F w => overNumbers_any F w
  go_enter Tryd.func78, Tryd.ntmps78
  go_wp2_with fail
  refine (CO _ _).mono ?_
  rintro e w1 ⟨rfl, rfl⟩
  go_wp2_with fail
  refine (CO _ _).mono ?_
  rintro e w1 ⟨rfl, rfl⟩
  go_wp2_with fail
  refine (CO _ _).mono ?_
  rintro e w1 ⟨rfl, rfl⟩
  go_wp2_with fail
  clear CO
  have hld : ∀ W, Below (w.alloc (.cells #[.func (.func 102) #[] #[], .func (.func 103) #[] #[]] 127)).heap.size (w.alloc (.cells #[.func (.func 102) #[] #[], .func (.func 103) #[] #[]] 127)) W → (loadVar 127 ⟨w.heap.size, 0, none⟩).run Tryd.prog W = .ok (.agg #[.func (.func 102) #[] #[], .func (.func 103) #[] #[]]) W := fun W h => load_aggr (two_cells w _ _ _ h).1 (two_cells w _ _ _ h).2
  refine bodyPost_ret (v := .tuple #[.agg #[.func (.func 102) #[] #[], .func (.func 103) #[] #[]], .bool true]) ?_ rfl ?_
  · rw [results_cell_tmp rfl]
    simp [asAddr, Result.andThen]
    rw [hld _ (bl4 _ _ _ _ _)]
  · exact ⟨rfl, (bl4 w _ _ _ _).alloc (by simp; omega) _⟩
set_option maxRecDepth 100000 in
set_option maxHeartbeats 2000000 in
theorem aggr_2 (w : World) : Calls Tryd.prog 78 #[.int .i64 2] w fun e w' => ∃ B, w.heap.size ≤ B ∧ B < w'.heap.size ∧ w'.cell? ⟨B, 0, none⟩ = some (.func (.func 103) #[] #[]) ∧ e = .returned (.tuple #[.agg #[.func (.func 122) #[] #[.pointer (some ⟨B, 0, none⟩)], .func (.func 103) #[] #[]], .bool true]) ∧ Below w.heap.size w w' := by
  have CO := fun F w => overNumbers_any F w
  go_enter Tryd.func78, Tryd.ntmps78
  go_wp2_with fail
  refine (CO _ _).mono ?_
  rintro e w1 ⟨rfl, rfl⟩
  go_wp2_with fail
  refine (CO _ _).mono ?_
  rintro e w1 ⟨rfl, rfl⟩
  go_wp2_with fail
  refine (CO _ _).mono ?_
  rintro e w1 ⟨rfl, rfl⟩
  go_wp2_with fail
  clear CO
  have hld : ∀ W, Below (w.alloc (.cells #[.func (.func 122) #[] #[.pointer (some ⟨w.heap.size + 1, 0, none⟩)], .func (.func 103) #[] #[]] 127)).heap.size (w.alloc (.cells #[.func (.func 122) #[] #[.pointer (some ⟨w.heap.size + 1, 0, none⟩)], .func (.func 103) #[] #[]] 127)) W → (loadVar 127 ⟨w.heap.size, 0, none⟩).run Tryd.prog W = .ok (.agg #[.func (.func 122) #[] #[.pointer (some ⟨w.heap.size + 1, 0, none⟩)], .func (.func 103) #[] #[]]) W := fun W h => load_aggr (two_cells w _ _ _ h).1 (two_cells w _ _ _ h).2
  refine bodyPost_ret (v := .tuple #[.agg #[.func (.func 122) #[] #[.pointer (some ⟨w.heap.size + 1, 0, none⟩)], .func (.func 103) #[] #[]], .bool true]) ?_ rfl ?_
  · rw [results_cell_tmp rfl]
    simp [asAddr, Result.andThen]
    rw [hld _ (bl4 _ _ _ _ _)]
  · refine ⟨w.heap.size + 1, by omega, by simp, ?_, rfl, (bl4 w _ _ _ _).alloc (by simp; omega) _⟩
    simp [go_sem]
set_option maxRecDepth 100000 in
set_option maxHeartbeats 2000000 in
theorem aggr_3 (w : World) : Calls Tryd.prog 78 #[.int .i64 3] w fun e w' => ∃ B, w.heap.size ≤ B ∧ B < w'.heap.size ∧ w'.cell? ⟨B, 0, none⟩ = some (.func (.func 105) #[] #[]) ∧ e = .returned (.tuple #[.agg #[.func (.func 122) #[] #[.pointer (some ⟨B, 0, none⟩)], .func (.func 105) #[] #[]], .bool true]) ∧ Below w.heap.size w w' := by
  have CO := fun F w => overNumbers_any F w
  go_enter Tryd.func78, Tryd.ntmps78
  go_wp2_with fail
  refine (CO _ _).mono ?_
  rintro e w1 ⟨rfl, rfl⟩
  go_wp2_with fail
  refine (CO _ _).mono ?_
  rintro e w1 ⟨rfl, rfl⟩
  go_wp2_with fail
  refine (CO _ _).mono ?_
  rintro e w1 ⟨rfl, rfl⟩
  go_wp2_with fail
  clear CO
  have hld : ∀ W, Below (w.alloc (.cells #[.func (.func 122) #[] #[.pointer (some ⟨w.heap.size + 1 + 1, 0, none⟩)], .func (.func 105) #[] #[]] 127)).heap.size (w.alloc (.cells #[.func (.func 122) #[] #[.pointer (some ⟨w.heap.size + 1 + 1, 0, none⟩)], .func (.func 105) #[] #[]] 127)) W → (loadVar 127 ⟨w.heap.size, 0, none⟩).run Tryd.prog W = .ok (.agg #[.func (.func 122) #[] #[.pointer (some ⟨w.heap.size + 1 + 1, 0, none⟩)], .func (.func 105) #[] #[]]) W := fun W h => load_aggr (two_cells w _ _ _ h).1 (two_cells w _ _ _ h).2
  refine bodyPost_ret (v := .tuple #[.agg #[.func (.func 122) #[] #[.pointer (some ⟨w.heap.size + 1 + 1, 0, none⟩)], .func (.func 105) #[] #[]], .bool true]) ?_ rfl ?_
  · rw [results_cell_tmp rfl]
    simp [asAddr, Result.andThen]
    rw [hld _ (bl4 _ _ _ _ _)]
  · refine ⟨w.heap.size + 1 + 1, by omega, by simp, ?_, rfl, (bl4 w _ _ _ _).alloc (by simp; omega) _⟩
    simp [go_sem]
set_option maxRecDepth 100000 in
set_option maxHeartbeats 2000000 in
theorem aggr_4 (w : World) : Calls Tryd.prog 78 #[.int .i64 4] w fun e w' => ∃ B, w.heap.size ≤ B ∧ B < w'.heap.size ∧ w'.cell? ⟨B, 0, none⟩ = some (.func (.func 106) #[] #[]) ∧ e = .returned (.tuple #[.agg #[.func (.func 122) #[] #[.pointer (some ⟨B, 0, none⟩)], .func (.func 106) #[] #[]], .bool true]) ∧ Below w.heap.size w w' := by
  have CO := fun F w => overNumbers_any F w
  go_enter Tryd.func78, Tryd.ntmps78
  go_wp2_with fail
  refine (CO _ _).mono ?_
  rintro e w1 ⟨rfl, rfl⟩
  go_wp2_with fail
  refine (CO _ _).mono ?_
  rintro e w1 ⟨rfl, rfl⟩
  go_wp2_with fail
  refine (CO _ _).mono ?_
  rintro e w1 ⟨rfl, rfl⟩
  go_wp2_with fail
  clear CO
  have hld : ∀ W, Below (w.alloc (.cells #[.func (.func 122) #[] #[.pointer (some ⟨w.heap.size + 1 + 1 + 1, 0, none⟩)], .func (.func 106) #[] #[]] 127)).heap.size (w.alloc (.cells #[.func (.func 122) #[] #[.pointer (some ⟨w.heap.size + 1 + 1 + 1, 0, none⟩)], .func (.func 106) #[] #[]] 127)) W → (loadVar 127 ⟨w.heap.size, 0, none⟩).run Tryd.prog W = .ok (.agg #[.func (.func 122) #[] #[.pointer (some ⟨w.heap.size + 1 + 1 + 1, 0, none⟩)], .func (.func 106) #[] #[]]) W := fun W h => load_aggr (two_cells w _ _ _ h).1 (two_cells w _ _ _ h).2
  refine bodyPost_ret (v := .tuple #[.agg #[.func (.func 122) #[] #[.pointer (some ⟨w.heap.size + 1 + 1 + 1, 0, none⟩)], .func (.func 106) #[] #[]], .bool true]) ?_ rfl ?_
  · rw [results_cell_tmp rfl]
    simp [asAddr, Result.andThen]
    rw [hld _ (bl4 _ _ _ _ _)]
  · refine ⟨w.heap.size + 1 + 1 + 1, by omega, by simp, ?_, rfl, (bl4 w _ _ _ _).alloc (by simp; omega) _⟩
    simp [go_sem]
set_option maxRecDepth 100000 in
set_option maxHeartbeats 2000000 in
theorem aggr_5 (w : World) : Calls Tryd.prog 78 #[.int .i64 5] w fun e w' => e = .returned (.tuple #[.agg #[.func (.func 107) #[] #[], .nilFunc], .bool true]) ∧ Below w.heap.size w w' := by
  have CO := fun F w => overNumbers_any F w
  go_enter Tryd.func78, Tryd.ntmps78
  go_wp2_with fail
  refine (CO _ _).mono ?_
  rintro e w1 ⟨rfl, rfl⟩
  go_wp2_with fail
  refine (CO _ _).mono ?_
  rintro e w1 ⟨rfl, rfl⟩
  go_wp2_with fail
  refine (CO _ _).mono ?_
  rintro e w1 ⟨rfl, rfl⟩
  go_wp2_with fail
  clear CO
  have hld : ∀ W, Below (w.alloc (.cells #[.func (.func 107) #[] #[], .nilFunc] 127)).heap.size (w.alloc (.cells #[.func (.func 107) #[] #[], .nilFunc] 127)) W → (loadVar 127 ⟨w.heap.size, 0, none⟩).run Tryd.prog W = .ok (.agg #[.func (.func 107) #[] #[], .nilFunc]) W := fun W h => load_aggr (two_cells w _ _ _ h).1 (two_cells w _ _ _ h).2
  refine bodyPost_ret (v := .tuple #[.agg #[.func (.func 107) #[] #[], .nilFunc], .bool true]) ?_ rfl ?_
  · rw [results_cell_tmp rfl]
    simp [asAddr, Result.andThen]
    rw [hld _ (bl4 _ _ _ _ _)]
  · exact ⟨rfl, (bl4 w _ _ _ _).alloc (by simp; omega) _⟩
theorem kind_five {n : Int} (h : (decide (1 ≤ n) && decide (n ≤ 5)) = true) : n = 1 ∨ n = 2 ∨ n = 3 ∨ n = 4 ∨ n = 5 := by
  rw [Bool.and_eq_true, decide_eq_true_eq, decide_eq_true_eq] at h
  omega
def FnV (v : Value) : Prop := v = .nilFunc ∨ ∃ f a b, v = .func f a b
set_option maxRecDepth 100000 in
set_option maxHeartbeats 2000000 in
theorem aggr_no (n : Int) (h : (decide (1 ≤ n) && decide (n ≤ 5)) = false) (w : World) : Calls Tryd.prog 78 #[.int .i64 n] w fun e w' => e = .returned (.tuple #[.agg #[.nilFunc, .nilFunc], .bool false]) ∧ Below w.heap.size w w' := by
  have hld : ∀ W, Below (w.alloc (.cells #[.nilFunc, .nilFunc] 127)).heap.size (w.alloc (.cells #[.nilFunc, .nilFunc] 127)) W → (loadVar 127 ⟨w.heap.size, 0, none⟩).run Tryd.prog W = .ok (.agg #[.nilFunc, .nilFunc]) W := fun W h => load_aggr (two_cells w _ _ _ h).1 (two_cells w _ _ _ h).2
  have hb := bl1 w (.cells #[.nilFunc, .nilFunc] 127)
  by_cases h1 : n < 1
  · clear h
    go_enter Tryd.func78, Tryd.ntmps78
    go_wp2_with fail
    refine bodyPost_ret (v := .tuple #[.agg #[.nilFunc, .nilFunc], .bool false]) ?_ rfl ⟨rfl, hb⟩
    rw [results_cell_tmp rfl]
    simp [asAddr, Result.andThen]
    rw [hld _ (Below.refl _ _)]
  · have h2 : 5 < n := by
      rcases Int.lt_or_le 5 n with h2 | h2
      · exact h2
      · have : (decide (1 ≤ n) && decide (n ≤ 5)) = true := by simp; omega
        rw [this] at h; cases h
    clear h
    go_enter Tryd.func78, Tryd.ntmps78
    go_wp2_with fail
    refine bodyPost_ret (v := .tuple #[.agg #[.nilFunc, .nilFunc], .bool false]) ?_ rfl ⟨rfl, hb⟩
    rw [results_cell_tmp rfl]
    simp [asAddr, Result.andThen]
    rw [hld _ (Below.refl _ _)]
theorem aggr_any (n : Int) (w : World) : Calls Tryd.prog 78 #[.int .i64 n] w fun e w' => ∃ tv cv, FnV tv ∧ FnV cv ∧ e = .returned (.tuple #[.agg #[tv, cv], .bool (decide (1 ≤ n) && decide (n ≤ 5))]) ∧ Below w.heap.size w w' := by
  cases hk : (decide (1 ≤ n) && decide (n ≤ 5))
  · refine (aggr_no n hk w).mono ?_
    rintro e w1 ⟨rfl, hb⟩
    exact ⟨_, _, .inl rfl, .inl rfl, rfl, hb⟩
  · rcases kind_five hk with rfl | rfl | rfl | rfl | rfl
    · refine (aggr_1 w).mono ?_
      rintro e w1 ⟨rfl, hb⟩
      exact ⟨_, _, .inr ⟨_, _, _, rfl⟩, .inr ⟨_, _, _, rfl⟩, rfl, hb⟩
    · refine (aggr_2 w).mono ?_
      rintro e w1 ⟨B, _, _, _, rfl, hb⟩
      exact ⟨_, _, .inr ⟨_, _, _, rfl⟩, .inr ⟨_, _, _, rfl⟩, rfl, hb⟩
    · refine (aggr_3 w).mono ?_
      rintro e w1 ⟨B, _, _, _, rfl, hb⟩
      exact ⟨_, _, .inr ⟨_, _, _, rfl⟩, .inr ⟨_, _, _, rfl⟩, rfl, hb⟩
    · refine (aggr_4 w).mono ?_
      rintro e w1 ⟨B, _, _, _, rfl, hb⟩
      exact ⟨_, _, .inr ⟨_, _, _, rfl⟩, .inr ⟨_, _, _, rfl⟩, rfl, hb⟩
    · refine (aggr_5 w).mono ?_
      rintro e w1 ⟨rfl, hb⟩
      exact ⟨_, _, .inr ⟨_, _, _, rfl⟩, .inl rfl, rfl, hb⟩
set_option maxRecDepth 100000 in
theorem l1In_five (n : Int) (b : Bool) (w : World) (h : (decide (1 ≤ n) && decide (n ≤ 5)) = b) : Calls Tryd.prog 39 #[.int .i64 n, .int .i64 1, .int .i64 5] w fun e w' => e = .returned (.bool b) ∧ Below w.heap.size w w' := by
  have E := Lib.hid h
  clear h
  by_cases h1 : 1 ≤ n
  · have d1 : decide (1 ≤ n) = true := by simp [h1]
    go_enter Tryd.func39, Tryd.ntmps39
    go_wp2
    go_ret
    exact ⟨ret_bool (by rw [← E.out, d1, Bool.true_and]), Below.refl _ _⟩
  · have d1 : decide (1 ≤ n) = false := by simp [h1]
    go_enter Tryd.func39, Tryd.ntmps39
    go_wp2
    go_ret
    exact ⟨ret_bool (by rw [← E.out, d1, Bool.false_and]), Below.refl _ _⟩
set_option maxRecDepth 100000 in
theorem l7Kind_any (n : Int) (b : Bool) (w : World) (h : (decide (1 ≤ n) && decide (n ≤ 5)) = b) : Calls Tryd.prog 51 #[.int .i64 n] w fun e w' => e = .returned (.bool b) ∧ Below w.heap.size w w' := by
  have C := l1In_five n b w h
  clear h
  go_enter Tryd.func51, Tryd.ntmps51
  go_wp2_with fail
  refine C.mono ?_
  rintro e w1 ⟨rfl, hb⟩
  go_wp2_with fail
  go_ret
  exact ⟨rfl, hb⟩
end JobA
end Go.Proofs.YtallcholbbfkdaaDoor

namespace Go.Proofs.YtallcholbbfkdaaDoor
open Go.RowKit
def jobB (K P : Int) (ps : List (List RowV)) : Bool := (decide (1 ≤ K) && decide (K ≤ 5)) && (inP P && splitsFine ps)
set_option maxRecDepth 100000 in
set_option maxHeartbeats 2000000 in
theorem checkJob_any (K P : Int) (a : Option Addr) (n cap : Nat) (ps : List (List RowV)) (w : World) (tE : TypeId) (xE : Value) (hE : w.cell? ⟨0, 0, none⟩ = some (.iface tE xE)) (hEl : 0 < w.heap.size)
    (hn : n ≤ 1048576) (hr : ps.flatten.length ≤ 1048576) (hok : ∀ rs ∈ ps, ∀ r ∈ rs, r.Ok) (hP : PRd w w.heap.size a n ps) :
    Calls Tryd.prog 54 #[.agg #[.int .i64 K, .int .i64 P, .slice a n cap]] w (ErrOut (jobB K P ps) (.iface tE xE) w) := by
  have CA := fun w => JobA.aggr_any K w
  have CP := fun w => partsOk_b P _ w rfl
  have hb0 := bl1 w (.cells #[.int .i64 K, .int .i64 P, .slice a n cap] 47)
  have d0 : (w.alloc (.cells #[.int .i64 K, .int .i64 P, .slice a n cap] 47)).cell? ⟨w.heap.size, 0, none⟩ = some (.int .i64 K) := by simp [go_sem]
  have d1 : (w.alloc (.cells #[.int .i64 K, .int .i64 P, .slice a n cap] 47)).cell? ⟨w.heap.size, 1, none⟩ = some (.int .i64 P) := by simp [go_sem]
  have d2 : (w.alloc (.cells #[.int .i64 K, .int .i64 P, .slice a n cap] 47)).cell? ⟨w.heap.size, 2, none⟩ = some (.slice a n cap) := by simp [go_sem]
  have hlt : w.heap.size < (w.alloc (.cells #[.int .i64 K, .int .i64 P, .slice a n cap] 47)).heap.size := by simp
  generalize hW : w.alloc (.cells #[.int .i64 K, .int .i64 P, .slice a n cap] 47) = W at *
  cases hk : (decide (1 ≤ K) && decide (K ≤ 5))
  · have E : jobB K P ps = false := by unfold jobB; rw [hk]; rfl
    rw [hk] at CA
    rw [E]
    clear hk E CP
    go_enter Tryd.func54, Tryd.ntmps54
    go_wp2_with fail
    refine (CA _).mono ?_
    rintro e w1 ⟨tv, cv, ft, fc, rfl, hb1⟩
    have hB1 := hb0.trans (hb1.mono hb0.size)
    have hB2 := hB1.alloc hB1.size (.cells #[tv, cv] 127)
    have hE2 := (hB2.cell (p := ⟨0, 0, none⟩) hEl).trans hE
    rcases ft with rfl | ⟨f1, a1, b1, rfl⟩ <;> rcases fc with rfl | ⟨f2, a2, b2, rfl⟩
    all_goals
      go_wp2_with fail
      go_ret
      exact ErrOut.no hB2 (by simp)
  rw [hk] at CA
  cases hp : inP P
  · have E : jobB K P ps = false := by unfold jobB; rw [hk, hp]; rfl
    rw [hp] at CP
    rw [E]
    clear hk E hp
    go_enter Tryd.func54, Tryd.ntmps54
    go_wp2_with fail
    refine (CA _).mono ?_
    rintro e w1 ⟨tv, cv, ft, fc, rfl, hb1⟩
    have hB1 := hb0.trans (hb1.mono hb0.size)
    have hB2 := hB1.alloc hB1.size (.cells #[tv, cv] 127)
    have f1 := ((bl1 w1 (.cells #[tv, cv] 127)).cell (p := ⟨w.heap.size, 1, none⟩) (Nat.lt_of_lt_of_le hlt hb1.size)).trans ((hb1.cell (p := ⟨w.heap.size, 1, none⟩) hlt).trans d1)
    rcases ft with rfl | ⟨f1, a1, b1, rfl⟩ <;> rcases fc with rfl | ⟨f2, a2, b2, rfl⟩
    all_goals
      go_wp2_with fail
      refine (CP _).mono ?_
      rintro e w3 ⟨rfl, hb3⟩
      have hB3 := hB2.trans (hb3.mono hB2.size)
      have hE2 := (hB3.cell (p := ⟨0, 0, none⟩) hEl).trans hE
      go_wp2_with fail
      go_ret
      exact ErrOut.no hB3 rfl
  rw [hp] at CP
  have E : jobB K P ps = splitsFine ps := by unfold jobB; rw [hk, hp, Bool.true_and, Bool.true_and]
  rw [E]
  clear hk E hp
  go_enter Tryd.func54, Tryd.ntmps54
  go_wp2_with fail
  refine (CA _).mono ?_
  rintro e w1 ⟨tv, cv, ft, fc, rfl, hb1⟩
  have hB1 := hb0.trans (hb1.mono hb0.size)
  have hB2 := hB1.alloc hB1.size (.cells #[tv, cv] 127)
  have hlt2 := Nat.lt_of_lt_of_le hlt hb1.size
  have f1 := ((bl1 w1 (.cells #[tv, cv] 127)).cell (p := ⟨w.heap.size, 1, none⟩) hlt2).trans ((hb1.cell (p := ⟨w.heap.size, 1, none⟩) hlt).trans d1)
  have f2 := ((bl1 w1 (.cells #[tv, cv] 127)).cell (p := ⟨w.heap.size, 2, none⟩) hlt2).trans ((hb1.cell (p := ⟨w.heap.size, 2, none⟩) hlt).trans d2)
  have hlt3 := Nat.lt_of_lt_of_le hlt2 (bl1 w1 (.cells #[tv, cv] 127)).size
  rcases ft with rfl | ⟨f1, a1, b1, rfl⟩ <;> rcases fc with rfl | ⟨f2, a2, b2, rfl⟩
  all_goals
    go_wp2_with fail
    refine (CP _).mono ?_
    rintro e w3 ⟨rfl, hb3⟩
    have hB3 := hB2.trans (hb3.mono hB2.size)
    have g2 := (hb3.cell (p := ⟨w.heap.size, 2, none⟩) hlt3).trans f2
    have hE2 := (hB3.cell (p := ⟨0, 0, none⟩) hEl).trans hE
    have CC := checkSplits_any a n cap ps w3 tE xE hE2 (Nat.lt_of_lt_of_le hEl hB3.size) hn hr hok ((hP.below hB3 (Nat.le_refl _)).more hB3.size)
    go_wp2_with fail
    refine CC.mono ?_
    rintro e w4 ⟨hb4, hcase⟩
    have hB4 := hB3.trans (hb4.mono hB3.size)
    rcases hcase with ⟨hq, rfl⟩ | ⟨hq, p, rfl, hc⟩
    · go_wp2_with fail
      go_ret
      exact ⟨hB4, .inl ⟨hq, rfl⟩⟩
    · go_wp2_with fail
      go_ret
      exact ⟨hB4, .inr ⟨hq, p, rfl, hc⟩⟩
set_option maxRecDepth 100000 in
set_option maxHeartbeats 2000000 in
theorem implJobOk_any (K P : Int) (a : Option Addr) (n cap : Nat) (ps : List (List RowV)) (w : World) (b : Addr) (hE : w.cell? ⟨0, 0, none⟩ = some (.iface 198 (.pointer (some b))))
    (hn : n ≤ 1048576) (hr : ps.flatten.length ≤ 1048576) (hok : ∀ rs ∈ ps, ∀ r ∈ rs, r.Ok) (hP : PRd w w.heap.size a n ps) :
    Calls Tryd.prog 26 #[.agg #[.int .i64 K, .int .i64 P, .slice a n cap]] w fun e w' => e = .returned (.bool (jobB K P ps)) ∧ Below w.heap.size w w' := by
  have hEl : 0 < w.heap.size := by
    rcases Nat.lt_or_ge 0 w.heap.size with h | h
    · exact h
    · simp [World.cell?, Array.getElem?_eq_none h] at hE
  have hb0 := bl1 w (.cells #[.int .i64 K, .int .i64 P, .slice a n cap] 47)
  have d0 : (w.alloc (.cells #[.int .i64 K, .int .i64 P, .slice a n cap] 47)).cell? ⟨w.heap.size, 0, none⟩ = some (.int .i64 K) := by simp [go_sem]
  have d1 : (w.alloc (.cells #[.int .i64 K, .int .i64 P, .slice a n cap] 47)).cell? ⟨w.heap.size, 1, none⟩ = some (.int .i64 P) := by simp [go_sem]
  have d2 : (w.alloc (.cells #[.int .i64 K, .int .i64 P, .slice a n cap] 47)).cell? ⟨w.heap.size, 2, none⟩ = some (.slice a n cap) := by simp [go_sem]
  generalize hW : w.alloc (.cells #[.int .i64 K, .int .i64 P, .slice a n cap] 47) = W at *
  have hEW := (hb0.cell (p := ⟨0, 0, none⟩) hEl).trans hE
  have CJ := fun W2 (hb : Below w.heap.size w W2) => checkJob_any K P a n cap ps W2 198 (.pointer (some b)) ((hb.cell (p := ⟨0, 0, none⟩) hEl).trans hE) (Nat.lt_of_lt_of_le hEl hb.size) hn hr hok ((hP.below hb (Nat.le_refl _)).more hb.size)
  go_enter Tryd.func26, Tryd.ntmps26
  go_wp2_with fail
  have hD : Below w.heap.size w W.drew := hb0.drew
  have HF := Lib.hid hP
  cases hq : jobB K P ps
  · rw [hq] at CJ
    have CK := fun W2 hb => (CJ W2 hb).mono fun _ _ h => h.out_no
    have HQ := Lib.hid hq
    clear CJ hP HF hq
    go_region_with (first
      | (go_at_call 54; refine (CK _ hD).mono ?_; clear CK; rintro e w1 ⟨p, rfl, hc, hb1⟩; have hb2 := hD.trans (hb1.mono hD.size); have hEx := (hb2.cell (p := ⟨0, 0, none⟩) hEl).trans hE)
      | (go_at_call 53; refine (is_rejection _ _ b _ hc).mono ?_; rintro e w2 ⟨rfl, rfl⟩))
    all_goals (go_wp2_with fail; go_ret; exact ⟨by rw [HQ.out]; rfl, hb2⟩)
  · rw [hq] at CJ
    have CK := fun W2 hb => (CJ W2 hb).mono fun _ _ h => h.out_yes
    have HQ := Lib.hid hq
    clear CJ hP HF hq
    go_region_with (first
      | (go_at_call 54; refine (CK _ hD).mono ?_; clear CK; rintro e w1 ⟨rfl, hb1⟩; have hb2 := hD.trans (hb1.mono hD.size); have hEx := (hb2.cell (p := ⟨0, 0, none⟩) hEl).trans hE)
      | (go_at_call 53; refine (is_nil b _).mono ?_; rintro e w2 ⟨rfl, rfl⟩))
    all_goals (go_wp2_with fail; go_ret; exact ⟨by rw [HQ.out]; rfl, hb2⟩)
end Go.Proofs.YtallcholbbfkdaaDoor

namespace Go.Proofs.YtallcholbbfkdaaDoor
open Go.RowKit

/-- What szRowS returns, with the number of rows taken off. -/
def SzSum (left : Int) (len : Nat) (w : World) (e : Ending) (w' : World) : Prop := ∃ z : Int, e = .returned (.int .i64 z) ∧ Below w.heap.size w w' ∧ (z = -1 ∨ 0 ≤ z ∧ z + len ≤ left)
set_option maxRecDepth 100000 in
set_option maxHeartbeats 1000000 in
theorem szRowS_sum (a : Option Addr) (len cap : Nat) (rs : List RowV) (left : Int) (w : World) (hm : len ≤ maxLen) (hok : ∀ r ∈ rs, r.Ok) (hR : Rd w w.heap.size 3 a len (flat rs)) (h0 : 0 ≤ left) (h1 : left ≤ 1048576) :
    Calls Tryd.prog 9 #[.slice a len cap, .int .i64 left] w (SzSum left len w) := by
  unfold maxLen at hm
  by_cases hs : left < len
  · go_enter Tryd.func9, Tryd.ntmps9
    go_wp2
    go_ret
    exact ⟨-1, rfl, Below.refl _ _, .inl rfl⟩
  go_enter Tryd.func9, Tryd.ntmps9
  go_wp2
  go_loopw [1, 5] (fun l i wr => ∃ (k : Nat) (z : Int), k ≤ len ∧ i = .int .i64 k ∧ l = .int .i64 z ∧ 0 ≤ z ∧ z + len ≤ left ∧ Below w.heap.size w wr) (fun _ i _ => len - (intOf i).toNat)
  case atStart => exact ⟨0, left - len, Nat.zero_le _, rfl, rfl, by omega, by omega, Below.refl _ _⟩
  case round =>
    obtain ⟨k, z, hk, rfl, rfl, hz0, hz1, hb⟩ := hrel
    by_cases hlt : k < len
    · obtain ⟨b, off, r, rfl, hB, hr, c0, c1, c2⟩ := (hR.below hb (Nat.le_refl _)).row hlt
      have hro := RowV.Ok.of hok hr
      clear hr
      obtain ⟨key, tag, val⟩ := r
      obtain ⟨hkk, _, hvv⟩ := hro
      have hz2 := szV_le key val z hz0 (by omega)
      go_wp2_with fail
      refine (szRow_any key val tag z _ hkk hvv (by omega) (by omega)).mono ?_
      rintro e w1 ⟨rfl, hb1⟩
      clear c0 c1 c2
      generalize szV key val z = z' at *
      rcases hz2 with rfl | ⟨hz20, hz21⟩
      · go_wp2_with fail
        go_ret
        exact ⟨-1, rfl, hb.trans (hb1.mono hb.size), .inl rfl⟩
      go_wp2_with fail
      go_roundw
      case rel => exact ⟨k + 1, z', by omega, by go_num, rfl, hz20, by omega, hb.trans (hb1.mono hb.size)⟩
      case measure => simp [intOf]; omega
    · go_wp2_with fail
      go_ret
      exact ⟨z, rfl, hb, .inr ⟨hz0, hz1⟩⟩
set_option maxRecDepth 100000 in
theorem szPart_any (a : Option Addr) (len cap : Nat) (rs : List RowV) (left : Int) (w : World) (hm : len ≤ maxLen) (hok : ∀ r ∈ rs, r.Ok) (hR : Rd w w.heap.size 3 a len (flat rs)) (h0 : 0 ≤ left) (h1 : left ≤ 1048576) :
    Calls Tryd.prog 74 #[.agg #[.slice a len cap], .int .i64 left] w (SzSum left len w) := by
  have hb0 := bl1 w (.cells #[.slice a len cap] 118)
  have R1 := (hR.below hb0 (Nat.le_refl _)).more hb0.size
  go_enter Tryd.func74, Tryd.ntmps74
  go_wp2_with fail
  generalize w.alloc (.cells #[.slice a len cap] 118) = w0 at *
  refine (szRowS_sum a len cap rs left w0 hm hok R1 h0 h1).mono ?_
  rintro e w1 ⟨z, rfl, hb, hz⟩
  have b9 := hb0.trans (hb.mono hb0.size)
  rcases hz with rfl | ⟨z0, z1⟩
  · go_wp2_with fail
    go_ret
    exact ⟨-1, rfl, b9, .inl rfl⟩
  · go_wp2_with fail
    go_ret
    exact ⟨z, rfl, b9, .inr ⟨z0, z1⟩⟩
/-- What a law on parts is handed. -/
def IsParts (w : World) (a : Option Addr) (len cap : Nat) (ps : List (List RowV)) : Prop := len ≤ cap ∧ cap ≤ maxLen ∧ (∀ rs ∈ ps, rs.length ≤ maxLen ∧ ∀ r ∈ rs, r.Ok) ∧ PRd w w.heap.size a len ps
set_option maxRecDepth 100000 in
set_option maxHeartbeats 1000000 in
theorem szPartS_any (a : Option Addr) (len cap : Nat) (ps : List (List RowV)) (left : Int) (w : World) (hm : len ≤ maxLen) (hok : ∀ rs ∈ ps, rs.length ≤ maxLen ∧ ∀ r ∈ rs, r.Ok) (hP : PRd w w.heap.size a len ps) (h0 : 0 ≤ left) (h1 : left ≤ 1048576) :
    Calls Tryd.prog 50 #[.slice a len cap, .int .i64 left] w fun e w' => ∃ z : Int, e = .returned (.int .i64 z) ∧ Below w.heap.size w w' ∧ (z = -1 ∨ 0 ≤ z ∧ z ≤ left ∧ (len : Int) ≤ left ∧ (rowsIn ps : Int) ≤ left) := by
  have hpl := Lib.hid hP.len
  unfold maxLen at hm
  by_cases hs : left < len
  · go_enter Tryd.func50, Tryd.ntmps50
    go_wp2
    go_ret
    exact ⟨-1, rfl, Below.refl _ _, .inl rfl⟩
  go_enter Tryd.func50, Tryd.ntmps50
  go_wp2
  go_loopw [1, 5] (fun l i wr => ∃ (k : Nat) (z : Int) (q : Nat), k ≤ len ∧ i = .int .i64 k ∧ l = .int .i64 z ∧ 0 ≤ z ∧ z + q ≤ left ∧ Hid (rowsIn (ps.take k) = q) ∧ Below w.heap.size w wr) (fun _ i _ => len - (intOf i).toNat)
  case atStart => exact ⟨0, left - len, 0, Nat.zero_le _, rfl, rfl, by omega, by omega, Lib.hid (by simp [rowsIn]), Below.refl _ _⟩
  case round =>
    obtain ⟨k, z, q, hk, rfl, rfl, hz0, hz1, HQ, hb⟩ := hrel
    by_cases hlt : k < len
    · obtain ⟨b1, o1, a1, c1, r1, rfl, hB1, hr1, d1, R1⟩ := (hP.below hb (Nat.le_refl _)).at_ hlt
      obtain ⟨hl1, hok1⟩ := hok r1 (List.mem_of_getElem? hr1)
      have HC := Lib.hid (rowsIn_take_succ hr1)
      clear hr1
      go_wp2_with fail
      refine (szPart_any a1 r1.length c1 r1 z _ hl1 hok1 (R1.more hb.size) (by omega) (by omega)).mono ?_
      rintro e w1 ⟨z', rfl, hb1, hz⟩
      have b9 := hb.trans (hb1.mono hb.size)
      clear d1
      rcases hz with rfl | ⟨z0, z1⟩
      · go_wp2_with fail
        go_ret
        exact ⟨-1, rfl, b9, .inl rfl⟩
      go_wp2_with fail
      go_roundw
      case rel => exact ⟨k + 1, z', q + r1.length, by omega, by go_num, rfl, z0, by omega, Lib.hid (by rw [HC.out, HQ.out]), b9⟩
      case measure => simp [intOf]; omega
    · have HA : rowsIn (ps.take k) = rowsIn ps := by rw [List.take_of_length_le (by rw [hpl.out]; omega)]
      have HL := HQ.out
      rw [HA] at HL
      clear HA
      go_wp2_with fail
      go_ret
      exact ⟨z, rfl, hb, .inr ⟨hz0, by omega, by omega, by omega⟩⟩
set_option maxRecDepth 100000 in
theorem toPart_any (a : Option Addr) (len cap : Nat) (rs : List RowV) (w : World) (hm : len ≤ 1048576) (hR : Rd w w.heap.size 3 a len (flat rs)) :
    Calls Tryd.prog 75 #[.agg #[.slice a len cap]] w fun e w' => ∃ g : Nat, w.heap.size ≤ g ∧ e = .returned (.agg #[.slice (some ⟨g, 0, none⟩) len len]) ∧ Below w.heap.size w w' ∧ w'.ownsRow w.heap.size 68 3 (.slice (some ⟨g, 0, none⟩) len len) len (flat rs) := by
  have hb0 := bl3 w (.cells #[.slice a len cap] 118) (.cells #[.slice none 0 0] 39) (.cells #[.slice none 0 0] 39)
  have R1 := (hR.below hb0 (Nat.le_refl _)).more hb0.size
  go_enter Tryd.func75, Tryd.ntmps75
  go_wp2_with fail
  have s0 : (((w.alloc (.cells #[.slice a len cap] 118)).alloc (.cells #[.slice none 0 0] 39)).alloc (.cells #[.slice none 0 0] 39)).heap.size = w.heap.size + 3 := by simp
  have x1 : (((w.alloc (.cells #[.slice a len cap] 118)).alloc (.cells #[.slice none 0 0] 39)).alloc (.cells #[.slice none 0 0] 39)).cell? ⟨w.heap.size + 1, 0, none⟩ = some (.slice none 0 0) := by simp [go_sem]
  have x2 : (((w.alloc (.cells #[.slice a len cap] 118)).alloc (.cells #[.slice none 0 0] 39)).alloc (.cells #[.slice none 0 0] 39)).cell? ⟨w.heap.size + 1 + 1, 0, none⟩ = some (.slice none 0 0) := by simp [go_sem]
  have f1 : (((w.alloc (.cells #[.slice a len cap] 118)).alloc (.cells #[.slice none 0 0] 39)).alloc (.cells #[.slice none 0 0] 39)).frozen? ⟨w.heap.size + 1, 0, none⟩ = false := by simp [go_sem]
  have f2 : (((w.alloc (.cells #[.slice a len cap] 118)).alloc (.cells #[.slice none 0 0] 39)).alloc (.cells #[.slice none 0 0] 39)).frozen? ⟨w.heap.size + 1 + 1, 0, none⟩ = false := by simp [go_sem]
  generalize ((w.alloc (.cells #[.slice a len cap] 118)).alloc (.cells #[.slice none 0 0] 39)).alloc (.cells #[.slice none 0 0] 39) = w0 at *
  refine (toRowS_any a len cap rs w0 hm R1).mono ?_
  rintro e w1 ⟨rfl, hb1, hO⟩
  have l1 : w.heap.size + 1 < w0.heap.size := by omega
  have l2 : w.heap.size + 1 + 1 < w0.heap.size := by omega
  have l3 : w.heap.size ≤ w.heap.size + 1 := by omega
  have l4 : w.heap.size ≤ w.heap.size + 1 + 1 := by omega
  replace x1 := (hb1.cell (p := ⟨w.heap.size + 1, 0, none⟩) l1).trans x1
  replace x2 := (hb1.cell (p := ⟨w.heap.size + 1 + 1, 0, none⟩) l2).trans x2
  replace f1 := (hb1.frozen (p := ⟨w.heap.size + 1, 0, none⟩) l1).trans f1
  replace f2 := (hb1.frozen (p := ⟨w.heap.size + 1 + 1, 0, none⟩) l2).trans f2
  have hB := hb0.trans (hb1.mono (by omega))
  have hg : w.heap.size ≤ w0.heap.size := by omega
  have h9 := (hB.setCell (p := ⟨w.heap.size + 1 + 1, 0, none⟩) l4 (.slice (some ⟨w0.heap.size, 0, none⟩) len len)).setCell (p := ⟨w.heap.size + 1, 0, none⟩) l3 (.slice (some ⟨w0.heap.size, 0, none⟩) len len)
  have hO9 : ((w1.setCell ⟨w.heap.size + 1 + 1, 0, none⟩ (.slice (some ⟨w0.heap.size, 0, none⟩) len len)).setCell ⟨w.heap.size + 1, 0, none⟩ (.slice (some ⟨w0.heap.size, 0, none⟩) len len)).ownsRow w.heap.size 68 3 (.slice (some ⟨w0.heap.size, 0, none⟩) len len) len (flat rs) := by
    refine own_base' (own_other (own_other hO (gb_store (World.grownBy.refl w1 (some (w.heap.size + 1 + 1))) 0 _) ?_) (gb_store (World.grownBy.refl _ (some (w.heap.size + 1))) 0 _) ?_) hg
    · intro g e h; injection e with e; injection h with h; simp at e; omega
    · intro g e h; injection e with e; injection h with h; simp at e; omega
  clear hO hb1 R1 hb0 s0
  go_wp2_with fail
  refine bodyPost_ret (v := .agg #[.slice (some ⟨w0.heap.size, 0, none⟩) len len]) ?_ rfl ⟨w0.heap.size, hg, rfl, h9, hO9⟩
  simp [results, Tryd.results75, asAddr, go_sem, x1]
theorem Fam.put {w : World} {lo G j : Nat} {vs : List Value} {ps : List (List RowV)} (h : Fam w lo vs ps) (hG : G < lo) (v : Value) : Fam (w.setCell ⟨G, j, none⟩ v) lo vs ps :=
  ⟨h.len, fun i u rs h1 h2 => own_other (h.own i u rs h1 h2) (gb_store (World.grownBy.refl w (some G)) j v) (fun g hg e => by
    have := (own_ge (h.own i u rs h1 h2) g hg).1
    injection e with e
    omega), h.sep⟩
set_option maxRecDepth 100000 in
set_option maxHeartbeats 1000000 in
theorem toPartS_any (a : Option Addr) (len cap : Nat) (ps : List (List RowV)) (w : World) (hm : len ≤ 1048576) (hr : rowsIn ps ≤ 1048576) (hP : PRd w w.heap.size a len ps) :
    Calls Tryd.prog 52 #[.slice a len cap] w fun e w' => ∃ (p : Option Addr) (vs : List Value), e = .returned (.slice p len len) ∧ Below w.heap.size w w' ∧ POwn w' w.heap.size p len len vs ps := by
  obtain ⟨i0, hi, hz0, hz1, hz2⟩ := info_parts infoPart
  have hpl := Lib.hid hP.len
  go_enter Tryd.func52, Tryd.ntmps52
  go_wp2_with (at_make; refine wpList_make_full _ rfl _ _ 24 rfl w.heap.size 39 i0 (.agg #[.slice none 0 0]) 1 Tryd.underlying24 hi hz0 hz1 .i64 .i64 _ _ len rfl rfl (by omega) (by omega) (by rw [hz2]; omega) (by unfold maxLen; omega) (Nat.le_refl _) ?_; intro w1 hown hgrow)
  have hb1 := (Below.refl w.heap.size w).grown hgrow (Nat.le_refl _) (by simp)
  clear hgrow
  go_loopw [4] (fun i wr => ∃ (k : Nat) (xs vs : List Value), k ≤ len ∧ i = .int .i64 k ∧ Below w.heap.size w wr ∧ wr.ownsRow w.heap.size 39 1 (.slice (some ⟨w.heap.size, 0, none⟩) len len) len xs ∧ Hid (xs.take k = vs) ∧ Hid (Fam wr (w.heap.size + 1) vs (ps.take k))) (fun i _ => len - (intOf i).toNat)
  case atStart => exact ⟨0, _, [], Nat.zero_le _, rfl, hb1, hown, Lib.hid (by simp), Lib.hid (by simpa using Fam.nil _ _)⟩
  case round =>
    obtain ⟨k, xs, vs, hk, rfl, hb, hO, Hx, HF⟩ := hrel
    clear hown hb1
    by_cases hlt : k < len
    · obtain ⟨b1, o1, a1, c1, r1, rfl, hB1, hr1, d1, R1⟩ := (hP.below hb (Nat.le_refl _)).at_ hlt
      have hl1 := rowsIn_at hr1
      have Hr := Lib.hid hr1
      have HT := Lib.hid (show ps.take (k + 1) = ps.take k ++ [r1] by rw [List.take_add_one, hr1]; rfl)
      clear hr1
      have hgw : w.heap.size < wr.heap.size := (own_ge hO w.heap.size rfl).2
      go_wp2_with fail
      refine (toPart_any a1 r1.length c1 r1 wr (by omega) (R1.more hb.size)).mono ?_
      rintro e w2 ⟨g, hg, rfl, hb2, hO1⟩
      have hO2 := own_below hO hb2
      have hxl : k < xs.length := by rw [hO.1]; omega
      have HF2 := Lib.hid ((HF.out.snoc hb2 (v := .slice (some ⟨g, 0, none⟩) r1.length r1.length) (own_base' hO1 (by omega)) (fun q e => by injection e with e; simp at e; omega)).put (G := w.heap.size) (j := k) (by omega) (.slice (some ⟨g, 0, none⟩) r1.length r1.length))
      rw [← HT.out] at HF2
      have Hx2 := Lib.hid (take_set1 (.slice (some ⟨g, 0, none⟩) r1.length r1.length) Hx.out hxl)
      have f0 := hO2.frozenAt k
      obtain ⟨u0, e0⟩ := own_cell hO2 (j := k) (by omega)
      have hB2 : Below w.heap.size w w2 := hb.trans (hb2.mono hb.size)
      have hO3 := (hO2.stored k (.slice (some ⟨g, 0, none⟩) r1.length r1.length)).1
      have hB3 := hB2.setCell (p := ⟨w.heap.size, k, none⟩) (Nat.le_refl _) (.slice (some ⟨g, 0, none⟩) r1.length r1.length)
      clear d1 hb2 hO hO1 R1 HF Hx hO2 hB2
      go_wp2_with fail
      go_roundw
      case rel => exact ⟨k + 1, _, _, by omega, by go_num, hB3, hO3, Hx2, HF2⟩
      case measure => simp [intOf]; omega
    · obtain rfl : k = len := by omega
      have hx := Hx.out
      rw [List.take_of_length_le (by rw [hO.1]; omega)] at hx
      subst hx
      have hF := HF.out
      rw [List.take_of_length_le (by rw [hpl.out]; omega)] at hF
      clear HF Hx
      go_wp2_with fail
      go_ret
      refine ⟨some ⟨w.heap.size, 0, none⟩, xs, rfl, hb, ⟨hO, hF.base (Nat.le_succ _), fun v hv q hq e => ?_⟩⟩
      obtain ⟨i, hi⟩ := List.getElem?_of_mem hv
      have hil : i < ps.length := by rw [← hF.len]; exact (List.getElem?_eq_some_iff.1 hi).1
      have := (own_ge (hF.own i v ps[i] hi (List.getElem?_eq_getElem hil)) q hq).1
      injection e with e
      simp at e
      omega
end Go.Proofs.YtallcholbbfkdaaDoor

namespace Go.Proofs.YtallcholbbfkdaaDoor
open Go.RowKit

/-- The marks of parts, the first of them K. -/
def marksP (K : Nat) : List (List RowV) → List (List RowV)
  | [] => []
  | r :: ps => marksR K r.length :: marksP (K + 3 * r.length) ps
theorem marksP_length (K : Nat) (ps : List (List RowV)) : (marksP K ps).length = ps.length := by
  induction ps generalizing K with
  | nil => rfl
  | cons r ps ih => simp [marksP, ih]
theorem marksR_length (K j : Nat) : (marksR K j).length = j := by simp [marksR]
theorem marksP_get {ps : List (List RowV)} {i K : Nat} {rs : List RowV} (h : ps[i]? = some rs) : (marksP K ps)[i]? = some (marksR (K + 3 * rowsIn (ps.take i)) rs.length) := by
  induction ps generalizing i K with
  | nil => simp at h
  | cons r ps ih =>
    cases i with
    | zero => simp at h; subst h; simp [marksP, rowsIn]
    | succ i =>
      have := ih (i := i) (K := K + 3 * r.length) (by simpa using h)
      simp only [marksP, List.getElem?_cons_succ, List.take_succ_cons, rowsIn]
      rw [this]
      congr 2
      omega
theorem marksP_rowsIn (K : Nat) (ps : List (List RowV)) : rowsIn (marksP K ps) = rowsIn ps := by
  induction ps generalizing K with
  | nil => rfl
  | cons r ps ih => simp [marksP, rowsIn, ih, marksR_length]

theorem eqPart_same (a b : Option Addr) (ca cb : Nat) (rs : List RowV) (w : World) (hm : rs.length ≤ 1048576) (hA : Rd w w.heap.size 3 a rs.length (flat rs)) (hB : Rd w w.heap.size 3 b rs.length (flat rs)) :
    Calls Tryd.prog 43 #[.agg #[.slice a rs.length ca], .agg #[.slice b rs.length cb]] w fun e w' => e = .returned (.bool true) ∧ Below w.heap.size w w' := by
  have hb2 := bl2 w (.cells #[.slice a rs.length ca] 39) (.cells #[.slice b rs.length cb] 39)
  go_enter Tryd.func43, Tryd.ntmps43
  go_wp2_with fail
  refine (eqRowS_same a b rs.length ca cb rs _ hm ((hA.below hb2 (Nat.le_refl _)).more hb2.size) ((hB.below hb2 (Nat.le_refl _)).more hb2.size)).mono ?_
  rintro e w1 ⟨rfl, hb1⟩
  go_wp2_with fail
  go_ret
  exact ⟨rfl, hb2.trans (hb1.mono hb2.size)⟩
set_option maxRecDepth 100000 in
set_option maxHeartbeats 1000000 in
theorem eqPartS_same (a b : Option Addr) (n ca cb : Nat) (ps : List (List RowV)) (w : World) (hm : n ≤ 1048576) (hr : rowsIn ps ≤ 1048576) (hA : PRd w w.heap.size a n ps) (hB : PRd w w.heap.size b n ps) :
    Calls Tryd.prog 13 #[.slice a n ca, .slice b n cb] w fun e w' => e = .returned (.bool true) ∧ Below w.heap.size w w' := by
  go_enter Tryd.func13, Tryd.ntmps13
  go_wp2
  go_loopw [5] (fun i wr => ∃ k : Nat, k ≤ n ∧ i = .int .i64 k ∧ Below w.heap.size w wr) (fun i _ => n - (intOf i).toNat)
  case atStart => exact ⟨0, Nat.zero_le _, rfl, Below.refl _ _⟩
  case round =>
    obtain ⟨k, hk, rfl, hb⟩ := hrel
    by_cases hlt : k < n
    · obtain ⟨b1, o1, a1, c1, rs, rfl, hB1, hr1, d1, R1⟩ := (hA.below hb (Nat.le_refl _)).at_ hlt
      obtain ⟨b2, o2, a2, c2, rs', rfl, hB2, hr2, d2, R2⟩ := (hB.below hb (Nat.le_refl _)).at_ hlt
      obtain rfl : rs = rs' := by rw [hr1] at hr2; injection hr2
      have hl := rowsIn_at hr1
      have R1' := (R1.more hb.size)
      have R2' := (R2.more hb.size)
      clear hr1 hr2 R1 R2
      go_wp2_with fail
      refine wp_region_still_tail 8 (by kernel_rfl) (by kernel_rfl) ?_
      simp only [List.take_succ_cons, List.take_zero, List.drop_succ_cons, List.drop_zero]
      change wpStill _ _ wr.drew _ _ _
      repeat still_step
      refine wpStill_nil ?_
      change wpList _ _ _ _ _ wr.drew
      go_wp2_with fail
      refine (eqPart_same a1 a2 c1 c2 rs _ (by omega) R1'.drew' R2'.drew').mono ?_
      rintro e w1 ⟨rfl, hb1⟩
      clear d1 d2
      go_wp2_with fail
      go_roundw
      case rel => exact ⟨k + 1, by omega, by go_num, hb.drew.trans (hb1.mono hb.size)⟩
      case measure => simp [intOf]; omega
    · go_wp2_with fail
      go_ret
      exact ⟨rfl, hb⟩
set_option maxRecDepth 100000 in
set_option maxHeartbeats 1000000 in
theorem markPartS_any (a : Option Addr) (n cap lo hi : Nat) (vs : List Value) (ps : List (List RowV)) (w : World) (hm : n ≤ 1048576) (hr : rowsIn ps ≤ 1048576) (hO : POwn w lo a n cap vs ps) (hB : Bnd hi vs) :
    Calls Tryd.prog 16 #[.slice a n cap, .int .i64 1] w fun e w' => e = .returned (.int .i64 (1 + 3 * rowsIn ps : Nat)) ∧ POwn w' lo a n cap vs (marksP 1 ps) ∧ Since lo hi w w' := by
  have hl := Lib.hid hO.len
  have HM := Lib.hid (marksP_length 1 ps)
  go_enter Tryd.func16, Tryd.ntmps16
  go_wp2
  go_loopw [1, 5] (fun q i wr => ∃ (j K : Nat), j ≤ n ∧ i = .int .i64 j ∧ q = .int .i64 K ∧ 1 ≤ K ∧ K ≤ 4194304 ∧ Hid (K = 1 + 3 * rowsIn (ps.take j)) ∧ POwn wr lo a n cap vs (part2 (marksP 1 ps) ps j) ∧ Since lo hi w wr) (fun _ i _ => n - (intOf i).toNat)
  case atStart => exact ⟨0, 1, Nat.zero_le _, rfl, rfl, by omega, by omega, Lib.hid (by simp [rowsIn]), by rw [part2_zero]; exact hO, Since.refl _ _ _⟩
  case round =>
    obtain ⟨j, K, hj, rfl, rfl, hK1, hK2, HK, hP, hS⟩ := hrel
    clear hO
    by_cases hlt : j < n
    · obtain ⟨b, off, a', c', rs, rfl, hB1, hr1, d1, _⟩ := hP.rd.at_ hlt
      have hpj : ps[j]? = some rs := by
        have := part2_get (P := []) (S := []) (A := marksP 1 ps) (B := ps) (n := n) (i := j) (a := 0) (x := ps[j]'(by rw [hl.out]; exact hlt)) (HM.out.trans hl.out) hlt (List.getElem?_eq_getElem _) rfl
        simp only [List.nil_append, List.append_nil, Nat.zero_add] at this
        rw [hr1] at this
        injection this with this
        rw [List.getElem?_eq_getElem (by rw [hl.out]; exact hlt), this]
      have hrl := rowsIn_at hpj
      obtain ⟨va, vc, rs2, hv1, hv2, hv3⟩ := hP.fam.at_ (i := j) (by rw [part2_length (HM.out.trans hl.out) hl.out (by omega)]; exact hlt)
      obtain rfl : rs = rs2 := by rw [hr1] at hv2; injection hv2
      obtain ⟨g0, hg0, hga, hgb⟩ := own_form hP.outer (show 0 < n by omega)
      obtain ⟨rfl, rfl⟩ : b = g0 ∧ off = 0 := by injection hg0 with e; injection e with e1 e2; exact ⟨e1, e2⟩
      rw [Nat.zero_add] at d1
      have hvv : Value.slice va rs.length vc = .slice a' rs.length c' := by
        have h1 := hP.outer.cellAt j (by omega)
        rw [hv1, d1] at h1
        injection h1 with h1; exact h1.symm
      rw [hvv] at hv1 hv3
      have HP := Lib.hid hpj
      have HK2 := Lib.hid (show K + 3 * rs.length = 1 + 3 * rowsIn (ps.take (j + 1)) by rw [rowsIn_take_succ hpj, HK.out]; omega)
      have hle : K + 3 * rs.length ≤ 4194304 := by
        have h1 := rowsIn_take_le ps (j + 1)
        have h2 := HK2.out
        omega
      have HG := Lib.hid (marksP_get (K := 1) hpj)
      rw [← HK.out] at HG
      clear hr1 hpj hv2 hvv hg0
      go_wp2_with fail
      refine (markRowS_any a' rs.length c' K lo _ _ (by omega) hK1 (by omega) hv3).mono ?_
      rintro e w1 ⟨rfl, hM, hg1⟩
      have hF := hP.fam.set (rs' := marksR K rs.length) hv1 hg1 (by rw [marksR_length]; exact hM) (.inl rfl)
      have hself : vs.set j (.slice a' rs.length c') = vs := by
        apply List.ext_getElem?
        intro i
        by_cases e : j = i
        · subst e; rw [List.getElem?_set_self (List.getElem?_eq_some_iff.1 hv1).1, hv1]
        · rw [List.getElem?_set_ne e]
      have hset : (part2 (marksP 1 ps) ps j).set j (marksR K rs.length) = part2 (marksP 1 ps) ps (j + 1) := by
        have := part2_set (P := []) (S := []) (A := marksP 1 ps) (B := ps) (n := n) (i := j) (a := 0) (HM.out.trans hl.out) hl.out hlt HG.out rfl
        simpa using this
      rw [hself, hset] at hF
      have hP2 : POwn w1 lo (some ⟨b, 0, none⟩) n cap vs (part2 (marksP 1 ps) ps (j + 1)) := ⟨own_other hP.outer hg1 (fun g hg he => hP.out _ (List.mem_of_getElem? hv1) g he hg), hF, hP.out⟩
      have hS2 := hS.trans (Since.of_gb hg1 (fun g e => ⟨(own_ge hv3 g e).1, hB _ (List.mem_of_getElem? hv1) g e⟩))
      clear hF hself hset hM hg1 hP hS hv1 hv3 d1
      go_wp2_with fail
      go_roundw
      case rel => exact ⟨j + 1, K + 3 * rs.length, by omega, by go_num, by go_num, by omega, hle, HK2, hP2, hS2⟩
      case measure => simp [intOf]; omega
    · obtain rfl : j = n := by omega
      rw [part2_all (HM.out.trans hl.out) hl.out] at hP
      have hK := HK.out
      rw [List.take_of_length_le (Nat.le_of_eq hl.out)] at hK
      have HK' := Lib.hid hK
      clear hK HK
      go_wp2_with fail
      go_ret
      exact ⟨ret_int (by rw [HK'.out]), hP, hS⟩
set_option maxRecDepth 100000 in
set_option maxHeartbeats 1000000 in
theorem heldPartS_any (a : Option Addr) (n cap : Nat) (ps : List (List RowV)) (w : World) (hm : n ≤ 1048576) (hr : rowsIn ps ≤ 1048576) (hR : PRd w w.heap.size a n (marksP 1 ps)) :
    Calls Tryd.prog 17 #[.slice a n cap, .int .i64 1] w fun e w' => e = .returned (.int .i64 (1 + 3 * rowsIn ps : Nat)) ∧ Below w.heap.size w w' := by
  have hl := Lib.hid ((marksP_length 1 ps).symm.trans hR.len)
  go_enter Tryd.func17, Tryd.ntmps17
  go_wp2
  go_loopw [1, 5] (fun q i wr => ∃ (j K : Nat), j ≤ n ∧ i = .int .i64 j ∧ q = .int .i64 K ∧ 1 ≤ K ∧ K ≤ 4194304 ∧ Hid (K = 1 + 3 * rowsIn (ps.take j)) ∧ Below w.heap.size w wr) (fun _ i _ => n - (intOf i).toNat)
  case atStart => exact ⟨0, 1, Nat.zero_le _, rfl, rfl, by omega, by omega, Lib.hid (by simp [rowsIn]), Below.refl _ _⟩
  case round =>
    obtain ⟨j, K, hj, rfl, rfl, hK1, hK2, HK, hb⟩ := hrel
    by_cases hlt : j < n
    · obtain ⟨b, off, a', c', ms, rfl, hB1, hr1, d1, R1⟩ := (hR.below hb (Nat.le_refl _)).at_ hlt
      have hpj : ps[j]? = some (ps[j]'(by rw [hl.out]; exact hlt)) := List.getElem?_eq_getElem _
      generalize ps[j]'(by rw [hl.out]; exact hlt) = rs at hpj
      have hms : ms = marksR K rs.length := by
        have := marksP_get (K := 1) hpj
        rw [hr1, ← HK.out] at this
        injection this
      subst hms
      rw [marksR_length] at d1 R1
      have hrl := rowsIn_at hpj
      have HK2 := Lib.hid (show K + 3 * rs.length = 1 + 3 * rowsIn (ps.take (j + 1)) by rw [rowsIn_take_succ hpj, HK.out]; omega)
      have hle : K + 3 * rs.length ≤ 4194304 := by
        have h1 := rowsIn_take_le ps (j + 1)
        have h2 := HK2.out
        omega
      have R1' := R1.more hb.size
      clear hr1 hpj R1
      go_wp2_with fail
      refine (heldRowS_any a' rs.length c' K _ (by omega) hK1 (by omega) R1').mono ?_
      rintro e w1 ⟨rfl, hb1⟩
      clear d1
      go_wp2_with fail
      go_roundw
      case rel => exact ⟨j + 1, K + 3 * rs.length, by omega, by go_num, by go_num, by omega, hle, HK2, hb.trans (hb1.mono hb.size)⟩
      case measure => simp [intOf]; omega
    · obtain rfl : j = n := by omega
      have hK := HK.out
      rw [List.take_of_length_le (Nat.le_of_eq hl.out)] at hK
      have HK' := Lib.hid hK
      clear hK HK
      go_wp2_with fail
      go_ret
      exact ⟨ret_int (by rw [HK'.out]), hb⟩
end Go.Proofs.YtallcholbbfkdaaDoor

namespace Go.Proofs.YtallcholbbfkdaaDoor
open Go.RowKit
set_option maxRecDepth 100000 in
set_option maxHeartbeats 2000000 in
theorem specJobOk_any (K P : Int) (a : Option Addr) (n cap : Nat) (ps : List (List RowV)) (w : World) (hn : n ≤ 1048576) (hr : ps.flatten.length ≤ 1048576) (hok : ∀ rs ∈ ps, ∀ r ∈ rs, r.Ok) (hP : PRd w w.heap.size a n ps) :
    Calls Tryd.prog 24 #[.agg #[.int .i64 K, .int .i64 P, .slice a n cap]] w fun e w' => e = .returned (.bool (jobB K P ps)) ∧ Below w.heap.size w w' := by
  have HPL := Lib.hid hP.len
  have hle := fun k => flatten_take_le ps k
  have HLE := Lib.hid hle
  have hb0 := bl1 w (.cells #[.int .i64 K, .int .i64 P, .slice a n cap] 47)
  have d0 : (w.alloc (.cells #[.int .i64 K, .int .i64 P, .slice a n cap] 47)).cell? ⟨w.heap.size, 0, none⟩ = some (.int .i64 K) := by simp [go_sem]
  have d1 : (w.alloc (.cells #[.int .i64 K, .int .i64 P, .slice a n cap] 47)).cell? ⟨w.heap.size, 1, none⟩ = some (.int .i64 P) := by simp [go_sem]
  have d2 : (w.alloc (.cells #[.int .i64 K, .int .i64 P, .slice a n cap] 47)).cell? ⟨w.heap.size, 2, none⟩ = some (.slice a n cap) := by simp [go_sem]
  have hlt : w.heap.size < (w.alloc (.cells #[.int .i64 K, .int .i64 P, .slice a n cap] 47)).heap.size := by simp
  generalize hW : w.alloc (.cells #[.int .i64 K, .int .i64 P, .slice a n cap] 47) = W at *
  have CK := fun w => JobA.l7Kind_any K _ w rfl
  have CP := fun w => l1In_b P _ w rfl
  clear hle
  go_enter Tryd.func24, Tryd.ntmps24
  go_wp2_with fail
  go_loopw [3, 4] (fun v i wr => ∃ k : Nat, k ≤ n ∧ i = .int .i64 k ∧ (∃ m : Nat, v = .int .i64 m ∧ Hid (m = (ps.take k).flatten.length)) ∧ Hid ((ps.take k).all rowsOk = true) ∧ Below W.heap.size W wr) (fun _ i _ => n - (intOf i).toNat)
  case atStart => exact ⟨0, by omega, rfl, ⟨0, rfl, Lib.hid rfl⟩, Lib.hid rfl, Below.refl _ _⟩
  case round =>
    obtain ⟨k, hk, rfl, ⟨m, rfl, HM⟩, HA, hb⟩ := hrel
    have e0 := (hb.cell (p := ⟨w.heap.size, 0, none⟩) hlt).trans d0
    have e1 := (hb.cell (p := ⟨w.heap.size, 1, none⟩) hlt).trans d1
    have e2 := (hb.cell (p := ⟨w.heap.size, 2, none⟩) hlt).trans d2
    have hb' := hb0.trans (hb.mono hb0.size)
    by_cases hlt2 : k < n
    · obtain ⟨b1, o1, va, vc, rs, rfl, hB1, hrs, c0, RR⟩ := ((hP.below hb' (Nat.le_refl _)).more hb'.size).at_ hlt2
      have hro := hok rs (List.mem_of_getElem? hrs)
      have htk := flatten_take hrs
      have hsum : (ps.take (k + 1)).flatten.length = m + rs.length := by rw [htk, List.length_append, HM.out]
      have hlek := HLE.out (k + 1)
      have hall : (ps.take (k + 1)).all rowsOk = rowsOk rs := by
        obtain ⟨hk1, hk2⟩ := List.getElem?_eq_some_iff.1 hrs
        rw [List.take_succ_eq_append_getElem hk1, List.all_append, HA.out, hk2]
        simp
      have hmr : m + rs.length ≤ 1048576 := by omega
      have HS := Lib.hid hsum.symm
      have HAL := Lib.hid hall
      have hmem := List.mem_of_getElem? hrs
      have CR := fun w h => specRowsOk_any va rs.length vc rs w (by omega) hro h
      clear hsum hlek htk hall HA HM hrs hro
      cases hq : rowsOk rs
      · have E : jobB K P ps = false := by
          unfold jobB splitsFine
          have : ps.all rowsOk = false := by
            cases ha : ps.all rowsOk
            · rfl
            · rw [List.all_eq_true.1 ha rs hmem] at hq; cases hq
          rw [this]; simp
        rw [hq] at CR
        have HE := Lib.hid E
        clear hq E HAL HS hmem
        generalize rs.length = nr at *
        go_wp2_with fail
        refine (CR _ RR).mono ?_
        rintro e w1 ⟨rfl, hb1⟩
        have hb2 := hb'.trans (hb1.mono hb'.size)
        go_wp2_with fail
        go_ret
        exact ⟨by rw [HE.out]; rfl, hb2⟩
      · rw [hq] at CR HAL
        clear hq hmem
        generalize rs.length = nr at *
        go_wp2_with fail
        refine (CR _ RR).mono ?_
        rintro e w1 ⟨rfl, hb1⟩
        have hb2 := hb.trans (hb1.mono hb.size)
        have f2 := (hb1.cell (p := ⟨w.heap.size, 2, none⟩) (Nat.lt_of_lt_of_le hlt hb.size)).trans e2
        have c1 := (hb1.cell (p := ⟨b1, o1 + k, none⟩) hB1).trans c0
        go_wp2_with fail
        go_roundw
        case rel => exact ⟨k + 1, by omega, by go_num, ⟨m + nr, by go_num, HS⟩, HAL, hb2⟩
        case measure => simp [intOf]; omega
    · obtain rfl : k = n := by omega
      have hT : ps.take k = ps := List.take_of_length_le (by rw [HPL.out]; exact Nat.le_refl _)
      have hM := HM.out
      have hA := HA.out
      rw [hT] at hM hA
      have HE := Lib.hid (show jobB K P ps = ((decide (1 ≤ K) && decide (K ≤ 5)) && (inP P && (decide (k ≤ 20) && decide (m ≤ 120)))) by
        unfold jobB splitsFine
        rw [hA, HPL.out, ← hM, Bool.true_and])
      clear HM HA hT hA hM
      cases hkk : (decide (1 ≤ K) && decide (K ≤ 5))
      · rw [hkk] at CK
        have HK := Lib.hid hkk
        clear hkk
        go_wp2_with fail
        refine (CK _).mono ?_
        rintro e w1 ⟨rfl, hb1⟩
        have hb2 := hb'.trans (hb1.mono hb'.size)
        go_wp2_with fail
        go_ret
        exact ⟨by rw [HE.out, HK.out]; rfl, hb2⟩
      · rw [hkk] at CK
        have HK := Lib.hid hkk
        clear hkk
        cases hpp : inP P
        · rw [hpp] at CP
          have HPP := Lib.hid hpp
          clear hpp
          go_wp2_with fail
          refine (CK _).mono ?_
          rintro e w1 ⟨rfl, hb1⟩
          have hb2 := hb'.trans (hb1.mono hb'.size)
          have f1 := (hb1.cell (p := ⟨w.heap.size, 1, none⟩) (Nat.lt_of_lt_of_le hlt hb.size)).trans e1
          go_wp2_with fail
          refine (CP _).mono ?_
          rintro e w2 ⟨rfl, hb3⟩
          have hb4 := hb2.trans (hb3.mono hb2.size)
          go_wp2_with fail
          go_ret
          exact ⟨by rw [HE.out, HK.out, HPP.out]; rfl, hb4⟩
        · rw [hpp] at CP
          have HPP := Lib.hid hpp
          clear hpp
          go_wp2_with fail
          refine (CK _).mono ?_
          rintro e w1 ⟨rfl, hb1⟩
          have hb2 := hb'.trans (hb1.mono hb'.size)
          have f1 := (hb1.cell (p := ⟨w.heap.size, 1, none⟩) (Nat.lt_of_lt_of_le hlt hb.size)).trans e1
          have f2 := (hb1.cell (p := ⟨w.heap.size, 2, none⟩) (Nat.lt_of_lt_of_le hlt hb.size)).trans e2
          have hl2 := Nat.lt_of_lt_of_le hlt (Nat.le_trans hb.size hb1.size)
          go_wp2_with fail
          refine (CP _).mono ?_
          rintro e w2 ⟨rfl, hb3⟩
          have hb4 := hb2.trans (hb3.mono hb2.size)
          have g2 := (hb3.cell (p := ⟨w.heap.size, 2, none⟩) hl2).trans f2
          by_cases h20 : k ≤ 20
          · by_cases h120 : m ≤ 120
            · have hd2 : decide ((m : Int) ≤ 120) = true := by simp; omega
              go_wp2_with fail
              go_ret
              exact ⟨by rw [HE.out, HK.out, HPP.out, decide_eq_true h20, decide_eq_true h120]; first | rfl | (show Ending.returned (.bool (decide ((m : Int) ≤ 120))) = _; rw [hd2]; rfl), hb4⟩
            · have hd2 : decide ((m : Int) ≤ 120) = false := by simp; omega
              go_wp2_with fail
              go_ret
              exact ⟨by rw [HE.out, HK.out, HPP.out, decide_eq_true h20, decide_eq_false h120]; first | rfl | (show Ending.returned (.bool (decide ((m : Int) ≤ 120))) = _; rw [hd2]; rfl), hb4⟩
          · go_wp2_with fail
            go_ret
            exact ⟨by rw [HE.out, HK.out, HPP.out, decide_eq_false h20]; first | rfl | simp, hb4⟩
set_option maxRecDepth 100000 in
set_option maxHeartbeats 1000000 in
theorem szJob_any (K P : Int) (a : Option Addr) (len cap : Nat) (ps : List (List RowV)) (left : Int) (w : World) (hm : len ≤ maxLen) (hok : ∀ rs ∈ ps, rs.length ≤ maxLen ∧ ∀ r ∈ rs, r.Ok) (hP : PRd w w.heap.size a len ps) (h0 : 0 ≤ left) (h1 : left ≤ 1048576) :
    Calls Tryd.prog 23 #[.agg #[.int .i64 K, .int .i64 P, .slice a len cap], .int .i64 left] w fun e w' => ∃ z : Int, e = .returned (.int .i64 z) ∧ Below w.heap.size w w' ∧ (z = -1 ∨ 0 ≤ z ∧ z ≤ left ∧ (len : Int) ≤ left ∧ (rowsIn ps : Int) ≤ left) := by
  have hb0 := bl1 w (.cells #[.int .i64 K, .int .i64 P, .slice a len cap] 43)
  have CS := szPartS_any a len cap ps left (w.alloc (.cells #[.int .i64 K, .int .i64 P, .slice a len cap] 43)) hm hok ((hP.below hb0 (Nat.le_refl _)).more hb0.size) h0 h1
  go_enter Tryd.func23, Tryd.ntmps23
  go_wp2_with fail
  refine CS.mono ?_
  rintro e w1 ⟨z, rfl, hb, hz⟩
  have hb2 := hb0.trans (hb.mono hb0.size)
  rcases hz with rfl | ⟨z1, z2, z3, z4⟩
  · go_wp2_with fail
    go_ret
    exact ⟨-1, rfl, hb2, .inl rfl⟩
  · go_wp2_with fail
    go_ret
    exact ⟨z, rfl, hb2, .inr ⟨z1, z2, z3, z4⟩⟩
set_option maxRecDepth 100000 in
set_option maxHeartbeats 1000000 in
theorem eqJob_same (K P : Int) (a b : Option Addr) (n ca cb : Nat) (ps : List (List RowV)) (w : World) (hm : n ≤ 1048576) (hr : rowsIn ps ≤ 1048576) (hA : PRd w w.heap.size a n ps) (hB : PRd w w.heap.size b n ps) :
    Calls Tryd.prog 27 #[.agg #[.int .i64 K, .int .i64 P, .slice a n ca], .agg #[.int .i64 K, .int .i64 P, .slice b n cb]] w fun e w' => e = .returned (.bool true) ∧ Below w.heap.size w w' := by
  have hb0 := bl2 w (.cells #[.int .i64 K, .int .i64 P, .slice a n ca] 47) (.cells #[.int .i64 K, .int .i64 P, .slice b n cb] 47)
  have CS := eqPartS_same a b n ca cb ps ((w.alloc (.cells #[.int .i64 K, .int .i64 P, .slice a n ca] 47)).alloc (.cells #[.int .i64 K, .int .i64 P, .slice b n cb] 47)) hm hr ((hA.below hb0 (Nat.le_refl _)).more hb0.size) ((hB.below hb0 (Nat.le_refl _)).more hb0.size)
  go_enter Tryd.func27, Tryd.ntmps27
  go_wp2_with fail
  refine CS.mono ?_
  rintro e w1 ⟨rfl, hb⟩
  have hb2 := hb0.trans (hb.mono hb0.size)
  go_wp2_with fail
  go_ret
  exact ⟨rfl, hb2⟩
end Go.Proofs.YtallcholbbfkdaaDoor

namespace Go.Proofs.YtallcholbbfkdaaDoor
open Go.RowKit
theorem POwn.setLow {W : World} {lo n c G j : Nat} {a : Option Addr} {vs : List Value} {ps : List (List RowV)} (h : POwn W lo a n c vs ps) (hG : G < lo) (x : Value) : POwn (W.setCell ⟨G, j, none⟩ x) lo a n c vs ps :=
  ⟨own_other h.outer (gb_store (World.grownBy.refl W (some G)) j x) (fun g e h2 => by injection h2 with h2; have := (own_ge h.outer g e).1; omega), h.fam.put hG x, h.out⟩
set_option maxRecDepth 100000 in
set_option maxHeartbeats 2000000 in
theorem toJob_any (K P : Int) (a : Option Addr) (n cap : Nat) (ps : List (List RowV)) (w : World) (hm : n ≤ 1048576) (hr : rowsIn ps ≤ 1048576) (hP : PRd w w.heap.size a n ps) :
    Calls Tryd.prog 25 #[.agg #[.int .i64 K, .int .i64 P, .slice a n cap]] w fun e w' => ∃ (p : Option Addr) (vs : List Value), e = .returned (.agg #[.int .i64 K, .int .i64 P, .slice p n n]) ∧ Below w.heap.size w w' ∧ POwn w' w.heap.size p n n vs ps := by
  have hb0 := bl3 w (.cells #[.int .i64 K, .int .i64 P, .slice a n cap] 43) (.cells #[.int .i64 0, .int .i64 0, .slice none 0 0] 47) (.cells #[.int .i64 K, .int .i64 P, .slice none 0 0] 47)
  have R1 := (hP.below hb0 (Nat.le_refl _)).more hb0.size
  go_enter Tryd.func25, Tryd.ntmps25
  go_wp2_with fail
  have xa0 : (((w.alloc (.cells #[.int .i64 K, .int .i64 P, .slice a n cap] 43)).alloc (.cells #[.int .i64 0, .int .i64 0, .slice none 0 0] 47)).alloc (.cells #[.int .i64 K, .int .i64 P, .slice none 0 0] 47)).cell? ⟨w.heap.size + 1, 0, none⟩ = some (.int .i64 0) := by simp [go_sem]
  have fxa0 : (((w.alloc (.cells #[.int .i64 K, .int .i64 P, .slice a n cap] 43)).alloc (.cells #[.int .i64 0, .int .i64 0, .slice none 0 0] 47)).alloc (.cells #[.int .i64 K, .int .i64 P, .slice none 0 0] 47)).frozen? ⟨w.heap.size + 1, 0, none⟩ = false := by simp [go_sem]
  have xa1 : (((w.alloc (.cells #[.int .i64 K, .int .i64 P, .slice a n cap] 43)).alloc (.cells #[.int .i64 0, .int .i64 0, .slice none 0 0] 47)).alloc (.cells #[.int .i64 K, .int .i64 P, .slice none 0 0] 47)).cell? ⟨w.heap.size + 1, 1, none⟩ = some (.int .i64 0) := by simp [go_sem]
  have fxa1 : (((w.alloc (.cells #[.int .i64 K, .int .i64 P, .slice a n cap] 43)).alloc (.cells #[.int .i64 0, .int .i64 0, .slice none 0 0] 47)).alloc (.cells #[.int .i64 K, .int .i64 P, .slice none 0 0] 47)).frozen? ⟨w.heap.size + 1, 1, none⟩ = false := by simp [go_sem]
  have xa2 : (((w.alloc (.cells #[.int .i64 K, .int .i64 P, .slice a n cap] 43)).alloc (.cells #[.int .i64 0, .int .i64 0, .slice none 0 0] 47)).alloc (.cells #[.int .i64 K, .int .i64 P, .slice none 0 0] 47)).cell? ⟨w.heap.size + 1, 2, none⟩ = some (.slice none 0 0) := by simp [go_sem]
  have fxa2 : (((w.alloc (.cells #[.int .i64 K, .int .i64 P, .slice a n cap] 43)).alloc (.cells #[.int .i64 0, .int .i64 0, .slice none 0 0] 47)).alloc (.cells #[.int .i64 K, .int .i64 P, .slice none 0 0] 47)).frozen? ⟨w.heap.size + 1, 2, none⟩ = false := by simp [go_sem]
  have xc0 : (((w.alloc (.cells #[.int .i64 K, .int .i64 P, .slice a n cap] 43)).alloc (.cells #[.int .i64 0, .int .i64 0, .slice none 0 0] 47)).alloc (.cells #[.int .i64 K, .int .i64 P, .slice none 0 0] 47)).cell? ⟨w.heap.size + 1 + 1, 0, none⟩ = some (.int .i64 K) := by simp [go_sem]
  have fxc0 : (((w.alloc (.cells #[.int .i64 K, .int .i64 P, .slice a n cap] 43)).alloc (.cells #[.int .i64 0, .int .i64 0, .slice none 0 0] 47)).alloc (.cells #[.int .i64 K, .int .i64 P, .slice none 0 0] 47)).frozen? ⟨w.heap.size + 1 + 1, 0, none⟩ = false := by simp [go_sem]
  have xc1 : (((w.alloc (.cells #[.int .i64 K, .int .i64 P, .slice a n cap] 43)).alloc (.cells #[.int .i64 0, .int .i64 0, .slice none 0 0] 47)).alloc (.cells #[.int .i64 K, .int .i64 P, .slice none 0 0] 47)).cell? ⟨w.heap.size + 1 + 1, 1, none⟩ = some (.int .i64 P) := by simp [go_sem]
  have fxc1 : (((w.alloc (.cells #[.int .i64 K, .int .i64 P, .slice a n cap] 43)).alloc (.cells #[.int .i64 0, .int .i64 0, .slice none 0 0] 47)).alloc (.cells #[.int .i64 K, .int .i64 P, .slice none 0 0] 47)).frozen? ⟨w.heap.size + 1 + 1, 1, none⟩ = false := by simp [go_sem]
  have xc2 : (((w.alloc (.cells #[.int .i64 K, .int .i64 P, .slice a n cap] 43)).alloc (.cells #[.int .i64 0, .int .i64 0, .slice none 0 0] 47)).alloc (.cells #[.int .i64 K, .int .i64 P, .slice none 0 0] 47)).cell? ⟨w.heap.size + 1 + 1, 2, none⟩ = some (.slice none 0 0) := by simp [go_sem]
  have fxc2 : (((w.alloc (.cells #[.int .i64 K, .int .i64 P, .slice a n cap] 43)).alloc (.cells #[.int .i64 0, .int .i64 0, .slice none 0 0] 47)).alloc (.cells #[.int .i64 K, .int .i64 P, .slice none 0 0] 47)).frozen? ⟨w.heap.size + 1 + 1, 2, none⟩ = false := by simp [go_sem]
  have s0 : (((w.alloc (.cells #[.int .i64 K, .int .i64 P, .slice a n cap] 43)).alloc (.cells #[.int .i64 0, .int .i64 0, .slice none 0 0] 47)).alloc (.cells #[.int .i64 K, .int .i64 P, .slice none 0 0] 47)).heap.size = w.heap.size + 3 := by simp
  generalize (((w.alloc (.cells #[.int .i64 K, .int .i64 P, .slice a n cap] 43)).alloc (.cells #[.int .i64 0, .int .i64 0, .slice none 0 0] 47)).alloc (.cells #[.int .i64 K, .int .i64 P, .slice none 0 0] 47)) = w0 at *
  refine (toPartS_any a n cap ps w0 hm hr R1).mono ?_
  rintro e w1 ⟨p, vs, rfl, hb1, hO⟩
  have l1 : w.heap.size + 1 < w0.heap.size := by omega
  have l2 : w.heap.size + 1 + 1 < w0.heap.size := by omega
  have l3 : w.heap.size ≤ w.heap.size + 1 := by omega
  have l4 : w.heap.size ≤ w.heap.size + 1 + 1 := by omega
  replace xa0 := (hb1.cell (p := ⟨w.heap.size + 1, 0, none⟩) l1).trans xa0
  replace fxa0 := (hb1.frozen (p := ⟨w.heap.size + 1, 0, none⟩) l1).trans fxa0
  replace xa1 := (hb1.cell (p := ⟨w.heap.size + 1, 1, none⟩) l1).trans xa1
  replace fxa1 := (hb1.frozen (p := ⟨w.heap.size + 1, 1, none⟩) l1).trans fxa1
  replace xa2 := (hb1.cell (p := ⟨w.heap.size + 1, 2, none⟩) l1).trans xa2
  replace fxa2 := (hb1.frozen (p := ⟨w.heap.size + 1, 2, none⟩) l1).trans fxa2
  replace xc0 := (hb1.cell (p := ⟨w.heap.size + 1 + 1, 0, none⟩) l2).trans xc0
  replace fxc0 := (hb1.frozen (p := ⟨w.heap.size + 1 + 1, 0, none⟩) l2).trans fxc0
  replace xc1 := (hb1.cell (p := ⟨w.heap.size + 1 + 1, 1, none⟩) l2).trans xc1
  replace fxc1 := (hb1.frozen (p := ⟨w.heap.size + 1 + 1, 1, none⟩) l2).trans fxc1
  replace xc2 := (hb1.cell (p := ⟨w.heap.size + 1 + 1, 2, none⟩) l2).trans xc2
  replace fxc2 := (hb1.frozen (p := ⟨w.heap.size + 1 + 1, 2, none⟩) l2).trans fxc2
  have hB := hb0.trans (hb1.mono (by omega))
  have hg : w.heap.size ≤ w0.heap.size := by omega
  have h9 := (((hB.setCell (p := ⟨w.heap.size + 1 + 1, 2, none⟩) l4 (.slice p n n)).setCell (p := ⟨w.heap.size + 1, 0, none⟩) l3 (.int .i64 K)).setCell (p := ⟨w.heap.size + 1, 1, none⟩) l3 (.int .i64 P)).setCell (p := ⟨w.heap.size + 1, 2, none⟩) l3 (.slice p n n)
  have hO9 := (((hO.setLow (j := 2) l2 (.slice p n n)).setLow (j := 0) l1 (.int .i64 K)).setLow (j := 1) l1 (.int .i64 P)).setLow (j := 2) l1 (.slice p n n)
  have hO8 : POwn _ w.heap.size p n n vs ps := ⟨own_base' hO9.outer hg, hO9.fam.base hg, hO9.out⟩
  clear hO hb1 R1 hb0 s0 hO9
  go_wp2_with fail
  refine bodyPost_ret (v := .agg #[.int .i64 K, .int .i64 P, .slice p n n]) ?_ rfl ⟨p, vs, rfl, h9, hO8⟩
  simp [results, Tryd.results25, asAddr, go_sem, xa0, xa1, xa2]
end Go.Proofs.YtallcholbbfkdaaDoor

namespace Go.Proofs.YtallcholbbfkdaaDoor
open Go.RowKit
set_option maxRecDepth 100000 in
set_option maxHeartbeats 4000000 in
theorem walk_ExactJobOk (K P : Int) (a : Option Addr) (n cap : Nat) (ps : List (List RowV)) (w : World) (hI : IsParts w a n cap ps) (b : Addr) (hE : w.cell? ⟨0, 0, none⟩ = some (.iface 198 (.pointer (some b)))) :
    Calls Tryd.prog 5 #[.agg #[.int .i64 K, .int .i64 P, .slice a n cap]] w fun e w' => e = .returned (.bool true) ∧ Below w.heap.size w w' := by
  obtain ⟨hlc, hcm, hok, hR⟩ := hI
  have hEl : 0 < w.heap.size := by
    rcases Nat.lt_or_ge 0 w.heap.size with h | h
    · exact h
    · simp [World.cell?, Array.getElem?_eq_none h] at hE
  have hb0 := bl1 w (.cells #[.int .i64 K, .int .i64 P, .slice a n cap] 43)
  have d0 : (w.alloc (.cells #[.int .i64 K, .int .i64 P, .slice a n cap] 43)).cell? ⟨w.heap.size, 0, none⟩ = some (.int .i64 K) := by simp [go_sem]
  have d1 : (w.alloc (.cells #[.int .i64 K, .int .i64 P, .slice a n cap] 43)).cell? ⟨w.heap.size, 1, none⟩ = some (.int .i64 P) := by simp [go_sem]
  have d2 : (w.alloc (.cells #[.int .i64 K, .int .i64 P, .slice a n cap] 43)).cell? ⟨w.heap.size, 2, none⟩ = some (.slice a n cap) := by simp [go_sem]
  have hlt : w.heap.size < (w.alloc (.cells #[.int .i64 K, .int .i64 P, .slice a n cap] 43)).heap.size := by simp
  generalize hW : w.alloc (.cells #[.int .i64 K, .int .i64 P, .slice a n cap] 43) = W at *
  have CT := fun (hm : n ≤ 1048576) (hr : rowsIn ps ≤ 1048576) w1 (B : Below w.heap.size w w1) => toJob_any K P a n cap ps w1 hm hr ((hR.below B (Nat.le_refl _)).more B.size)
  go_enter Tryd.func5, Tryd.ntmps5
  go_wp2_with fail
  refine (szJob_any K P a n cap ps _ W (by omega) hok ((hR.below hb0 (Nat.le_refl _)).more hb0.size) (by omega) (by omega)).mono ?_
  rintro e w1 ⟨z, rfl, hb, hz⟩
  have B1 := hb0.trans (hb.mono hb0.size)
  have V1 := hb
  clear hb
  rcases hz with rfl | ⟨z1, z2, z3, z4⟩
  · go_wp2_with fail
    go_ret
    exact ⟨rfl, B1⟩
  have hm : n ≤ 1048576 := by omega
  have hr : rowsIn ps ≤ 1048576 := by omega
  have hrf := hr
  rw [rowsIn_flatS] at hrf
  have hok2 : ∀ rs ∈ ps, ∀ r ∈ rs, r.Ok := fun rs h => (hok rs h).2
  replace CT := CT hm hr
  have e0 := (V1.cell (p := ⟨w.heap.size, 0, none⟩) hlt).trans d0
  have e1 := (V1.cell (p := ⟨w.heap.size, 1, none⟩) hlt).trans d1
  have e2 := (V1.cell (p := ⟨w.heap.size, 2, none⟩) hlt).trans d2
  go_wp2_with fail
  refine (CT w1 B1).mono ?_
  rintro e w2 ⟨p, vs, rfl, hb, hO⟩
  have B2 := B1.trans (hb.mono B1.size)
  have V2 := V1.trans (hb.mono V1.size)
  have R2 := hO.rd
  clear hb hO e0 e1 e2
  go_wp2_with fail
  refine (specJobOk_any K P p n n ps w2 hm hrf hok2 R2).mono ?_
  rintro e w3 ⟨rfl, hb⟩
  have B3 := B2.trans (hb.mono B2.size)
  have V3 := V2.trans (hb.mono V2.size)
  clear hb R2
  have e0 := (V3.cell (p := ⟨w.heap.size, 0, none⟩) hlt).trans d0
  have e1 := (V3.cell (p := ⟨w.heap.size, 1, none⟩) hlt).trans d1
  have e2 := (V3.cell (p := ⟨w.heap.size, 2, none⟩) hlt).trans d2
  go_wp2_with fail
  refine (CT w3 B3).mono ?_
  rintro e w4 ⟨p4, vs4, rfl, hb, hO⟩
  have B4 := B3.trans (hb.mono B3.size)
  have V4 := V3.trans (hb.mono V3.size)
  have R4 := hO.rd
  clear hb hO e0 e1 e2
  have hb5 := bl1 w4 (.cells #[.int .i64 K, .int .i64 P, .slice p4 n n] 47)
  have x0 : (w4.alloc (.cells #[.int .i64 K, .int .i64 P, .slice p4 n n] 47)).cell? ⟨w4.heap.size, 0, none⟩ = some (.int .i64 K) := by simp [go_sem]
  have x1 : (w4.alloc (.cells #[.int .i64 K, .int .i64 P, .slice p4 n n] 47)).cell? ⟨w4.heap.size, 1, none⟩ = some (.int .i64 P) := by simp [go_sem]
  have x2 : (w4.alloc (.cells #[.int .i64 K, .int .i64 P, .slice p4 n n] 47)).cell? ⟨w4.heap.size, 2, none⟩ = some (.slice p4 n n) := by simp [go_sem]
  have hlx : w4.heap.size < (w4.alloc (.cells #[.int .i64 K, .int .i64 P, .slice p4 n n] 47)).heap.size := by simp
  have R5 := (R4.below hb5 (Nat.le_refl _)).more hb5.size
  have B5 := B4.trans (hb5.mono B4.size)
  have V5 := V4.trans (hb5.mono V4.size)
  generalize hW5 : w4.alloc (.cells #[.int .i64 K, .int .i64 P, .slice p4 n n] 47) = W5 at *
  have hE5 := (B5.cell (p := ⟨0, 0, none⟩) hEl).trans hE
  go_wp2_with fail
  refine (implJobOk_any K P p4 n n ps W5 b hE5 hm hrf hok2 R5).mono ?_
  rintro e w6 ⟨rfl, hb⟩
  have B6 := B5.trans (hb.mono B5.size)
  have V6 := V5.trans (hb.mono V5.size)
  have R6 := (R5.below hb (Nat.le_refl _)).more hb.size
  have y0 := (hb.cell (p := ⟨w4.heap.size, 0, none⟩) hlx).trans x0
  have y1 := (hb.cell (p := ⟨w4.heap.size, 1, none⟩) hlx).trans x1
  have y2 := (hb.cell (p := ⟨w4.heap.size, 2, none⟩) hlx).trans x2
  have hl6 := Nat.lt_of_lt_of_le hlx hb.size
  have e0 := (V6.cell (p := ⟨w.heap.size, 0, none⟩) hlt).trans d0
  have e1 := (V6.cell (p := ⟨w.heap.size, 1, none⟩) hlt).trans d1
  have e2 := (V6.cell (p := ⟨w.heap.size, 2, none⟩) hlt).trans d2
  clear hb R5 R4 x0 x1 x2
  generalize jobB K P ps = q at *
  go_wp2_with fail
  have D6 : Below w.heap.size w w6.drew := B6.drew
  have T6 : Below w6.heap.size w6 w6.drew := (Below.refl w6.heap.size w6).drew
  go_region_with (first
    | (go_at_call 25; refine (CT _ D6).mono ?_; clear CT; rintro e w7 ⟨p7, vs7, rfl, hb, hO⟩; have B7 := D6.trans (hb.mono D6.size); have U7 := T6.trans (hb.mono T6.size); have y0 := (U7.cell (p := ⟨w4.heap.size, 0, none⟩) hl6).trans y0; have y1 := (U7.cell (p := ⟨w4.heap.size, 1, none⟩) hl6).trans y1; have y2 := (U7.cell (p := ⟨w4.heap.size, 2, none⟩) hl6).trans y2; have R7 := hO.rd; have S7 := (R6.below U7 (Nat.le_refl _)).more U7.size; clear hb hO)
    | (go_at_call 27; refine (eqJob_same K P p4 p7 n n n ps _ hm hr S7 R7).mono ?_; rintro e w8 ⟨rfl, hb⟩; have B8 := B7.trans (hb.mono B7.size)))
  all_goals (go_wp2_with fail; go_ret; exact ⟨rfl, B8⟩)
end Go.Proofs.YtallcholbbfkdaaDoor

namespace Go.Proofs.YtallcholbbfkdaaDoor
open Go.RowKit
theorem door_et : Tryd.prog.globalNamed "errors.errorType" = some 2 := by kernel_rfl
theorem door_rt : (Tryd.prog.cutTypes.find? (·.1 == "internal/reflectlite.rtype")).map (·.2) = some 156 := by kernel_rfl
theorem door_row : ((List.range Tryd.prog.types.size).filter fun t => Tryd.prog.rowNamed t [101, 114, 114, 111, 114]) = [72] := by kernel_rfl
theorem door_handle {W : World} {l : List (String × DataW Unit)} (h : handlesMet Tryd.prog l W) (hm : ("errors.errorType", Rows.laid_errors_errorType) ∈ l) : W.cell? ⟨2, 0, none⟩ = some errTypeV := by
  obtain ⟨name, u, ty, e1, e2, e3, e4, e5⟩ := h _ hm
  have en : name = [101, 114, 114, 111, 114] := (Option.some.inj e1).symm
  subst en
  obtain rfl := Option.some.inj (door_rt.symm.trans e2)
  have hmm : ty ∈ (List.range Tryd.prog.types.size).filter fun t => Tryd.prog.rowNamed t [101, 114, 114, 111, 114] := List.mem_filter.2 ⟨List.mem_range.2 e3, e4⟩
  rw [door_row] at hmm
  obtain rfl := List.mem_singleton.1 hmm
  have hh : typeHandle Tryd.prog 72 = .pointer (some ⟨4, 72, none⟩) := by kernel_rfl
  rw [hh] at e5
  simpa [errTypeV] using World.var?_cell door_et e5 0
/-- A variable of type error that reads as an error of its own holds one. -/
theorem door_err {W : World} {n : String} {g : Nat} {name : String} {d : DataW Unit} {fuel : Nat} {cs : Array Value} {p : List MemPlace} {enc : TypeId × Value → Unit} {sp : Nat → Bool} (hg : Tryd.prog.globalNamed n = some g) (hv : W.var? Tryd.prog n = some cs)
    (hd : DataW.trod enc Tryd.prog W 0 sp false fuel 72 cs.toList = some (.iface name d, p)) : ∃ t x, W.cell? ⟨g, 0, none⟩ = some (.iface t x) := by
  obtain ⟨_, u, v, hc, _, _⟩ := iface_of_trod Tryd.underlying72 hd
  refine ⟨u, v, ?_⟩
  have := World.var?_cell hg hv 0
  rw [Array.eq_one_of_toList hc] at this
  simpa using this
theorem door_split {W : World} (h : laidMetH Tryd.prog [("errors.errorType", Rows.laid_errors_errorType), ("loop.example/g00630/impl.errSplit", Rows.laid_loop_example_g00630_impl_errSplit)] W) :
    W.cell? ⟨2, 0, none⟩ = some errTypeV ∧ ∃ t x, W.cell? ⟨1, 0, none⟩ = some (.iface t x) := by
  have h' : laidMet Tryd.prog [("loop.example/g00630/impl.errSplit", Rows.laid_loop_example_g00630_impl_errSplit)] W ∧ handlesMet Tryd.prog [("errors.errorType", Rows.laid_errors_errorType)] W := h
  obtain ⟨⟨ps, ⟨g0, t0, cs0, f0, p0, q0, hg0, ht0, hv0, hd0, _, _⟩, _, _⟩, hh⟩ := h'
  obtain rfl := Option.some.inj ((show Tryd.prog.globalNamed "loop.example/g00630/impl.errSplit" = some 1 by kernel_rfl).symm.trans hg0)
  obtain rfl := Option.some.inj ((show (Tryd.prog.globals[1]?).map (·.type) = some 72 by kernel_rfl).symm.trans ht0)
  exact ⟨door_handle hh (List.mem_singleton.2 rfl), door_err hg0 hv0 hd0⟩
/-- The door's own heap meets the condition. -/
theorem door_met_split (os : Os) (args : Array Value) : laidMetH Tryd.prog [("errors.errorType", Rows.laid_errors_errorType), ("loop.example/g00630/impl.errSplit", Rows.laid_loop_example_g00630_impl_errSplit)] ((World.doorLaid Tryd.prog 73 os).forCall (fun _ _ => 0) ⟨#[], args, []⟩).memory :=
  laidMetH_of_parts3 (fuel := 8) (laidMet_of_run' 8 (by kernel_rfl) (by kernel_rfl)) (by kernel_rfl) (by kernel_rfl)
theorem door_shaped (os : Os) (args : Array Value) : ((World.doorLaid Tryd.prog 73 os).forCall (fun _ _ => 0) ⟨#[], args, []⟩).Shaped Tryd.prog := World.shaped_of_RefB (by kernel_rfl) (by kernel_rfl)
theorem door_witness {H : Type} {enc : TypeId × Value → H} {os : Os} {f : FuncId} {fn : Func} {s : OpenSpec} {laid : List (String × DataW Unit)} (args : Array Value)
    (hok : Input.okWideB Tryd.prog ((World.doorLaid Tryd.prog 73 os).forCall (fun _ _ => 0) ⟨#[], args, []⟩) f ⟨#[], args, []⟩ = true)
    (hrow : s.preRow enc Tryd.prog fn [] false laid ((World.doorLaid Tryd.prog 73 os).forCall (fun _ _ => 0) ⟨#[], args, []⟩).memory args) :
    ∃ (w : World) (tape : Tape) (i : Input), w.os = os ∧ (w.forCall tape i).Shaped Tryd.checked.prog ∧ i.vars = [] ∧ Input.okWide Tryd.checked.prog (w.forCall tape i) .any w.heap.size f i ∧
      s.preRow enc Tryd.checked.prog fn [] false laid (w.forCall tape i).memory i.args ∧ ({} : Assume).holds Tryd.checked.prog (lone (Frame.enter Tryd.checked.prog f i.args .normal) [] (w.forCall tape i)) :=
  ⟨World.doorLaid Tryd.prog 73 os, fun _ _ => 0, ⟨#[], args, []⟩, rfl, door_shaped os args, (Input.okWide_of_okWideB (base := 0) hok).1, (Input.okWide_of_okWideB hok).2, hrow, by
    simp only [Assume.holds]
    exact ⟨by simp, by simp, fun _ => Modest.zero, by simp, by simp⟩⟩
theorem trodVars_one {H : Type} {enc : TypeId × Value → H} {W : World} {r : Nat → Bool} {n : String} {gs : List (DataW H)} {q : List MemPlace} (h : DataW.TrodVars enc Tryd.prog W r [n] gs q) : ∃ g1, gs = [g1] := by
  cases gs with
  | nil => exact h.elim
  | cons g1 t => cases t with
    | nil => exact ⟨g1, rfl⟩
    | cons g2 t =>
      obtain ⟨_, _, _, _, _, _, _, _, _, _, hs, _⟩ := h
      exact hs.elim
end Go.Proofs.YtallcholbbfkdaaDoor

namespace Go.Proofs.YtallcholbbfkdaaDoor
open Go.RowKit
theorem door_star : "*" ++ "errors.errorString" = "*errors.errorString" := by decide
set_option maxRecDepth 100000 in
theorem door_str (u : TypeId) (h : Tryd.prog.typeName? 3 u = some "*errors.errorString") : u = 198 :=
  typeName_ptr_named (nm := "errors.errorString") (by rw [door_star]; kernel_rfl) (by kernel_rfl) (by decide) u (by rw [door_star]; exact h)
theorem door_cells1 : Tryd.prog.cellsOf 217 = 1 := by kernel_rfl
theorem door_cells2 : Tryd.prog.cellsOf 9 = 1 := by kernel_rfl
set_option maxRecDepth 100000 in
theorem door_job {W : World} (h : laidMetH Tryd.prog [("loop.example/g00630/impl.errJob", Rows.laid_loop_example_g00630_impl_errJob)] W) :
    ∃ b, W.cell? ⟨0, 0, none⟩ = some (.iface 198 (.pointer (some b))) := by
  have h' : laidMet Tryd.prog [("loop.example/g00630/impl.errJob", Rows.laid_loop_example_g00630_impl_errJob)] W := h
  obtain ⟨ps, ⟨g0, t0, cs0, f0, p0, q0, hg0, ht0, hv0, hd0, hq0, e0⟩, hnd, hrows⟩ := h'
  obtain rfl := Option.some.inj ((show Tryd.prog.globalNamed "loop.example/g00630/impl.errJob" = some 0 by kernel_rfl).symm.trans hg0)
  obtain rfl := Option.some.inj ((show (Tryd.prog.globals[0]?).map (·.type) = some 72 by kernel_rfl).symm.trans ht0)
  subst e0
  obtain ⟨l0⟩ := cs0
  have ok0 : ∀ u v, l0 = [.iface u v] → Value.okWide Tryd.prog W .any 0 u v := fun u v e => by
    subst e
    exact (hrows 0 0 (by simp [MemPlace.row])).2 u v (by simpa using World.var?_cell hg0 hv0 0)
  obtain ⟨a0, s0, rfl, _⟩ := errorString_of_trod Tryd.underlying72 door_str Tryd.underlying198 Tryd.underlying217 rfl rfl Tryd.underlying9 door_cells1 door_cells2 hd0 ok0
  exact ⟨a0, by simpa using World.var?_cell hg0 hv0 0⟩
theorem door_met_job (os : Os) (args : Array Value) : laidMetH Tryd.prog [("loop.example/g00630/impl.errJob", Rows.laid_loop_example_g00630_impl_errJob)] ((World.doorLaid Tryd.prog 73 os).forCall (fun _ _ => 0) ⟨#[], args, []⟩).memory :=
  laidMetH_of_parts3 (fuel := 8) (laidMet_of_run' 8 (by kernel_rfl) (by kernel_rfl)) (by kernel_rfl) (by kernel_rfl)
end Go.Proofs.YtallcholbbfkdaaDoor

namespace Go.Proofs.YtallcholbbfkdaaDoor
open Go.ChangeShapes Go.WideShapes Go.ChangeAt Go.RowKit Go.Joins Go.Deep
section
variable {H : Type} {enc : TypeId × Value → H} {W : World} {base : Nat}
theorem cellsPart : Tryd.prog.cellsOf 118 = 1 := by kernel_rfl
variable (W)
set_option maxRecDepth 100000 in
theorem open_Rows_at {t e : TypeId} {f0 f1 f2 : Field} {v : Value} {d : DataW H} {p : List MemPlace} {fuel : Nat} (ht : Tryd.prog.underlying t = some (.slice e)) (he : Tryd.prog.underlying e = some (.struct #[f0, f1, f2])) (hone : oneCellFields Tryd.prog #[f0, f1, f2] = true)
    (hC : Tryd.prog.cellsOf e = 3) (t0 : Tryd.prog.underlying f0.type = some .string) (t1 : Tryd.prog.underlying f1.type = some (.int .i64)) (t2 : Tryd.prog.underlying f2.type = some .string)
    (hf : DataW.trod enc Tryd.prog W 0 (fun _ => true) true fuel t [v] = some (d, p)) :
    ∃ a len cap rs, v = .slice a len cap ∧ IsRows W a len cap rs := by
  rcases open_slice ht hf with ⟨hcs, _⟩ | ⟨x, len, c, m, n, D, Pl, hcs, _, hl, hm, hmm, _, hi⟩
  · simp at hcs
    subst hcs
    exact ⟨none, 0, 0, [], rfl, Nat.le_refl _, Nat.zero_le _, by simp, by simp [flat], fun h => absurd h (by omega)⟩
  · simp at hcs
    subst hcs
    simp only [if_true] at hmm
    subst hmm
    rw [hC] at hi
    have key : ∀ i, i < len → ∃ r : RowV, r.Ok ∧ W.cell? (x.add (i * 3) |>.add 0) = some (.string r.key) ∧ W.cell? (x.add (i * 3) |>.add 1) = some (.int .i64 r.tag) ∧ W.cell? (x.add (i * 3) |>.add 2) = some (.string r.val) := by
      intro i hil
      obtain ⟨cs', hc, ht'⟩ := hi i (by omega)
      obtain ⟨ys, n', hn', hy, hlen, hyl, hf'⟩ := DataW.trod_struct he ht'
      obtain ⟨_, hcl, hat⟩ := World.cells?_some hc
      obtain ⟨o0, q0⟩ := hone_of hone 0 f0 rfl
      obtain ⟨o1, q1⟩ := hone_of hone 1 f1 rfl
      obtain ⟨o2, q2⟩ := hone_of hone 2 f2 rfl
      have l3 : cs'.length = 3 := hcl
      obtain ⟨c0, c1, c2, rfl⟩ : ∃ c0 c1 c2, cs' = [c0, c1, c2] := by
        match cs', l3 with
        | [c0, c1, c2], _ => exact ⟨c0, c1, c2, rfl⟩
      have g0 := hf' 0 f0 rfl
      have g1 := hf' 1 f1 rfl
      have g2 := hf' 2 f2 rfl
      simp only [o0, q0, o1, q1, o2, q2, List.drop_zero, List.drop_succ_cons, List.take_succ_cons, List.take_zero] at g0 g1 g2
      have y3 : ys.length = 3 := hyl
      rw [List.getElem?_eq_getElem (show 0 < ys.length by omega)] at g0
      rw [List.getElem?_eq_getElem (show 1 < ys.length by omega)] at g1
      rw [List.getElem?_eq_getElem (show 2 < ys.length by omega)] at g2
      obtain ⟨k, e0, _, hk⟩ := DataW.trod_string t0 g0
      obtain ⟨tt, e1, _, htt⟩ := DataW.trod_int t1 g1
      obtain ⟨u, e2, _, hu⟩ := DataW.trod_string t2 g2
      simp only [List.cons.injEq, and_true] at e0 e1 e2
      subst e0 e1 e2
      exact ⟨⟨k, tt, u⟩, ⟨hk, htt, hu⟩, hat 0 (by omega), hat 1 (by omega), hat 2 (by omega)⟩
    have lists : ∀ q, q ≤ len → ∃ rs : List RowV, rs.length = q ∧ (∀ r ∈ rs, r.Ok) ∧ ∀ j u, (flat rs)[j]? = some u → W.cell? (x.add (j / 3 * 3) |>.add (j % 3)) = some u := by
      intro q
      induction q with
      | zero => intro _; exact ⟨[], rfl, by simp, fun j u hu => by simp [flat] at hu⟩
      | succ q ih =>
        intro hq
        obtain ⟨rs, hrl, hok, hcell⟩ := ih (by omega)
        obtain ⟨r, hr, k0, k1, k2⟩ := key q (by omega)
        refine ⟨rs ++ [r], by simp [hrl], fun y hy => by
          rcases List.mem_append.1 hy with h1 | h1
          · exact hok y h1
          · rw [List.mem_singleton.1 h1]; exact hr, fun j u hu => ?_⟩
        rw [flat_append] at hu
        rcases Nat.lt_or_ge j (flat rs).length with hj | hj
        · rw [List.getElem?_append_left hj] at hu
          exact hcell j u hu
        · rw [List.getElem?_append_right hj, flat_length, hrl] at hu
          rw [flat_length, hrl] at hj
          have hj3 : j - q * 3 < 3 := by
            have := (List.getElem?_eq_some_iff.1 hu).1
            simpa [flat, RowV.cells] using this
          have hd : j / 3 = q := by omega
          rw [hd]
          rcases (show j - q * 3 = 0 ∨ j - q * 3 = 1 ∨ j - q * 3 = 2 by omega) with h3 | h3 | h3
          · rw [h3] at hu
            rw [show j % 3 = 0 by omega, k0]
            simpa [flat, RowV.cells] using hu
          · rw [h3] at hu
            rw [show j % 3 = 1 by omega, k1]
            simpa [flat, RowV.cells] using hu
          · rw [h3] at hu
            rw [show j % 3 = 2 by omega, k2]
            simpa [flat, RowV.cells] using hu
    obtain ⟨rs, hrl, hok, hcell⟩ := lists len (Nat.le_refl _)
    refine ⟨_, _, _, rs, rfl, hl, hm, hok, by rw [flat_length, hrl], fun hn => ?_⟩
    obtain ⟨r, _, k0, _, _⟩ := key 0 hn
    have hsp : x.spot = none := by
      have := World.cell?_spot k0
      obtain ⟨b, o, s⟩ := x
      simpa [Addr.add] using this
    have add2 : ∀ i j, (x.add i).add j = ⟨x.block, x.off + (i + j), none⟩ := by
      intro i j
      rw [addr_add x hsp, addr_add _ rfl, Nat.add_assoc]
    rw [add2] at k0
    refine ⟨x.block, x.off, ?_, lt_of_cell k0, fun j u hu => ?_⟩
    · obtain ⟨b, o, s⟩ := x
      simp only at hsp
      subst hsp
      rfl
    · have hc := hcell j u hu
      rw [add2, show j / 3 * 3 + j % 3 = j by omega] at hc
      exact hc
set_option maxRecDepth 100000 in
theorem open_Parts_of {t e : TypeId} {f0 : Field} {v : Value} {d : DataW H} {p : List MemPlace} (ht : Tryd.prog.underlying t = some (.slice e)) (he : Tryd.prog.underlying e = some (.struct #[f0])) (hone : oneCellFields Tryd.prog #[f0] = true)
    (hC : Tryd.prog.cellsOf e = 1) (hrows : ∀ {u : Value} {n : Nat} {d : DataW H} {p : List MemPlace}, DataW.trod enc Tryd.prog W 0 (fun _ => true) true n f0.type [u] = some (d, p) → ∃ a len cap rs, u = .slice a len cap ∧ IsRows W a len cap rs)
    (hv : Value.okWide Tryd.prog W .any base t v) (h : DataW.Trod enc Tryd.prog W 0 (fun _ => true) true t v d p) :
    ∃ a len cap ps, v = .slice a len cap ∧ IsParts W a len cap ps := by
  obtain ⟨a, len, cap, rfl⟩ := okWide_slice ht hv
  obtain ⟨fuel, hf⟩ := h
  rcases open_slice ht hf with ⟨hcs, _⟩ | ⟨x, l, c, m, n, D, Pl, hcs, _, hl, hm, hmm, _, hi⟩
  · simp [Value.cells] at hcs
    obtain ⟨rfl, rfl, rfl⟩ := hcs
    exact ⟨none, 0, 0, [], rfl, Nat.le_refl _, Nat.zero_le _, by simp, [], ⟨rfl, fun h => absurd h (by omega)⟩, rfl, fun i v rs hv => by simp at hv⟩
  · simp [Value.cells] at hcs
    obtain ⟨rfl, rfl, rfl⟩ := hcs
    simp only [if_true] at hmm
    subst hmm
    rw [hC] at hi
    have key : ∀ i, i < len → ∃ (u : Value) (rs : List RowV), W.cell? (x.add (i * 1) |>.add 0) = some u ∧ (∃ a' c', u = .slice a' rs.length c' ∧ Rd W W.heap.size 3 a' rs.length (flat rs)) ∧ rs.length ≤ maxLen ∧ ∀ r ∈ rs, r.Ok := by
      intro i hil
      obtain ⟨cs', hc, ht'⟩ := hi i (by omega)
      obtain ⟨ys, n', hn', hy, hlen, hyl, hf'⟩ := DataW.trod_struct he ht'
      obtain ⟨_, hcl, hat⟩ := World.cells?_some hc
      obtain ⟨o0, q0⟩ := hone_of hone 0 f0 rfl
      have l3 : cs'.length = 1 := hcl
      obtain ⟨c0, rfl⟩ : ∃ c0, cs' = [c0] := by
        match cs', l3 with
        | [c0], _ => exact ⟨c0, rfl⟩
      have g0 := hf' 0 f0 rfl
      simp only [o0, q0, List.drop_zero, List.take_succ_cons, List.take_zero] at g0
      have y3 : ys.length = 1 := hyl
      rw [List.getElem?_eq_getElem (show 0 < ys.length by omega)] at g0
      obtain ⟨a', len', cap', rs, rfl, h1, h2, h3, h4⟩ := hrows (d := ys[0].1) (p := ys[0].2) g0
      have hl' := h4.rows_length
      exact ⟨_, rs, hat 0 (by omega), ⟨a', cap', by rw [hl'], by rw [hl']; exact h4⟩, by omega, h3⟩
    have lists : ∀ q, q ≤ len → ∃ (vs : List Value) (ps : List (List RowV)), vs.length = q ∧ ps.length = q ∧ (∀ j u, vs[j]? = some u → W.cell? (x.add (j * 1) |>.add 0) = some u) ∧
        (∀ (i : Nat) (v : Value) (rs : List RowV), vs[i]? = some v → ps[i]? = some rs → ∃ a' c', v = .slice a' rs.length c' ∧ Rd W W.heap.size 3 a' rs.length (flat rs)) ∧ ∀ rs ∈ ps, rs.length ≤ maxLen ∧ ∀ r ∈ rs, r.Ok := by
      intro q
      induction q with
      | zero => intro _; exact ⟨[], [], rfl, rfl, fun j u hu => by simp at hu, fun i v rs hv => by simp at hv, by simp⟩
      | succ q ih =>
        intro hq
        obtain ⟨vs, ps, hvl, hpl, hc, hp, hok⟩ := ih (by omega)
        obtain ⟨u, rs, k0, k1, k2⟩ := key q (by omega)
        refine ⟨vs ++ [u], ps ++ [rs], by simp [hvl], by simp [hpl], fun j y hy => ?_, fun i y z hy hz => ?_, fun z hz => ?_⟩
        · rcases Nat.lt_or_ge j vs.length with hj | hj
          · rw [List.getElem?_append_left hj] at hy
            exact hc j y hy
          · rw [List.getElem?_append_right hj] at hy
            have hj0 : j - vs.length = 0 := by
              have := (List.getElem?_eq_some_iff.1 hy).1
              simp at this
              omega
            rw [hj0] at hy
            have : u = y := by simpa using hy
            subst this
            rw [show j = q by omega]
            exact k0
        · rcases Nat.lt_or_ge i vs.length with hj | hj
          · rw [List.getElem?_append_left hj] at hy
            rw [List.getElem?_append_left (by omega)] at hz
            exact hp i y z hy hz
          · rw [List.getElem?_append_right hj] at hy
            rw [List.getElem?_append_right (by omega)] at hz
            have hj0 : i - vs.length = 0 := by
              have := (List.getElem?_eq_some_iff.1 hy).1
              simp at this
              omega
            rw [hj0] at hy
            rw [show i - ps.length = 0 by omega] at hz
            have e1 : u = y := by simpa using hy
            have e2 : rs = z := by simpa using hz
            subst e1 e2
            exact k1
        · rcases List.mem_append.1 hz with h1 | h1
          · exact hok z h1
          · rw [List.mem_singleton.1 h1]; exact k2
    obtain ⟨vs, ps, hvl, hpl, hc, hp, hok⟩ := lists len (Nat.le_refl _)
    refine ⟨_, _, _, ps, rfl, hl, hm, hok, vs, ⟨by omega, fun hn => ?_⟩, by omega, hp⟩
    obtain ⟨u, _, k0, _⟩ := key 0 hn
    have hsp : x.spot = none := by
      have := World.cell?_spot k0
      obtain ⟨b, o, s⟩ := x
      simpa [Addr.add] using this
    have add2 : ∀ i j, (x.add i).add j = ⟨x.block, x.off + (i + j), none⟩ := by
      intro i j
      rw [addr_add x hsp, addr_add _ rfl, Nat.add_assoc]
    rw [add2] at k0
    refine ⟨x.block, x.off, ?_, lt_of_cell k0, fun j u hu => ?_⟩
    · obtain ⟨b, o, s⟩ := x
      simp only at hsp
      subst hsp
      rfl
    · have h2 := hc j u hu
      rw [add2, Nat.mul_one, Nat.add_zero] at h2
      exact h2
variable {W}
set_option maxRecDepth 100000 in
theorem open_Parts {v : Value} {d : DataW H} {p : List MemPlace} (hv : Value.okWide Tryd.prog W .any base 41 v) (h : DataW.Trod enc Tryd.prog W 0 (fun _ => true) true 41 v d p) :
    ∃ a len cap ps, v = .slice a len cap ∧ IsParts W a len cap ps :=
  open_Parts_of W Tryd.underlying41 Tryd.underlying118 (by kernel_rfl) cellsPart (fun h => open_Rows_at W Tryd.underlying22 Tryd.underlying65 (by kernel_rfl) cellsRow Tryd.underlying9 Tryd.underlying2 Tryd.underlying9 h) hv h
end
end Go.Proofs.YtallcholbbfkdaaDoor

namespace Go.Proofs.YtallcholbbfkdaaDoor
open Go.ChangeShapes Go.WideShapes Go.ChangeAt Go.RowKit Go.Joins Go.Deep
section
variable {H : Type} {enc : TypeId × Value → H} {W : World} {base : Nat}
theorem cellsJob : Tryd.prog.cellsOf 43 = 3 := by kernel_rfl
variable (W)
set_option maxRecDepth 100000 in
theorem open_Parts_at {t e : TypeId} {f0 : Field} {v : Value} {d : DataW H} {p : List MemPlace} {fuel : Nat} (ht : Tryd.prog.underlying t = some (.slice e)) (he : Tryd.prog.underlying e = some (.struct #[f0])) (hone : oneCellFields Tryd.prog #[f0] = true)
    (hC : Tryd.prog.cellsOf e = 1) (hrows : ∀ {u : Value} {n : Nat} {d : DataW H} {p : List MemPlace}, DataW.trod enc Tryd.prog W 0 (fun _ => true) true n f0.type [u] = some (d, p) → ∃ a len cap rs, u = .slice a len cap ∧ IsRows W a len cap rs)
    (hf : DataW.trod enc Tryd.prog W 0 (fun _ => true) true fuel t [v] = some (d, p)) :
    ∃ a len cap ps, v = .slice a len cap ∧ IsParts W a len cap ps := by
  rcases open_slice ht hf with ⟨hcs, _⟩ | ⟨x, len, c, m, n, D, Pl, hcs, _, hl, hm, hmm, _, hi⟩
  · simp at hcs
    subst hcs
    exact ⟨none, 0, 0, [], rfl, Nat.le_refl _, Nat.zero_le _, by simp, [], ⟨rfl, fun h => absurd h (by omega)⟩, rfl, fun i v rs hv => by simp at hv⟩
  · simp at hcs
    subst hcs
    simp only [if_true] at hmm
    subst hmm
    rw [hC] at hi
    have key : ∀ i, i < len → ∃ (u : Value) (rs : List RowV), W.cell? (x.add (i * 1) |>.add 0) = some u ∧ (∃ a' c', u = .slice a' rs.length c' ∧ Rd W W.heap.size 3 a' rs.length (flat rs)) ∧ rs.length ≤ maxLen ∧ ∀ r ∈ rs, r.Ok := by
      intro i hil
      obtain ⟨cs', hc, ht'⟩ := hi i (by omega)
      obtain ⟨ys, n', hn', hy, hlen, hyl, hf'⟩ := DataW.trod_struct he ht'
      obtain ⟨_, hcl, hat⟩ := World.cells?_some hc
      obtain ⟨o0, q0⟩ := hone_of hone 0 f0 rfl
      have l3 : cs'.length = 1 := hcl
      obtain ⟨c0, rfl⟩ : ∃ c0, cs' = [c0] := by
        match cs', l3 with
        | [c0], _ => exact ⟨c0, rfl⟩
      have g0 := hf' 0 f0 rfl
      simp only [o0, q0, List.drop_zero, List.take_succ_cons, List.take_zero] at g0
      have y3 : ys.length = 1 := hyl
      rw [List.getElem?_eq_getElem (show 0 < ys.length by omega)] at g0
      obtain ⟨a', len', cap', rs, rfl, h1, h2, h3, h4⟩ := hrows (d := ys[0].1) (p := ys[0].2) g0
      have hl' := h4.rows_length
      exact ⟨_, rs, hat 0 (by omega), ⟨a', cap', by rw [hl'], by rw [hl']; exact h4⟩, by omega, h3⟩
    have lists : ∀ q, q ≤ len → ∃ (vs : List Value) (ps : List (List RowV)), vs.length = q ∧ ps.length = q ∧ (∀ j u, vs[j]? = some u → W.cell? (x.add (j * 1) |>.add 0) = some u) ∧
        (∀ (i : Nat) (v : Value) (rs : List RowV), vs[i]? = some v → ps[i]? = some rs → ∃ a' c', v = .slice a' rs.length c' ∧ Rd W W.heap.size 3 a' rs.length (flat rs)) ∧ ∀ rs ∈ ps, rs.length ≤ maxLen ∧ ∀ r ∈ rs, r.Ok := by
      intro q
      induction q with
      | zero => intro _; exact ⟨[], [], rfl, rfl, fun j u hu => by simp at hu, fun i v rs hv => by simp at hv, by simp⟩
      | succ q ih =>
        intro hq
        obtain ⟨vs, ps, hvl, hpl, hc, hp, hok⟩ := ih (by omega)
        obtain ⟨u, rs, k0, k1, k2⟩ := key q (by omega)
        refine ⟨vs ++ [u], ps ++ [rs], by simp [hvl], by simp [hpl], fun j y hy => ?_, fun i y z hy hz => ?_, fun z hz => ?_⟩
        · rcases Nat.lt_or_ge j vs.length with hj | hj
          · rw [List.getElem?_append_left hj] at hy
            exact hc j y hy
          · rw [List.getElem?_append_right hj] at hy
            have hj0 : j - vs.length = 0 := by
              have := (List.getElem?_eq_some_iff.1 hy).1
              simp at this
              omega
            rw [hj0] at hy
            have : u = y := by simpa using hy
            subst this
            rw [show j = q by omega]
            exact k0
        · rcases Nat.lt_or_ge i vs.length with hj | hj
          · rw [List.getElem?_append_left hj] at hy
            rw [List.getElem?_append_left (by omega)] at hz
            exact hp i y z hy hz
          · rw [List.getElem?_append_right hj] at hy
            rw [List.getElem?_append_right (by omega)] at hz
            have hj0 : i - vs.length = 0 := by
              have := (List.getElem?_eq_some_iff.1 hy).1
              simp at this
              omega
            rw [hj0] at hy
            rw [show i - ps.length = 0 by omega] at hz
            have e1 : u = y := by simpa using hy
            have e2 : rs = z := by simpa using hz
            subst e1 e2
            exact k1
        · rcases List.mem_append.1 hz with h1 | h1
          · exact hok z h1
          · rw [List.mem_singleton.1 h1]; exact k2
    obtain ⟨vs, ps, hvl, hpl, hc, hp, hok⟩ := lists len (Nat.le_refl _)
    refine ⟨_, _, _, ps, rfl, hl, hm, hok, vs, ⟨by omega, fun hn => ?_⟩, by omega, hp⟩
    obtain ⟨u, _, k0, _⟩ := key 0 hn
    have hsp : x.spot = none := by
      have := World.cell?_spot k0
      obtain ⟨b, o, s⟩ := x
      simpa [Addr.add] using this
    have add2 : ∀ i j, (x.add i).add j = ⟨x.block, x.off + (i + j), none⟩ := by
      intro i j
      rw [addr_add x hsp, addr_add _ rfl, Nat.add_assoc]
    rw [add2] at k0
    refine ⟨x.block, x.off, ?_, lt_of_cell k0, fun j u hu => ?_⟩
    · obtain ⟨b, o, s⟩ := x
      simp only at hsp
      subst hsp
      rfl
    · have h2 := hc j u hu
      rw [add2, Nat.mul_one, Nat.add_zero] at h2
      exact h2
variable {W}
set_option maxRecDepth 100000 in
theorem open_Job {v : Value} {d : DataW H} {p : List MemPlace} (hv : Value.okWide Tryd.prog W .any base 43 v) (h : DataW.Trod enc Tryd.prog W 0 (fun _ => true) true 43 v d p) :
    ∃ (K P : Int) (a : Option Addr) (len cap : Nat) (ps : List (List RowV)), v = .agg #[.int .i64 K, .int .i64 P, .slice a len cap] ∧ IsParts W a len cap ps := by
  obtain ⟨v0, v1, v2, y0, y1, y2, n, rfl, _, _, t0, t1, t2⟩ := open_agg3 Tryd.underlying43 (by kernel_rfl) cellsJob hv h
  obtain ⟨K, e0, _, _⟩ := DataW.trod_int Tryd.underlying2 t0
  obtain ⟨P, e1, _, _⟩ := DataW.trod_int Tryd.underlying2 t1
  obtain ⟨a, len, cap, ps, rfl, hI⟩ := open_Parts_at W Tryd.underlying41 Tryd.underlying118 (by kernel_rfl) cellsPart (fun hx => open_Rows_at W Tryd.underlying22 Tryd.underlying65 (by kernel_rfl) cellsRow Tryd.underlying9 Tryd.underlying2 Tryd.underlying9 hx) t2
  simp only [List.cons.injEq, and_true] at e0 e1
  subst e0 e1
  exact ⟨K, P, a, len, cap, ps, rfl, hI⟩
end
end Go.Proofs.YtallcholbbfkdaaDoor

namespace Go.Proofs.YtallcholbbfkdaaDoor
open Go.ChangeShapes Go.WideShapes Go.ChangeAt Go.RowKit Go.Joins
open Go.ChangeMaps (open_string shut_string)
namespace ExactJobOk

set_option maxRecDepth 100000 in
theorem contract (H : Type) (enc : TypeId × Value → H) (W : World) (base : Nat) (args : Array Value) (ds gs : List (DataW H)) (before : List MemPlace)
    (hval : ∀ (j : Nat) t v, Tryd.f5.params[j]? = some t → args[j]? = some v → Value.okWide Tryd.prog W .any base t v)
    (hW : DataW.Whole enc Tryd.prog Tryd.f5.params.toList Rows.fnExactJobOkSpec.vars false W args.toList ds gs before) (hL : laidMetH Tryd.prog Rows.fnExactJobOkRow.laid W) :
    Calls Tryd.prog 5 args W fun e W' => ∃ v, e = .returned v ∧ Rows.fnExactJobOkSpec.post enc Tryd.prog Tryd.f5 false true false false W args v W' := by
  obtain ⟨b, hE⟩ := door_job hL
  have hW' := hW
  obtain ⟨p, q, hA0, hV, rfl, _, _⟩ := hW
  have hA : DataW.TrodAll enc Tryd.prog W 0 (fun _ => true) true Tryd.f5.params.toList args.toList ds p := hA0
  rw [Tryd.params5] at hA hval
  obtain ⟨v0, vs0, d0, ds0, p0, q0, hargs, rfl, rfl, h0, r0⟩ := trodAll_cons hA
  obtain ⟨rfl, rfl, rfl⟩ := trodAll_nil r0
  obtain rfl : args = #[v0] := by cases args; simp_all
  obtain ⟨g1, rfl⟩ := trodVars_one hV
  have k0 := h0
  have lt0 : ∀ x ∈ p0, x.block < W.heap.size := by obtain ⟨m, hm⟩ := k0; exact DataW.trod_lt m _ _ _ hm
  obtain ⟨K0, P0, a0, len0, cap0, z0, rfl, w0⟩ := open_Job (hval 0 43 v0 rfl rfl) h0
  clear hA0
  refine (walk_ExactJobOk K0 P0 a0 len0 cap0 z0 W w0 b hE).mono fun e W' ⟨he, bel⟩ => ?_
  subst he
  exact ⟨_, rfl, _, _, _, [], _, _, hW', trodAll_mk1 (shut_bool Tryd.underlying4 _), (trodAll_cons_mk (Below.trod laidOut (by kernel_rfl) (of_decide_eq_true (by kernel_rfl)) k0 bel lt0) trodAll_mk0), Below.trodVars laidOut bel (by kernel_rfl) hV, bel.frame _, fun h => by cases h⟩

set_option maxRecDepth 100000 in
theorem lifted (os : Os) (started : os.Started) (H : Type) (enc : TypeId × Value → H) (F : Stop.Interp) :
    ReturnsInHanded {} Tryd.checked os 5 .any ((OpenSpec.ofChange Rows.fnExactJobOkSpec).preRow enc Tryd.prog Tryd.f5 Rows.fnExactJobOkRow.domain false Rows.fnExactJobOkRow.laid) (((OpenSpec.ofChange Rows.fnExactJobOkSpec).at F).post enc Tryd.prog Tryd.f5 false true false false) := by
  refine returnsInHanded_of_row (C := Tryd.checked) (s := OpenSpec.ofChange Rows.fnExactJobOkSpec) own started (by kernel_rfl) Tryd.func5
    (door_witness (enc := enc) (os := os) #[.agg #[.int .i64 0, .int .i64 0, .slice none 0 0]] (by kernel_rfl) (OpenSpec.preRow_of_B rfl 8 (by kernel_rfl) (by kernel_rfl) (door_met_job os _))) ?_
  intro W base args ds gs before hval hW _ _ _ hL _ _
  exact contract H enc W base args ds gs before hval hW hL
set_option maxRecDepth 100000 in
theorem said : Rows.FnExactJobOkSaid :=
  OpenClaim.holds_of_cond 5 Tryd.f5 rfl rfl rfl rfl rfl rfl rfl ⟨rfl, rfl, rfl, rfl, rfl⟩ rfl rfl rfl rfl rfl (by kernel_rfl) Tryd.func5 (by kernel_rfl)
    (of_decide_eq_true (by kernel_rfl)) (by unfold Func.isWrapper; first | (rw [if_pos (by decide +kernel)]; kernel_rfl) | (rw [if_neg (by decide +kernel)]; exact ⟨rfl, rfl⟩))
    (fun os started H enc _ F => by rw [OpenClaim.pre_eq_preRow]; exact lifted os started H enc F)
set_option maxRecDepth 100000 in
theorem plain (f : FuncId) (fn : Func) (hf : Tryd.pinned.checked.prog.funcNamed "loop.example/g00630/laws.FnExactJobOk" = some f) (hfn : Tryd.pinned.checked.prog.funcs[f]? = some fn) :
    true = Tryd.pinned.checked.prog.looks [] ∧ ∀ (j : Nat) t, fn.params[j]? = some t → Tryd.pinned.checked.prog.wantsStandIn t = false := by
  obtain rfl : f = 5 := Option.some.inj ((show Tryd.prog.funcNamed "loop.example/g00630/laws.FnExactJobOk" = some 5 by kernel_rfl).symm.trans hf) |>.symm
  obtain rfl : fn = Tryd.f5 := (Option.some.inj (Tryd.func5.symm.trans hfn)).symm
  refine ⟨by kernel_rfl, fun j t ht => ?_⟩
  rw [Tryd.params5] at ht
  have hmem := Array.mem_of_getElem? ht
  simp only [List.mem_toArray, List.mem_cons, List.not_mem_nil, or_false] at hmem
  subst hmem
  exact (show Tryd.prog.wantsStandIn 43 = false by kernel_rfl)
set_option maxRecDepth 100000 in
theorem card : Rows.FnExactJobOkCardSaid :=
  Claim7.holds_tied_plain_at .later [] _ _ _ _ said (fun _ h => by cases h) (by kernel_rfl) (fun _ h => by cases h) fnExactJobOk_row_tie rfl ⟨rfl, rfl⟩ (by kernel_rfl) rfl plain (by kernel_rfl)
end ExactJobOk
theorem fnExactJobOk_holds : Rows.FnExactJobOkCardSaid := ExactJobOk.card
end Go.Proofs.YtallcholbbfkdaaDoor
