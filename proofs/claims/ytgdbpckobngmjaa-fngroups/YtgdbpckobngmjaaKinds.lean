/-
  The kinds of a join: impl.joinKindOf and impl.pairsOfKey by their contracts.
-/
import Derived.Test.YtgdbpckobngmjaaPairs
namespace Go.Proofs.Ytgdbpckobngmjaa
open Go.RowKit
inductive JK where
  | both (a b : Bool)
  | keep (b : Bool)
def JK.val : JK → Value
  | .both a b => .iface 168 (.agg #[.bool a, .bool b])
  | .keep b => .iface 170 (.agg #[.bool b])
def kindOf (n : Int) : Option JK :=
  if n = 1 then some (.both false false) else if n = 2 then some (.both true false) else if n = 3 then some (.both false true) else if n = 4 then some (.both true true) else if n = 5 then some (.keep true) else if n = 6 then some (.keep false) else none
def kindV : Option JK → Value
  | some k => k.val
  | none => .nilIface
set_option maxRecDepth 100000 in
set_option maxHeartbeats 1000000 in
theorem joinKindOf_any (n : Int) (w : World) :
    Calls Try.prog 111 #[.int .i64 n] w fun e w' => e = .returned (.tuple #[kindV (kindOf n), .bool (kindOf n).isSome]) ∧ w = w' := by
  by_cases h1 : n = 1
  · subst h1
    go_enter Try.func111, Try.ntmps111
    go_wp2_with fail
    go_ret2
    exact ⟨rfl, rfl⟩
  by_cases h2 : n = 2
  · subst h2
    go_enter Try.func111, Try.ntmps111
    go_wp2_with fail
    go_ret2
    exact ⟨rfl, rfl⟩
  by_cases h3 : n = 3
  · subst h3
    go_enter Try.func111, Try.ntmps111
    go_wp2_with fail
    go_ret2
    exact ⟨rfl, rfl⟩
  by_cases h4 : n = 4
  · subst h4
    go_enter Try.func111, Try.ntmps111
    go_wp2_with fail
    go_ret2
    exact ⟨rfl, rfl⟩
  by_cases h5 : n = 5
  · subst h5
    go_enter Try.func111, Try.ntmps111
    go_wp2_with fail
    go_ret2
    exact ⟨rfl, rfl⟩
  by_cases h6 : n = 6
  · subst h6
    go_enter Try.func111, Try.ntmps111
    go_wp2_with fail
    go_ret2
    exact ⟨rfl, rfl⟩
  have E := Lib.hid (show kindOf n = none by simp [kindOf, h1, h2, h3, h4, h5, h6])
  have g1 : (n == 1) = false := by simpa using h1
  have g2 : (n == 2) = false := by simpa using h2
  have g3 : (n == 3) = false := by simpa using h3
  have g4 : (n == 4) = false := by simpa using h4
  have g5 : (n == 5) = false := by simpa using h5
  have g6 : (n == 6) = false := by simpa using h6
  go_enter Try.func111, Try.ntmps111
  go_wp2_with fail
  go_ret2
  rw [E.out]
  exact ⟨rfl, rfl⟩
def pairsOfK (k : JK) (key : ByteArray) (a b : List RowV) : List PairV :=
  match k with
  | .both _ _ => pairsL key (sidesL a) (sidesL b)
  | .keep _ => pairsL key (sidesL a) (sidesL [])
theorem as_both (v : Value) (w : World) : (Instr.typeAssert (.iface 168 v) 143 168 true).run Try.prog w = .ok (.tuple #[v, .bool true]) w := by kernel_rfl
theorem as_keep (v : Value) (w : World) : (Instr.typeAssert (.iface 170 v) 143 170 true).run Try.prog w = .ok (.tuple #[v, .bool true]) w := by kernel_rfl
theorem as_not (v : Value) (w : World) : (Instr.typeAssert (.iface 170 v) 143 168 true).run Try.prog w = .ok (.tuple #[.agg #[.bool false, .bool false], .bool false]) w := by kernel_rfl
theorem sidesL_le {rs : List RowV} (h : rs.length ≤ 1000) : (sidesL rs).length ≤ 1000 := by
  unfold sidesL
  split
  · simp
  · simpa using h
set_option maxRecDepth 100000 in
set_option maxHeartbeats 1000000 in
theorem pairsOfKey_any (k : JK) (key : ByteArray) (a b : Option Addr) (n ca m cb : Nat) (ra rb : List RowV) (w : World) (hn : n ≤ 1000) (hm : m ≤ 1000) (hA : Rd w w.heap.size 3 a n (flat ra)) (hB : Rd w w.heap.size 3 b m (flat rb)) :
    Calls Try.prog 139 #[k.val, .string key, .slice a n ca, .slice b m cb] w (PairsOut w (pairsOfK k key ra rb)) := by
  have h1 := Lib.hid hA.rows_length
  have h2 := Lib.hid hB.rows_length
  cases k with
  | both x y =>
    show Calls Try.prog 139 #[.iface 168 (.agg #[.bool x, .bool y]), .string key, .slice a n ca, .slice b m cb] w (PairsOut w (pairsL key (sidesL ra) (sidesL rb)))
    have ha := as_both (.agg #[.bool x, .bool y])
    go_enter Try.func139, Try.ntmps139
    go_wp2_with fail
    refine (sidesOf_any a n ca ra w (by omega) hA).mono ?_
    rintro e w1 ⟨a1, c1, rfl, hb1, hO1⟩
    have hB1 := (hB.below hb1 (Nat.le_refl _)).more hb1.size
    go_wp2_with fail
    refine (sidesOf_any b m cb rb w1 (by omega) hB1).mono ?_
    rintro e w2 ⟨a2, c2, rfl, hb2, hO2⟩
    have hO3 := own_below hO1 hb2
    have hb3 := hb1.trans (hb2.mono hb1.size)
    go_wp2_with fail
    refine (pairsOfSides_any key a1 a2 _ c1 _ c2 (sidesL ra) (sidesL rb) w2 (sidesL_le (by rw [h1.out]; exact hn)) (sidesL_le (by rw [h2.out]; exact hm)) (Rd.of_own hO3) (Rd.of_own hO2)).mono ?_
    rintro e w3 ⟨a3, c3, rfl, hb4, hO4⟩
    go_wp2_with fail
    go_ret
    exact ⟨a3, c3, rfl, hb3.trans (hb4.mono hb3.size), own_base' hO4 hb3.size⟩
  | keep x =>
    show Calls Try.prog 139 #[.iface 170 (.agg #[.bool x]), .string key, .slice a n ca, .slice b m cb] w (PairsOut w (pairsL key (sidesL ra) (sidesL [])))
    have ha := as_keep (.agg #[.bool x])
    have hb := as_not (.agg #[.bool x])
    go_enter Try.func139, Try.ntmps139
    go_wp2_with fail
    refine (sidesOf_any a n ca ra w (by omega) hA).mono ?_
    rintro e w1 ⟨a1, c1, rfl, hb1, hO1⟩
    go_wp2_with fail
    refine (sidesOf_any none 0 0 [] w1 (by omega) ⟨rfl, fun h => absurd h (by omega)⟩).mono ?_
    rintro e w2 ⟨a2, c2, rfl, hb2, hO2⟩
    have hO3 := own_below hO1 hb2
    have hb3 := hb1.trans (hb2.mono hb1.size)
    go_wp2_with fail
    refine (pairsOfSides_any key a1 a2 _ c1 _ c2 (sidesL ra) (sidesL []) w2 (sidesL_le (by rw [h1.out]; exact hn)) (sidesL_le (by simp)) (Rd.of_own hO3) (Rd.of_own hO2)).mono ?_
    rintro e w3 ⟨a3, c3, rfl, hb4, hO4⟩
    go_wp2_with fail
    go_ret
    exact ⟨a3, c3, rfl, hb3.trans (hb4.mono hb3.size), own_base' hO4 hb3.size⟩
end Go.Proofs.Ytgdbpckobngmjaa
