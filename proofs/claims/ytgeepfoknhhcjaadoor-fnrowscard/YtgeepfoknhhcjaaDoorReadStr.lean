/-
  impl.reading at strings, and impl.ReadKeyCode, by their contracts: a reader's panic becomes false. Conditions: those of each statement.
-/
import Derived.Test.YtgeepfoknhhcjaaDoorKeyRead
import Derived.Test.YtgeepfoknhhcjaaDoorReadSpec
import Derived.Defers
import Derived.Recover
import Derived.BigRegion
import Derived.Laws.Pointers
namespace Go.Proofs.YtgeepfoknhhcjaaDoor
open Go.RowKit

theorem catchS_panicking (V N O : Nat) (u : TypeId) (pv : Value) (older : List PanicEntry) (w : World) (v n o : Value) (h0 : w.cell? ⟨V, 0, none⟩ = some v) (h1 : w.cell? ⟨N, 0, none⟩ = some n) (h2 : w.cell? ⟨O, 0, none⟩ = some o)
    (f0 : w.frozen? ⟨V, 0, none⟩ = false) (f1 : w.frozen? ⟨N, 0, none⟩ = false) (f2 : w.frozen? ⟨O, 0, none⟩ = false) (d1 : V ≠ N) (d2 : V ≠ O) (d3 : N ≠ O) :
    CallsD Tryd.prog 70 #[.pointer (some ⟨V, 0, none⟩), .pointer (some ⟨N, 0, none⟩), .pointer (some ⟨O, 0, none⟩)] (.panicking ({ v := .iface u pv, recovered := false } :: older)) w fun e u' w' =>
      e = .returned (.tuple #[]) ∧ u' = .panicking ({ v := .iface u pv, recovered := true } :: older) ∧ w' = ((w.setCell ⟨V, 0, none⟩ (.string ⟨#[]⟩)).setCell ⟨N, 0, none⟩ (.int .i64 0)).setCell ⟨O, 0, none⟩ (.bool false) := by
  refine callsD_of_wpS Tryd.func70 rfl fun c₀ cs hu => ?_
  apply wpS_seq
  apply wpS_region
  simp [wpOpsS, go_sem, recoverD, hu, Tryd.ntmps70, Exit.thenS]
  refine wpS_cond (t := true) (by simp [Act.eval, Array.replicate]) ?_
  simp only [if_true]
  apply wpS_seq
  apply wpS_region
  simp [wpOpsS, go_sem, Exit.thenS]
  apply wpS_region
  simp [wpOpsS, go_sem, h0, h1, h2, f0, f1, f2, bodyPostS, results, Tryd.results70]
theorem catchS_idle (V N O : Nat) (w : World) :
    CallsD Tryd.prog 70 #[.pointer (some ⟨V, 0, none⟩), .pointer (some ⟨N, 0, none⟩), .pointer (some ⟨O, 0, none⟩)] .returning w fun e u' w' => e = .returned (.tuple #[]) ∧ u' = .returning ∧ w' = w := by
  refine callsD_of_wpS Tryd.func70 rfl fun c₀ cs hu => ?_
  apply wpS_seq
  apply wpS_region
  simp [wpOpsS, go_sem, recoverD, hu, Tryd.ntmps70, Exit.thenS]
  refine wpS_cond (t := false) (by simp [Act.eval, Array.replicate]) ?_
  simp only [Bool.false_eq_true, if_false]
  refine wpS_of_wp (wp_skip ?_)
  cases c₀
  simp_all [bodyPostS, results, Tryd.results70]
/-- Three one-cell blocks and the reader. -/
theorem four_blocks (w : World) (a b c : Value) (r : Array Value) (ta tb tc tr : TypeId) {w1 : World} (hg : ((((w.alloc (.cells #[a] ta)).alloc (.cells #[b] tb)).alloc (.cells #[c] tc)).alloc (.cells r tr)).grownBy w1 (some (w.heap.size + 3))) :
    w1.cell? ⟨w.heap.size, 0, none⟩ = some a ∧ w1.cell? ⟨w.heap.size + 1, 0, none⟩ = some b ∧ w1.cell? ⟨w.heap.size + 1 + 1, 0, none⟩ = some c ∧
    w1.frozen? ⟨w.heap.size, 0, none⟩ = false ∧ w1.frozen? ⟨w.heap.size + 1, 0, none⟩ = false ∧ w1.frozen? ⟨w.heap.size + 1 + 1, 0, none⟩ = false ∧ Below w.heap.size w w1 ∧ w.heap.size + 4 ≤ w1.heap.size := by
  have hs := hg.size
  simp at hs
  have b0 := hg.block w.heap.size (by simp; omega) (by simp)
  have b1 := hg.block (w.heap.size + 1) (by simp) (by simp)
  have b2 := hg.block (w.heap.size + 1 + 1) (by simp) (by simp)
  refine ⟨(World.cell?_of_block (a := ⟨w.heap.size, 0, none⟩) b0).trans (by simp [go_sem]), (World.cell?_of_block (a := ⟨w.heap.size + 1, 0, none⟩) b1).trans (by simp [go_sem]), (World.cell?_of_block (a := ⟨w.heap.size + 1 + 1, 0, none⟩) b2).trans (by simp [go_sem]),
    (World.frozen?_of_block (a := ⟨w.heap.size, 0, none⟩) b0).trans (by simp [go_sem]), (World.frozen?_of_block (a := ⟨w.heap.size + 1, 0, none⟩) b1).trans (by simp [go_sem]), (World.frozen?_of_block (a := ⟨w.heap.size + 1 + 1, 0, none⟩) b2).trans (by simp [go_sem]), ?_, by omega⟩
  have b4 : Below w.heap.size w ((((w.alloc (.cells #[a] ta)).alloc (.cells #[b] tb)).alloc (.cells #[c] tc)).alloc (.cells r tr)) :=
    ((((Below.refl _ _).alloc (Nat.le_refl _) _).alloc (by simp) _).alloc (by simp; omega) _).alloc (by simp; omega) _
  exact b4.trans (gb_below hg (by simp; omega) (fun g e => by injection e with e; omega))
theorem setCell_same_of {w : World} {p : Addr} {v x : Value} (h : w.cell? p = some v) : (w.setCell p x).cell? p = some x := by
  exact World.cell?_setCell_same w p x h
/-- Three stores into three blocks. -/
theorem three_set {w1 : World} {A B C : Nat} {a b c : Value} (x y z : Value) (h0 : w1.cell? ⟨A, 0, none⟩ = some a) (h1 : w1.cell? ⟨B, 0, none⟩ = some b) (h2 : w1.cell? ⟨C, 0, none⟩ = some c) (d1 : A ≠ B) (d2 : A ≠ C) (d3 : B ≠ C) :
    (((w1.setCell ⟨A, 0, none⟩ x).setCell ⟨B, 0, none⟩ y).setCell ⟨C, 0, none⟩ z).cell? ⟨A, 0, none⟩ = some x ∧ (((w1.setCell ⟨A, 0, none⟩ x).setCell ⟨B, 0, none⟩ y).setCell ⟨C, 0, none⟩ z).cell? ⟨B, 0, none⟩ = some y ∧ (((w1.setCell ⟨A, 0, none⟩ x).setCell ⟨B, 0, none⟩ y).setCell ⟨C, 0, none⟩ z).cell? ⟨C, 0, none⟩ = some z := by
  have nAB : (⟨A, 0, none⟩ : Addr) ≠ ⟨B, 0, none⟩ := fun e => d1 (by injection e)
  have nAC : (⟨A, 0, none⟩ : Addr) ≠ ⟨C, 0, none⟩ := fun e => d2 (by injection e)
  have nBC : (⟨B, 0, none⟩ : Addr) ≠ ⟨C, 0, none⟩ := fun e => d3 (by injection e)
  refine ⟨?_, ?_, ?_⟩
  · rw [World.cell?_setCell_other _ _ _ _ (Ne.symm nAC), World.cell?_setCell_other _ _ _ _ (Ne.symm nAB)]
    exact setCell_same_of h0
  · rw [World.cell?_setCell_other _ _ _ _ (Ne.symm nBC)]
    exact setCell_same_of ((World.cell?_setCell_other _ _ _ _ nAB).trans h1)
  · exact setCell_same_of ((World.cell?_setCell_other _ _ _ _ nBC).trans ((World.cell?_setCell_other _ _ _ _ nAC).trans h2))
theorem three_below {w w1 : World} {o : Nat} (h : Below w.heap.size w w1) (x y z : Value) : Below w.heap.size w (((w1.setCell ⟨w.heap.size, o, none⟩ x).setCell ⟨w.heap.size + 1, o, none⟩ y).setCell ⟨w.heap.size + 1 + 1, o, none⟩ z) :=
  ((h.setCell (p := ⟨w.heap.size, o, none⟩) (Nat.le_refl _) x).setCell (p := ⟨w.heap.size + 1, o, none⟩) (by simp) y).setCell (p := ⟨w.heap.size + 1 + 1, o, none⟩) (by simp; omega) z
set_option maxRecDepth 100000 in
set_option maxHeartbeats 1000000 in
theorem readingS_any (s : ByteArray) (w : World) (hs : s.size ≤ 1099511627776) :
    Calls Tryd.prog 49 #[.string s, .func (Fn.func 50) #[] #[]] w fun e w' => e = .returned (keyRes s) ∧ Below w.heap.size w w' := by
  have hmf : ∀ (fn : Fn) (first cap : Array Value) (w : World), (Instr.makeFunc fn first cap).run Tryd.prog w = .ok (.func fn first cap) w := fun _ _ _ _ => rfl
  go_enter_defers Tryd.func49, Tryd.ntmps49
  go_wp2_with fail
  refine (keyCode_any (w.heap.size + 3) s 0 _ hs (Nat.zero_le _) (by simp) ⟨by simp [go_sem], by simp [go_sem], by simp [go_sem]⟩).mono ?_
  rintro e w1 hout
  rcases hout with ⟨key, j, hk, rfl, hr, hg⟩ | ⟨hk, rfl, hg⟩
  · have E := Lib.hid (show keyRes s = .tuple #[.string ⟨key.toArray⟩, .int .i64 (j : Int), .bool true] by simp only [keyRes, hk])
    obtain ⟨c0, c1, c2, f0, f1, f2, hB, hz⟩ := four_blocks w _ _ _ _ _ _ _ _ hg
    obtain ⟨r0, r1, _⟩ := hr
    clear hg hk
    go_wp2_with fail
    have C0 : (w1.setCell ⟨w.heap.size, 0, none⟩ (.string ⟨key.toArray⟩)).cell? ⟨w.heap.size, 0, none⟩ = some (.string ⟨key.toArray⟩) := setCell_same_of c0
    have C1 : (w1.setCell ⟨w.heap.size, 0, none⟩ (.string ⟨key.toArray⟩)).cell? ⟨w.heap.size + 1, 0, none⟩ = some (.int .i64 0) := (World.cell?_setCell_other _ _ _ _ (by simp)).trans c1
    have C2 : (w1.setCell ⟨w.heap.size, 0, none⟩ (.string ⟨key.toArray⟩)).cell? ⟨w.heap.size + 1 + 1, 0, none⟩ = some (.bool false) := (World.cell?_setCell_other _ _ _ _ (by simp)).trans c2
    have C3 : (w1.setCell ⟨w.heap.size, 0, none⟩ (.string ⟨key.toArray⟩)).cell? ⟨w.heap.size + 1 + 1 + 1, 1, none⟩ = some (.int .i64 j) := (World.cell?_setCell_other _ _ _ _ (by simp)).trans r1
    have F0 : (w1.setCell ⟨w.heap.size, 0, none⟩ (.string ⟨key.toArray⟩)).frozen? ⟨w.heap.size, 0, none⟩ = false := by simp [go_sem, f0]
    have F1 : (w1.setCell ⟨w.heap.size, 0, none⟩ (.string ⟨key.toArray⟩)).frozen? ⟨w.heap.size + 1, 0, none⟩ = false := by simp [go_sem, f1]
    have F2 : (w1.setCell ⟨w.heap.size, 0, none⟩ (.string ⟨key.toArray⟩)).frozen? ⟨w.heap.size + 1 + 1, 0, none⟩ = false := by simp [go_sem, f2]
    have HB := hB.setCell (p := ⟨w.heap.size, 0, none⟩) (Nat.le_refl _) (.string ⟨key.toArray⟩)
    clear c0 c1 c2 f0 f1 f2 hB hz r0 r1
    generalize w1.setCell ⟨w.heap.size, 0, none⟩ (.string ⟨key.toArray⟩) = W2 at *
    go_region
    go_wp2
    refine leaves_cons (f := 70) (args := #[.pointer (some ⟨w.heap.size, 0, none⟩), .pointer (some ⟨w.heap.size + 1, 0, none⟩), .pointer (some ⟨w.heap.size + 1 + 1, 0, none⟩)]) (by simp) (by simp [go_sem]) ?_
    refine (catchS_idle w.heap.size (w.heap.size + 1) (w.heap.size + 1 + 1) _).mono ?_
    rintro e u' w'' ⟨rfl, rfl, hw⟩
    have q := three_set (.string ⟨key.toArray⟩) (.int .i64 j) (.bool true) C0 C1 C2 (by omega) (by omega) (by omega)
    have hb := three_below (o := 0) HB (.string ⟨key.toArray⟩) (.int .i64 j) (.bool true)
    have q' : w''.cell? ⟨w.heap.size, 0, none⟩ = some (.string ⟨key.toArray⟩) ∧ w''.cell? ⟨w.heap.size + 1, 0, none⟩ = some (.int .i64 j) ∧ w''.cell? ⟨w.heap.size + 1 + 1, 0, none⟩ = some (.bool true) := by rw [hw]; exact q
    have hb' : Below w.heap.size w w'' := by rw [hw]; exact hb.drew
    clear hw q hb
    obtain ⟨p0, p1, p2⟩ := q'
    simp [Leaves, settle, results, Tryd.results49, go_sem, p0, p1, p2]
    exact ⟨E.out.symm, hb'⟩
  · have E := Lib.hid (show keyRes s = .tuple #[.string ⟨#[]⟩, .int .i64 0, .bool false] by simp only [keyRes, hk])
    obtain ⟨c0, c1, c2, f0, f1, f2, hB, hz⟩ := four_blocks w _ _ _ _ _ _ _ _ hg
    clear hg hk
    go_wp2_with fail
    refine leaves_cons (f := 70) (args := #[.pointer (some ⟨w.heap.size, 0, none⟩), .pointer (some ⟨w.heap.size + 1, 0, none⟩), .pointer (some ⟨w.heap.size + 1 + 1, 0, none⟩)]) (by simp) (by simp [go_sem]) ?_
    refine (catchS_panicking w.heap.size (w.heap.size + 1) (w.heap.size + 1 + 1) _ _ [] _ _ _ _ c0 c1 c2 f0 f1 f2 (by omega) (by omega) (by omega)).mono ?_
    rintro e u' w'' ⟨rfl, rfl, hw⟩
    have q := three_set (.string ⟨#[]⟩) (.int .i64 0) (.bool false) c0 c1 c2 (by omega) (by omega) (by omega)
    have hb := three_below (o := 0) hB (.string ⟨#[]⟩) (.int .i64 0) (.bool false)
    rw [← hw] at q hb
    clear hw
    obtain ⟨p0, p1, p2⟩ := q
    simp [Leaves, settle, results, Tryd.results49, go_sem, p0, p1, p2]
    exact ⟨E.out.symm, hb⟩
theorem implReadKeyCode_any (s : ByteArray) (w : World) (hs : s.size ≤ 1099511627776) :
    Calls Tryd.prog 15 #[.string s] w fun e w' => e = .returned (keyRes s) ∧ Below w.heap.size w w' := by
  have hx : ∃ a b c, keyRes s = .tuple #[a, b, c] := by
    unfold keyRes; split <;> exact ⟨_, _, _, rfl⟩
  obtain ⟨a, b, c, hx⟩ := hx
  have E := Lib.hid hx
  clear hx
  go_enter Tryd.func15, Tryd.ntmps15
  go_wp2_with fail
  refine (readingS_any s _ hs).mono ?_
  rintro e w1 ⟨rfl, hb⟩
  rw [E.out]
  go_wp2_with fail
  go_ret3
  exact ⟨ret_val E.out.symm, hb⟩
end Go.Proofs.YtgeepfoknhhcjaaDoor
