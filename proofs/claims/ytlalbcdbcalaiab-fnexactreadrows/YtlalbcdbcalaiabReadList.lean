/-
  impl.reading at lists of rows, impl.ReadRows and spec.ReadRows by their contracts. Conditions: those of each statement.
-/
import Derived.Test.YtlalbcdbcalaiabRowsRead
namespace Go.Proofs.Ytlalbcdbcalaiab
open Go.RowKit

theorem own_base {w : World} {base base' e s n : Nat} {v : Value} {xs : List Value} (h : w.ownsRow base e s v n xs) (hb : base' ≤ base) : w.ownsRow base' e s v n xs := by
  refine ⟨h.1, ?_⟩
  rcases h.2 with h0 | ⟨g, c, cur, hv, hg, rest⟩
  · exact .inl h0
  · exact .inr ⟨g, c, cur, hv, Nat.le_trans hb hg, rest⟩
theorem own_set {w : World} {base e s n b o : Nat} {v : Value} {xs : List Value} (h : w.ownsRow base e s v n xs) (hb : b < base) (x : Value) : (w.setCell ⟨b, o, none⟩ x).ownsRow base e s v n xs :=
  own_gb h (gb_store (World.grownBy.refl w (some b)) o x) hb
/-- How reading lists of rows ends. -/
def ReadLOut (s : ByteArray) (w : World) (e : Ending) (w' : World) : Prop :=
  (∃ rs a cap, rowsOf s = some rs ∧ e = .returned (.tuple #[.slice a rs.length cap, .int .i64 s.size, .bool true]) ∧ w'.ownsRow w.heap.size 32 3 (.slice a rs.length cap) rs.length (flat rs) ∧ Below w.heap.size w w') ∨ (rowsOf s = none ∧ e = .returned (.tuple #[.slice none 0 0, .int .i64 0, .bool false]) ∧ Below w.heap.size w w')
theorem catchL_panicking (V N O : Nat) (u : TypeId) (pv : Value) (older : List PanicEntry) (w : World) (v n o : Value) (h0 : w.cell? ⟨V, 0, none⟩ = some v) (h1 : w.cell? ⟨N, 0, none⟩ = some n) (h2 : w.cell? ⟨O, 0, none⟩ = some o)
    (f0 : w.frozen? ⟨V, 0, none⟩ = false) (f1 : w.frozen? ⟨N, 0, none⟩ = false) (f2 : w.frozen? ⟨O, 0, none⟩ = false) (d1 : V ≠ N) (d2 : V ≠ O) (d3 : N ≠ O) :
    CallsD Try.prog 73 #[.pointer (some ⟨V, 0, none⟩), .pointer (some ⟨N, 0, none⟩), .pointer (some ⟨O, 0, none⟩)] (.panicking ({ v := .iface u pv, recovered := false } :: older)) w fun e u' w' =>
      e = .returned (.tuple #[]) ∧ u' = .panicking ({ v := .iface u pv, recovered := true } :: older) ∧ w' = ((w.setCell ⟨V, 0, none⟩ (.slice none 0 0)).setCell ⟨N, 0, none⟩ (.int .i64 0)).setCell ⟨O, 0, none⟩ (.bool false) := by
  refine callsD_of_wpS Try.func73 rfl fun c₀ cs hu => ?_
  apply wpS_seq
  apply wpS_region
  simp [wpOpsS, go_sem, recoverD, hu, Try.ntmps73, Exit.thenS]
  refine wpS_cond (t := true) (by simp [Act.eval, Array.replicate]) ?_
  simp only [if_true]
  apply wpS_seq
  apply wpS_region
  simp [wpOpsS, go_sem, Exit.thenS]
  apply wpS_region
  simp [wpOpsS, go_sem, h0, h1, h2, f0, f1, f2, bodyPostS, results, Try.results73]
theorem catchL_idle (V N O : Nat) (w : World) :
    CallsD Try.prog 73 #[.pointer (some ⟨V, 0, none⟩), .pointer (some ⟨N, 0, none⟩), .pointer (some ⟨O, 0, none⟩)] .returning w fun e u' w' => e = .returned (.tuple #[]) ∧ u' = .returning ∧ w' = w := by
  refine callsD_of_wpS Try.func73 rfl fun c₀ cs hu => ?_
  apply wpS_seq
  apply wpS_region
  simp [wpOpsS, go_sem, recoverD, hu, Try.ntmps73, Exit.thenS]
  refine wpS_cond (t := false) (by simp [Act.eval, Array.replicate]) ?_
  simp only [Bool.false_eq_true, if_false]
  refine wpS_of_wp (wp_skip ?_)
  cases c₀
  simp_all [bodyPostS, results, Try.results73]
set_option maxHeartbeats 1000000 in
theorem readingL_any (s : ByteArray) (w : World) (hs : s.size ≤ 1099511627776) :
    Calls Try.prog 55 #[.string s, .func (Fn.func 56) #[] #[]] w (ReadLOut s w) := by
  have hmf : ∀ (fn : Fn) (first cap : Array Value) (w : World), (Instr.makeFunc fn first cap).run Try.prog w = .ok (.func fn first cap) w := fun _ _ _ _ => rfl
  go_enter_defers Try.func55, Try.ntmps55
  go_wp2_with fail
  refine (rows_any (w.heap.size + 3) s _ hs (by simp) ⟨by simp [go_sem], by simp [go_sem], by simp [go_sem]⟩).mono ?_
  rintro e w1 hout
  rcases hout with ⟨rs, av, cv, hk, rfl, hO, hr, hg⟩ | ⟨hk, rfl, hg⟩
  · have E := Lib.hid hk
    obtain ⟨c0, c1, c2, f0, f1, f2, hB, hz⟩ := four_blocks w _ _ _ _ _ _ _ _ hg
    obtain ⟨r0, r1, _⟩ := hr
    clear hg hk
    go_wp2_with fail
    have C0 : (w1.setCell ⟨w.heap.size, 0, none⟩ (.slice av rs.length cv)).cell? ⟨w.heap.size, 0, none⟩ = some (.slice av rs.length cv) := setCell_same_of c0
    have C1 : (w1.setCell ⟨w.heap.size, 0, none⟩ (.slice av rs.length cv)).cell? ⟨w.heap.size + 1, 0, none⟩ = some (.int .i64 0) := (World.cell?_setCell_other _ _ _ _ (by simp)).trans c1
    have C2 : (w1.setCell ⟨w.heap.size, 0, none⟩ (.slice av rs.length cv)).cell? ⟨w.heap.size + 1 + 1, 0, none⟩ = some (.bool false) := (World.cell?_setCell_other _ _ _ _ (by simp)).trans c2
    have C3 : (w1.setCell ⟨w.heap.size, 0, none⟩ (.slice av rs.length cv)).cell? ⟨w.heap.size + 1 + 1 + 1, 1, none⟩ = some (.int .i64 s.size) := (World.cell?_setCell_other _ _ _ _ (by simp)).trans r1
    have F0 : (w1.setCell ⟨w.heap.size, 0, none⟩ (.slice av rs.length cv)).frozen? ⟨w.heap.size, 0, none⟩ = false := by simp [go_sem, f0]
    have F1 : (w1.setCell ⟨w.heap.size, 0, none⟩ (.slice av rs.length cv)).frozen? ⟨w.heap.size + 1, 0, none⟩ = false := by simp [go_sem, f1]
    have F2 : (w1.setCell ⟨w.heap.size, 0, none⟩ (.slice av rs.length cv)).frozen? ⟨w.heap.size + 1 + 1, 0, none⟩ = false := by simp [go_sem, f2]
    have HB := hB.setCell (p := ⟨w.heap.size, 0, none⟩) (Nat.le_refl _) (.slice av rs.length cv)
    have HO := own_set (b := w.heap.size) (o := 0) (own_base (base' := w.heap.size + 3) hO (by simp)) (by omega) (.slice av rs.length cv)
    clear c0 c1 c2 f0 f1 f2 hB hz r0 r1 hO
    generalize w1.setCell ⟨w.heap.size, 0, none⟩ (.slice av rs.length cv) = W2 at *
    go_region
    go_wp2
    refine leaves_cons (f := 73) (args := #[.pointer (some ⟨w.heap.size, 0, none⟩), .pointer (some ⟨w.heap.size + 1, 0, none⟩), .pointer (some ⟨w.heap.size + 1 + 1, 0, none⟩)]) (by simp) (by simp [go_sem]) ?_
    refine (catchL_idle w.heap.size (w.heap.size + 1) (w.heap.size + 1 + 1) _).mono ?_
    rintro e u' w'' ⟨rfl, rfl, hw⟩
    have q := three_set (.slice av rs.length cv) (.int .i64 s.size) (.bool true) C0 C1 C2 (by omega) (by omega) (by omega)
    have hb := three_below (o := 0) HB (.slice av rs.length cv) (.int .i64 s.size) (.bool true)
    have q' : w''.cell? ⟨w.heap.size, 0, none⟩ = some (.slice av rs.length cv) ∧ w''.cell? ⟨w.heap.size + 1, 0, none⟩ = some (.int .i64 s.size) ∧ w''.cell? ⟨w.heap.size + 1 + 1, 0, none⟩ = some (.bool true) := by rw [hw]; exact q
    have hb' : Below w.heap.size w w'' := by rw [hw]; exact hb.drew
    have ho : w''.ownsRow (w.heap.size + 3) 32 3 (.slice av rs.length cv) rs.length (flat rs) := by
      rw [hw]
      exact World.ownsRow.drew (own_set (own_set (own_set HO (by omega) _) (by omega) _) (by omega) _)
    clear hw q hb
    obtain ⟨p0, p1, p2⟩ := q'
    simp [Leaves, settle, results, Try.results55, go_sem, p0, p1, p2]
    exact .inl ⟨rs, av, cv, E.out, rfl, own_base ho (by omega), hb'⟩
  · have E := Lib.hid hk
    obtain ⟨c0, c1, c2, f0, f1, f2, hB, hz⟩ := four_blocks w _ _ _ _ _ _ _ _ hg
    clear hg hk
    go_wp2_with fail
    refine leaves_cons (f := 73) (args := #[.pointer (some ⟨w.heap.size, 0, none⟩), .pointer (some ⟨w.heap.size + 1, 0, none⟩), .pointer (some ⟨w.heap.size + 1 + 1, 0, none⟩)]) (by simp) (by simp [go_sem]) ?_
    refine (catchL_panicking w.heap.size (w.heap.size + 1) (w.heap.size + 1 + 1) _ _ [] _ _ _ _ c0 c1 c2 f0 f1 f2 (by omega) (by omega) (by omega)).mono ?_
    rintro e u' w'' ⟨rfl, rfl, hw⟩
    have q := three_set (.slice none 0 0) (.int .i64 0) (.bool false) c0 c1 c2 (by omega) (by omega) (by omega)
    have hb := three_below (o := 0) hB (.slice none 0 0) (.int .i64 0) (.bool false)
    rw [← hw] at q hb
    clear hw
    obtain ⟨p0, p1, p2⟩ := q
    simp [Leaves, settle, results, Try.results55, go_sem, p0, p1, p2]
    exact .inr ⟨E.out, rfl, hb⟩
/-- How ReadRows ends. -/
def ReadROut (s : ByteArray) (w : World) (e : Ending) (w' : World) : Prop :=
  (∃ rs a cap, rowsOf s = some rs ∧ rs.length ≤ 120 ∧ e = .returned (.tuple #[.slice a rs.length cap, .bool true]) ∧ w'.ownsRow w.heap.size 32 3 (.slice a rs.length cap) rs.length (flat rs) ∧ Below w.heap.size w w') ∨ (rowsOf s = none ∧ e = .returned (.tuple #[.slice none 0 0, .bool false]) ∧ Below w.heap.size w w')
theorem rrs_le (s : ByteArray) : ∀ (n p : Nat) (acc rs : List RowV), acc.length ≤ 120 → rrs s n p acc = some rs → rs.length ≤ 120
  | 0, _, _, _, _, h => by simp [rrs] at h
  | n + 1, p, acc, rs, ha, h => by
    rw [rrs] at h
    split at h
    · injection h with h; subst h; exact ha
    · split at h
      · split at h
        · cases h
        · exact rrs_le s n _ _ rs (by simp; omega) h
      · cases h
theorem implReadRows_any (s : ByteArray) (w : World) (hs : s.size ≤ 1099511627776) :
    Calls Try.prog 33 #[.string s] w (ReadROut s w) := by
  go_enter Try.func33, Try.ntmps33
  go_wp2_with fail
  refine (readingL_any s _ hs).mono ?_
  rintro e w1 hout
  rcases hout with ⟨rs, a, cap, hk, rfl, hO, hb⟩ | ⟨hk, rfl, hb⟩
  · have E := Lib.hid hk
    clear hk
    go_wp2_with fail
    go_ret2
    exact .inl ⟨rs, a, cap, E.out, rrs_le s _ _ _ rs (by simp) E.out, rfl, hO, hb⟩
  · have E := Lib.hid hk
    clear hk
    go_wp2_with fail
    go_ret2
    exact .inr ⟨E.out, rfl, hb⟩
end Go.Proofs.Ytlalbcdbcalaiab
