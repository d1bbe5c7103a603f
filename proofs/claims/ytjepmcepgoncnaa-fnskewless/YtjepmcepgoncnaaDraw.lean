/-
  The reader of a code: spec.l1Open and its methods next, below and once by their contracts: each returns some number (bool), and changes the reader alone. Conditions: those of each statement.
-/
import Derived.Test.YtjepmcepgoncnaaSort
import Derived.Deep.QuietTactic
import Derived.BigQuiet
namespace Go.Proofs.Ytjepmcepgoncnaa
open Go.RowKit

/-- A slice of bytes that can be read below block B. -/
def IsBy (w : World) (B : Nat) (a : Option Addr) (n : Nat) : Prop := ∃ xs : List Value, Rd w B 1 a n xs ∧ ∀ v ∈ xs, ∃ x : Nat, x < 256 ∧ v = .int .u8 x
theorem IsBy.keep {w w' : World} {B n : Nat} {a : Option Addr} (h : IsBy w B a n) (hk : ∀ b o, b < B → w'.cell? ⟨b, o, none⟩ = w.cell? ⟨b, o, none⟩) : IsBy w' B a n := by
  obtain ⟨xs, h1, h2⟩ := h
  exact ⟨xs, h1.keep hk, h2⟩
theorem IsBy.at_ {w : World} {B n p : Nat} {a : Option Addr} (h : IsBy w B a n) (hp : p < n) : ∃ b off x, a = some ⟨b, off, none⟩ ∧ b < B ∧ x < 256 ∧ w.cell? ⟨b, off + p, none⟩ = some (.int .u8 (x : Nat)) := by
  obtain ⟨xs, h1, h2⟩ := h
  obtain ⟨b, off, e, hb, hc⟩ := h1.2 (by omega)
  have hl := h1.1
  have hv : xs[p]? = some (xs[p]'(by omega)) := List.getElem?_eq_getElem _
  obtain ⟨x, hx, ev⟩ := h2 _ (List.mem_of_getElem? hv)
  rw [ev] at hv
  exact ⟨b, off, x, e, hb, hx, hc p _ hv⟩
/-- A reader in block g, of a code of n bytes that lies below it. -/
def Rdr (w : World) (g n : Nat) : Prop := n ≤ 1048576 ∧ ∃ (a : Option Addr) (c p : Nat), IsBy w g a n ∧ p ≤ n ∧ w.ownsRow g 129 2 (.slice (some ⟨g, 0, none⟩) 1 1) 1 [.slice a n c, .int .i64 p]
theorem Rdr.lt {w : World} {g n : Nat} (h : Rdr w g n) : g < w.heap.size := by
  obtain ⟨_, _, _, _, _, _, h⟩ := h
  exact (own_ge h g rfl).2
theorem Rdr.below {w w' : World} {g n : Nat} (h : Rdr w g n) (hb : Below w.heap.size w w') : Rdr w' g n := by
  have hl := h.lt
  obtain ⟨h1, a, c, p, h2, h3, h4⟩ := h
  exact ⟨h1, a, c, p, h2.keep (fun b o hb' => hb.cell (p := ⟨b, o, none⟩) (show b < w.heap.size by omega)), h3, own_below h4 hb⟩
/-- The reader has gone on; nothing else has changed. -/
def Drew (w w' : World) (g n : Nat) : Prop := Rdr w' g n ∧ w.grownBy w' (some g)
theorem Drew.refl {w : World} {g n : Nat} (h : Rdr w g n) : Drew w w g n := ⟨h, World.grownBy.refl _ _⟩
theorem Drew.trans {a b c : World} {g n : Nat} (h : Drew a b g n) (k : Drew b c g n) : Drew a c g n := ⟨k.1, gb_trans h.2 k.2⟩
theorem Drew.and {a b c : World} {g n : Nat} (h : Drew a b g n) (k : Below b.heap.size b c) : Drew a c g n := ⟨h.1.below k, gb_trans h.2 (gb_of_below k _)⟩
theorem Drew.alloc {a b : World} {g n : Nat} (h : Drew a b g n) (o : Obj) : Drew a (b.alloc o) g n := h.and (bl1 b o)
/-- What was owned elsewhere is as it was. -/
theorem Drew.own {w w' : World} {g n base e s k : Nat} {v : Value} {xs : List Value} (h : Drew w w' g n) (hO : w.ownsRow base e s v k xs) (hb : g < base) : w'.ownsRow base e s v k xs :=
  hO.kept h.2 (by
    cases hv : v.ownBlock with
    | none => exact .inl rfl
    | some q => exact .inr (fun he => by injection he with he; have := (own_ge hO q hv).1; omega))
theorem Drew.rdr {w w' : World} {g n : Nat} (h : Drew w w' g n) : Rdr w' g n := h.1
theorem Drew.size {w w' : World} {g n : Nat} (h : Drew w w' g n) : w.heap.size ≤ w'.heap.size := h.2.size
/-- What is written into a block that is newer than the first world. -/
theorem Drew.grown {w w' w2 : World} {g n : Nat} {row : Option Nat} (h : Drew w w' g n) (hg0 : g < w.heap.size) (hg : w'.grownBy w2 row) (hr : ∀ q, row = some q → w.heap.size ≤ q) : Drew w w2 g n := by
  have hlt := h.1.lt
  refine ⟨?_, ⟨hg.os.trans h.2.os, hg.tape.trans h.2.tape, hg.output.trans h.2.output, Nat.le_trans h.2.size hg.size, fun k hk hne => (hg.block k (Nat.lt_of_lt_of_le hk h.2.size) (fun e => by have := hr k e.symm; omega)).trans (h.2.block k hk hne)⟩⟩
  obtain ⟨h1, a2, c2, p2, h2, h3, h4⟩ := h.1
  refine ⟨h1, a2, c2, p2, h2.keep (fun b o hb => World.cell?_of_block (a := ⟨b, o, none⟩) (hg.block b (by omega) (fun e => by have := hr b e.symm; omega))), h3, ?_⟩
  exact h4.kept hg (.inr (fun e => by have := hr g e.symm; omega))
theorem Drew.set {w w' : World} {g n b o : Nat} (h : Drew w w' g n) (hg0 : g < w.heap.size) (hb : w.heap.size ≤ b) (v : Value) : Drew w (w'.setCell ⟨b, o, none⟩ v) g n :=
  h.grown hg0 (gb_store (World.grownBy.refl w' (some b)) o v) (fun q e => by injection e with e; omega)
theorem l1Open_any (a : Option Addr) (n c : Nat) (w : World) (hn : n ≤ 1048576) (h : IsBy w w.heap.size a n) :
    Calls Try.prog 71 #[.slice a n c] w fun e w' => e = .returned (.pointer (some ⟨w.heap.size, 0, none⟩)) ∧ Rdr w' w.heap.size n ∧ Below w.heap.size w w' := by
  have hO : (w.alloc (.cells #[.slice a n c, .int .i64 0] 129)).ownsRow w.heap.size 129 2 (.slice (some ⟨w.heap.size, 0, none⟩) 1 1) 1 [.slice a n c, .int .i64 0] := World.ownsRow_lit (base := w.heap.size) (size := 2) w #[.slice a n c, .int .i64 0] 1 (Nat.le_refl _) (by decide) rfl
  have hb := bl1 w (.cells #[.slice a n c, .int .i64 0] 129)
  go_enter Try.func71, Try.ntmps71
  go_wp2_with fail
  go_ret
  exact ⟨rfl, ⟨hn, a, c, 0, h.keep (fun b o hb' => hb.cell (p := ⟨b, o, none⟩) hb'), Nat.zero_le _, hO⟩, hb⟩
set_option maxRecDepth 100000 in
set_option maxHeartbeats 1000000 in
theorem next_any (g n : Nat) (w : World) (h : Rdr w g n) :
    Calls Try.prog 125 #[.pointer (some ⟨g, 0, none⟩)] w fun e w' => ∃ x : Nat, x < 256 ∧ e = .returned (.int .i64 x) ∧ Drew w w' g n := by
  have hD0 := Drew.refl h
  obtain ⟨hn, a, c, p, hI, hp, hO⟩ := h
  have c0 : w.cell? ⟨g, 0, none⟩ = some (.slice a n c) := hO.cellAt 0 (by omega)
  have c1 : w.cell? ⟨g, 1, none⟩ = some (.int .i64 p) := hO.cellAt 1 (by omega)
  by_cases hlt : p < n
  · have hgeq : decide (n ≤ p) = false := by simp; omega
    go_enter Try.func125, Try.ntmps125
    go_wp2_with fail
    go_quiet (fail)
    have hb1 := below_drewN (Below.refl w.heap.size w) nq
    have hO1 := own_below hO hb1
    have hI1 := hI.keep (w' := w.drewN nq) (fun b o hb => hb1.cell (p := ⟨b, o, none⟩) (show b < w.heap.size by have := (own_ge hO g rfl).2; omega))
    have hD1 := hD0.and hb1
    generalize w.drewN nq = w1 at *
    clear hO hI c0 c1 hb1 hD0
    obtain ⟨b, off, x, rfl, hb, hx, d0⟩ := hI1.at_ hlt
    have c1 : w1.cell? ⟨g, 1, none⟩ = some (.int .i64 p) := hO1.cellAt 1 (by omega)
    have f1 := hO1.frozenAt 1
    have hO2 := (hO1.stored 1 (.int .i64 ((p : Int) + 1))).1
    have hg2 := gb_store (World.grownBy.refl w1 (some g)) 1 (.int .i64 ((p : Int) + 1))
    have hne : b ≠ g := by omega
    have hgs := (own_ge hO1 g rfl).2
    have e0 : (w1.setCell ⟨g, 1, none⟩ (.int .i64 ((p : Int) + 1))).cell? ⟨g, 0, none⟩ = some (.slice (some ⟨b, off, none⟩) n c) := hO2.cellAt 0 (by omega)
    have e1 : (w1.setCell ⟨g, 1, none⟩ (.int .i64 ((p : Int) + 1))).cell? ⟨g, 1, none⟩ = some (.int .i64 ((p : Int) + 1)) := hO2.cellAt 1 (by omega)
    have e2 : (w1.setCell ⟨g, 1, none⟩ (.int .i64 ((p : Int) + 1))).cell? ⟨b, off + p, none⟩ = some (.int .u8 (x : Nat)) := (World.cell?_of_block (a := ⟨b, off + p, none⟩) (hg2.block b (by omega) (by simpa using hne))).trans d0
    have hI2 : IsBy (w1.setCell ⟨g, 1, none⟩ (.int .i64 ((p : Int) + 1))) g (some ⟨b, off, none⟩) n := hI1.keep (fun b' o hb' => World.cell?_of_block (a := ⟨b', o, none⟩) (hg2.block b' (by omega) (by simp; omega)))
    have hD : Drew w (w1.setCell ⟨g, 1, none⟩ (.int .i64 ((p : Int) + 1))) g n := hD1.trans ⟨⟨hn, _, c, p + 1, hI2, hlt, hO2⟩, hg2⟩
    have HD := Lib.hid hD
    clear hO1 hO2 hI1 hI2 hg2 hD hD1
    go_wp2_with fail
    generalize hw2 : w1.setCell ⟨g, 1, none⟩ (.int .i64 ((p : Int) + 1)) = w2 at *
    clear hw2
    go_quiet (fail)
    have hD2 := HD.out.and (below_drewN (Below.refl w2.heap.size w2) nq)
    generalize w2.drewN nq = w3 at *
    go_wp2_with fail
    go_ret
    exact ⟨x, hx, rfl, hD2⟩
  · have hgeq : decide (n ≤ p) = true := by simp; omega
    go_enter Try.func125, Try.ntmps125
    go_wp2_with fail
    go_quiet (fail)
    have hD1 := hD0.and (below_drewN (Below.refl w.heap.size w) nq)
    generalize w.drewN nq = w1 at *
    go_wp2_with fail
    go_ret
    exact ⟨0, by omega, rfl, hD1⟩
theorem below_any (g n k : Nat) (w : World) (h : Rdr w g n) (hk1 : 2 ≤ k) (hk : k ≤ 256) :
    Calls Try.prog 102 #[.pointer (some ⟨g, 0, none⟩), .int .i64 k] w fun e w' => ∃ x : Nat, x < k ∧ e = .returned (.int .i64 x) ∧ Drew w w' g n := by
  go_enter Try.func102, Try.ntmps102
  go_wp2_with fail
  refine (next_any g n _ h).mono ?_
  rintro e w1 ⟨x, hx, rfl, hD⟩
  have hm : x % k < k := Nat.mod_lt _ (by omega)
  go_wp2_with fail
  go_ret
  exact ⟨x % k, hm, by simp, hD⟩
/-- The same at a number that is written out. -/
theorem below_lit (g n k : Nat) (K : Int) (w : World) (h : Rdr w g n) (hK : (k : Int) = K) (hk1 : 2 ≤ k) (hk : k ≤ 256) :
    Calls Try.prog 102 #[.pointer (some ⟨g, 0, none⟩), .int .i64 K] w fun e w' => ∃ x : Nat, x < k ∧ e = .returned (.int .i64 x) ∧ Drew w w' g n := by
  subst hK; exact below_any g n k w h hk1 hk
theorem once_lit (g n k : Nat) (K : Int) (w : World) (h : Rdr w g n) (hK : (k : Int) = K) (hk1 : 2 ≤ k) (hk : k ≤ 256) :
    Calls Try.prog 108 #[.pointer (some ⟨g, 0, none⟩), .int .i64 K] w fun e w' => ∃ b : Bool, e = .returned (.bool b) ∧ Drew w w' g n := by
  subst hK
  go_enter Try.func108, Try.ntmps108
  go_wp2_with fail
  refine (below_any g n k _ h hk1 hk).mono ?_
  rintro e w1 ⟨x, hx, rfl, hD⟩
  go_wp2_with fail
  go_ret
  exact ⟨_, rfl, hD⟩
end Go.Proofs.Ytjepmcepgoncnaa
