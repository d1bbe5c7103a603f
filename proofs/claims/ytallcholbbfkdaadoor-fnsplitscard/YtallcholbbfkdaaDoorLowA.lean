/-
  laws.big and laws.sameRows by their contracts: two equal lists of rows are found to be so. Condition: at most 1048576 rows.
-/
import Derived.Test.YtallcholbbfkdaaDoorSort
import Derived.Deep.QuietTactic
import Derived.BigQuiet
import Derived.Laws.IdiomStrings
import Derived.Laws.BitsAllLaws
import Derived.Test.YtallcholbbfkdaaDoorOpen
import Derived.ChangeSlices
import Derived.Laws.StructEq
namespace Go.Proofs.YtallcholbbfkdaaDoor
open Go.RowKit

/-- A slice of bytes that can be read below block B. -/
def IsBy (w : World) (B : Nat) (a : Option Addr) (n : Nat) : Prop := ∃ xs : List Value, Rd w B 1 a n xs ∧ ∀ v ∈ xs, ∃ x : Nat, x < 256 ∧ v = .int .u8 x
theorem IsBy.keep {w w' : World} {B n : Nat} {a : Option Addr} (h : IsBy w B a n) (hk : ∀ b o, b < B → w'.cell? ⟨b, o, none⟩ = w.cell? ⟨b, o, none⟩) : IsBy w' B a n := by
  obtain ⟨xs, h1, h2⟩ := h
  exact ⟨xs, h1.keep hk, h2⟩
theorem IsBy.at_ {w : World} {B n p : Nat} {a : Option Addr} (h : IsBy w B a n) (hp : p < n) : ∃ b off x, a = some ⟨b, off, none⟩ ∧ b < B ∧ x < 256 ∧ w.cell? ⟨b, off + p, none⟩ = some (.int .u8 (x : Nat)) := by
  obtain ⟨xs, h1, h2⟩ := h
  obtain ⟨b, off, e, hb, hc⟩ := h1.2 (by omega)
  have hl := h1.1
  have hv : xs[p]? = some (xs[p]'(by omega)) := List.getElem?_eq_getElem _
  obtain ⟨x, hx, ev⟩ := h2 _ (List.mem_of_getElem? hv)
  rw [ev] at hv
  exact ⟨b, off, x, e, hb, hx, hc p _ hv⟩
/-- A reader in block g, of a code of n bytes that lies below it. -/
def Rdr (w : World) (g n : Nat) : Prop := n ≤ 1048576 ∧ ∃ (a : Option Addr) (c p : Nat), IsBy w g a n ∧ p ≤ n ∧ w.ownsRow g 111 2 (.slice (some ⟨g, 0, none⟩) 1 1) 1 [.slice a n c, .int .i64 p]
theorem Rdr.lt {w : World} {g n : Nat} (h : Rdr w g n) : g < w.heap.size := by
  obtain ⟨_, _, _, _, _, _, h⟩ := h
  exact (own_ge h g rfl).2
theorem Rdr.below {w w' : World} {g n : Nat} (h : Rdr w g n) (hb : Below w.heap.size w w') : Rdr w' g n := by
  have hl := h.lt
  obtain ⟨h1, a, c, p, h2, h3, h4⟩ := h
  exact ⟨h1, a, c, p, h2.keep (fun b o hb' => hb.cell (p := ⟨b, o, none⟩) (show b < w.heap.size by omega)), h3, own_below h4 hb⟩
/-- The reader has gone on; nothing else has changed. -/
def Drew (w w' : World) (g n : Nat) : Prop := Rdr w' g n ∧ w.grownBy w' (some g)
theorem Drew.refl {w : World} {g n : Nat} (h : Rdr w g n) : Drew w w g n := ⟨h, World.grownBy.refl _ _⟩
theorem Drew.trans {a b c : World} {g n : Nat} (h : Drew a b g n) (k : Drew b c g n) : Drew a c g n := ⟨k.1, gb_trans h.2 k.2⟩
theorem Drew.and {a b c : World} {g n : Nat} (h : Drew a b g n) (k : Below b.heap.size b c) : Drew a c g n := ⟨h.1.below k, gb_trans h.2 (gb_of_below k _)⟩
theorem Drew.alloc {a b : World} {g n : Nat} (h : Drew a b g n) (o : Obj) : Drew a (b.alloc o) g n := h.and (bl1 b o)
/-- What was owned elsewhere is as it was. -/
theorem Drew.own {w w' : World} {g n base e s k : Nat} {v : Value} {xs : List Value} (h : Drew w w' g n) (hO : w.ownsRow base e s v k xs) (hb : g < base) : w'.ownsRow base e s v k xs :=
  hO.kept h.2 (by
    cases hv : v.ownBlock with
    | none => exact .inl rfl
    | some q => exact .inr (fun he => by injection he with he; have := (own_ge hO q hv).1; omega))
theorem Drew.rdr {w w' : World} {g n : Nat} (h : Drew w w' g n) : Rdr w' g n := h.1
theorem Drew.size {w w' : World} {g n : Nat} (h : Drew w w' g n) : w.heap.size ≤ w'.heap.size := h.2.size
/-- What is written into a block that is newer than the first world. -/
theorem Drew.grown {w w' w2 : World} {g n : Nat} {row : Option Nat} (h : Drew w w' g n) (hg0 : g < w.heap.size) (hg : w'.grownBy w2 row) (hr : ∀ q, row = some q → w.heap.size ≤ q) : Drew w w2 g n := by
  have hlt := h.1.lt
  refine ⟨?_, ⟨hg.os.trans h.2.os, hg.tape.trans h.2.tape, hg.output.trans h.2.output, Nat.le_trans h.2.size hg.size, fun k hk hne => (hg.block k (Nat.lt_of_lt_of_le hk h.2.size) (fun e => by have := hr k e.symm; omega)).trans (h.2.block k hk hne)⟩⟩
  obtain ⟨h1, a2, c2, p2, h2, h3, h4⟩ := h.1
  refine ⟨h1, a2, c2, p2, h2.keep (fun b o hb => World.cell?_of_block (a := ⟨b, o, none⟩) (hg.block b (by omega) (fun e => by have := hr b e.symm; omega))), h3, ?_⟩
  exact h4.kept hg (.inr (fun e => by have := hr g e.symm; omega))
theorem Drew.set {w w' : World} {g n b o : Nat} (h : Drew w w' g n) (hg0 : g < w.heap.size) (hb : w.heap.size ≤ b) (v : Value) : Drew w (w'.setCell ⟨b, o, none⟩ v) g n :=
  h.grown hg0 (gb_store (World.grownBy.refl w' (some b)) o v) (fun q e => by injection e with e; omega)
theorem l1Open_any (a : Option Addr) (n c : Nat) (w : World) (hn : n ≤ 1048576) (h : IsBy w w.heap.size a n) :
    Calls Tryd.prog 47 #[.slice a n c] w fun e w' => e = .returned (.pointer (some ⟨w.heap.size, 0, none⟩)) ∧ Rdr w' w.heap.size n ∧ Below w.heap.size w w' := by
  have hO : (w.alloc (.cells #[.slice a n c, .int .i64 0] 111)).ownsRow w.heap.size 111 2 (.slice (some ⟨w.heap.size, 0, none⟩) 1 1) 1 [.slice a n c, .int .i64 0] := World.ownsRow_lit (base := w.heap.size) (size := 2) w #[.slice a n c, .int .i64 0] 1 (Nat.le_refl _) (by decide) rfl
  have hb := bl1 w (.cells #[.slice a n c, .int .i64 0] 111)
  go_enter Tryd.func47, Tryd.ntmps47
  go_wp2_with fail
  go_ret
  exact ⟨rfl, ⟨hn, a, c, 0, h.keep (fun b o hb' => hb.cell (p := ⟨b, o, none⟩) hb'), Nat.zero_le _, hO⟩, hb⟩
set_option maxRecDepth 100000 in
set_option maxHeartbeats 1000000 in
theorem next_any (g n : Nat) (w : World) (h : Rdr w g n) :
    Calls Tryd.prog 98 #[.pointer (some ⟨g, 0, none⟩)] w fun e w' => ∃ x : Nat, x < 256 ∧ e = .returned (.int .i64 x) ∧ Drew w w' g n := by
  have hD0 := Drew.refl h
  obtain ⟨hn, a, c, p, hI, hp, hO⟩ := h
  have c0 : w.cell? ⟨g, 0, none⟩ = some (.slice a n c) := hO.cellAt 0 (by omega)
  have c1 : w.cell? ⟨g, 1, none⟩ = some (.int .i64 p) := hO.cellAt 1 (by omega)
  by_cases hlt : p < n
  · have hgeq : decide (n ≤ p) = false := by simp; omega
    go_enter Tryd.func98, Tryd.ntmps98
    go_wp2_with fail
    go_quiet (fail)
    have hb1 := below_drewN (Below.refl w.heap.size w) nq
    have hO1 := own_below hO hb1
    have hI1 := hI.keep (w' := w.drewN nq) (fun b o hb => hb1.cell (p := ⟨b, o, none⟩) (show b < w.heap.size by have := (own_ge hO g rfl).2; omega))
    have hD1 := hD0.and hb1
    generalize w.drewN nq = w1 at *
    clear hO hI c0 c1 hb1 hD0
    obtain ⟨b, off, x, rfl, hb, hx, d0⟩ := hI1.at_ hlt
    have c1 : w1.cell? ⟨g, 1, none⟩ = some (.int .i64 p) := hO1.cellAt 1 (by omega)
    have f1 := hO1.frozenAt 1
    have hO2 := (hO1.stored 1 (.int .i64 ((p : Int) + 1))).1
    have hg2 := gb_store (World.grownBy.refl w1 (some g)) 1 (.int .i64 ((p : Int) + 1))
    have hne : b ≠ g := by omega
    have hgs := (own_ge hO1 g rfl).2
    have e0 : (w1.setCell ⟨g, 1, none⟩ (.int .i64 ((p : Int) + 1))).cell? ⟨g, 0, none⟩ = some (.slice (some ⟨b, off, none⟩) n c) := hO2.cellAt 0 (by omega)
    have e1 : (w1.setCell ⟨g, 1, none⟩ (.int .i64 ((p : Int) + 1))).cell? ⟨g, 1, none⟩ = some (.int .i64 ((p : Int) + 1)) := hO2.cellAt 1 (by omega)
    have e2 : (w1.setCell ⟨g, 1, none⟩ (.int .i64 ((p : Int) + 1))).cell? ⟨b, off + p, none⟩ = some (.int .u8 (x : Nat)) := (World.cell?_of_block (a := ⟨b, off + p, none⟩) (hg2.block b (by omega) (by simpa using hne))).trans d0
    have hI2 : IsBy (w1.setCell ⟨g, 1, none⟩ (.int .i64 ((p : Int) + 1))) g (some ⟨b, off, none⟩) n := hI1.keep (fun b' o hb' => World.cell?_of_block (a := ⟨b', o, none⟩) (hg2.block b' (by omega) (by simp; omega)))
    have hD : Drew w (w1.setCell ⟨g, 1, none⟩ (.int .i64 ((p : Int) + 1))) g n := hD1.trans ⟨⟨hn, _, c, p + 1, hI2, hlt, hO2⟩, hg2⟩
    have HD := Lib.hid hD
    clear hO1 hO2 hI1 hI2 hg2 hD hD1
    go_wp2_with fail
    generalize hw2 : w1.setCell ⟨g, 1, none⟩ (.int .i64 ((p : Int) + 1)) = w2 at *
    clear hw2
    go_quiet (fail)
    have hD2 := HD.out.and (below_drewN (Below.refl w2.heap.size w2) nq)
    generalize w2.drewN nq = w3 at *
    go_wp2_with fail
    go_ret
    exact ⟨x, hx, rfl, hD2⟩
  · have hgeq : decide (n ≤ p) = true := by simp; omega
    go_enter Tryd.func98, Tryd.ntmps98
    go_wp2_with fail
    go_quiet (fail)
    have hD1 := hD0.and (below_drewN (Below.refl w.heap.size w) nq)
    generalize w.drewN nq = w1 at *
    go_wp2_with fail
    go_ret
    exact ⟨0, by omega, rfl, hD1⟩
theorem below_any (g n k : Nat) (w : World) (h : Rdr w g n) (hk1 : 2 ≤ k) (hk : k ≤ 256) :
    Calls Tryd.prog 70 #[.pointer (some ⟨g, 0, none⟩), .int .i64 k] w fun e w' => ∃ x : Nat, x < k ∧ e = .returned (.int .i64 x) ∧ Drew w w' g n := by
  go_enter Tryd.func70, Tryd.ntmps70
  go_wp2_with fail
  refine (next_any g n _ h).mono ?_
  rintro e w1 ⟨x, hx, rfl, hD⟩
  have hm : x % k < k := Nat.mod_lt _ (by omega)
  go_wp2_with fail
  go_ret
  exact ⟨x % k, hm, by simp, hD⟩
/-- The same at a number that is written out. -/
theorem below_lit (g n k : Nat) (K : Int) (w : World) (h : Rdr w g n) (hK : (k : Int) = K) (hk1 : 2 ≤ k) (hk : k ≤ 256) :
    Calls Tryd.prog 70 #[.pointer (some ⟨g, 0, none⟩), .int .i64 K] w fun e w' => ∃ x : Nat, x < k ∧ e = .returned (.int .i64 x) ∧ Drew w w' g n := by
  subst hK; exact below_any g n k w h hk1 hk
theorem once_lit (g n k : Nat) (K : Int) (w : World) (h : Rdr w g n) (hK : (k : Int) = K) (hk1 : 2 ≤ k) (hk : k ≤ 256) :
    Calls Tryd.prog 72 #[.pointer (some ⟨g, 0, none⟩), .int .i64 K] w fun e w' => ∃ b : Bool, e = .returned (.bool b) ∧ Drew w w' g n := by
  subst hK
  go_enter Tryd.func72, Tryd.ntmps72
  go_wp2_with fail
  refine (below_any g n k _ h hk1 hk).mono ?_
  rintro e w1 ⟨x, hx, rfl, hD⟩
  go_wp2_with fail
  go_ret
  exact ⟨_, rfl, hD⟩
end Go.Proofs.YtallcholbbfkdaaDoor

namespace Go.Proofs.YtallcholbbfkdaaDoor
open Go.RowKit

/-- Bytes as cells. -/
def byC (l : List UInt8) : List Value := l.map fun c => Value.int .u8 c.toNat
theorem infoByte : (Tryd.prog.info? 5).map (fun i => (i.zero, i.size, i.bytes)) = some (some (.int .u8 0), 1, 1) := by kernel_rfl
theorem byte_cell {x : Nat} (h : x < 256) : Value.int .u8 (x : Int) = .int .u8 ((UInt8.ofNat x).toNat : Int) := by
  rw [UInt8.toNat_ofNat', Nat.mod_eq_of_lt h]
theorem run_convert_bytes_empty (w : World) (a : Option Addr) (c : Nat) : (convert 34 9 (.slice a 0 c)).run Tryd.prog w = .ok (.string ⟨[].toArray⟩) w := by
  cases a with
  | none =>
    have := run_convert_bytes_string (P := Tryd.prog) w 34 9 5 none 0 c Tryd.underlying34 Tryd.underlying5 Tryd.underlying9
    rw [this]; rfl
  | some x => exact run_convert_bytes_back (P := Tryd.prog) w 34 9 5 x c [] Tryd.underlying34 Tryd.underlying5 Tryd.underlying9 (fun j hj => by simp at hj)
/-- One of the cells of a block that holds a literal. -/
theorem lit_pick {w : World} {base e g n q : Nat} {xs : List Value} {P : Value → Prop} (h : w.ownsRow base e 1 (.slice (some ⟨g, 0, none⟩) n n) n xs) (hq : q < n) (hP : ∀ v ∈ xs, P v) : ∃ v, w.cell? ⟨g, q, none⟩ = some v ∧ P v := by
  have hl := h.1
  have hv : xs[q]? = some (xs[q]'(by omega)) := List.getElem?_eq_getElem _
  exact ⟨_, (h.cellAt q (by omega)).trans hv, hP _ (List.mem_of_getElem? hv)⟩
set_option maxRecDepth 100000 in
set_option maxHeartbeats 2000000 in
theorem bytes_lit (g n m : Nat) (K : Int) (w : World) (h : Rdr w g n) (hK : (m : Int) = K) (hm1 : 1 ≤ m) (hm : m ≤ 100) :
    Calls Tryd.prog 100 #[.pointer (some ⟨g, 0, none⟩), .int .i64 K] w fun e w' => ∃ s : ByteArray, s.size ≤ m ∧ e = .returned (.string s) ∧ Drew w w' g n := by
  subst hK
  obtain ⟨i0, hi, hz0, hz1, hz2⟩ := info_parts infoByte
  have hO0 : (w.alloc (.cells #[] 5)).ownsRow w.heap.size 5 1 (.slice (some ⟨w.heap.size, 0, none⟩) 0 0) 0 (byC []) := World.ownsRow_lit (base := w.heap.size) (size := 1) w #[] 0 (Nat.le_refl _) (Nat.zero_le _) rfl
  have hD0 := (Drew.refl h).alloc (.cells #[] 5)
  have hg0 := h.lt
  go_enter Tryd.func100, Tryd.ntmps100
  go_wp2_with fail
  refine (below_lit g n (m + 1) _ _ hD0.rdr (by omega) (by omega) (by omega)).mono ?_
  rintro e w1 ⟨t, ht, rfl, hD1⟩
  have hO1 := hD1.own hO0 hg0
  have hD := hD0.trans hD1
  clear hO0 hD0 hD1
  go_wp2_with fail
  go_loopw [5, 6] (fun v i wr => ∃ (l : List UInt8) (a : Option Addr) (cc q : Nat), l.length + q ≤ m ∧ i = .int .i64 q ∧ v = .slice a l.length cc ∧ wr.ownsRow w.heap.size 5 1 (.slice a l.length cc) l.length (byC l) ∧ Drew w wr g n) (fun _ i _ => (intOf i).toNat)
  case atStart => exact ⟨[], _, 0, t, by simp; omega, rfl, rfl, hO1, hD⟩
  case round =>
    obtain ⟨l, a, cc, q, hl, rfl, rfl, hO, hDr⟩ := hrel
    clear hO1 hD
    by_cases hpos : 0 < q
    · go_wp2_with fail
      refine (below_lit g n 256 _ _ hDr.rdr (by omega) (by omega) (by omega)).mono ?_
      rintro e w2 ⟨x, hx, rfl, hD2⟩
      have hO2 := hD2.own hO hg0
      have hDa := hDr.trans hD2
      clear hO hDr hD2
      have hX : (w2.alloc (.cells #[.int .u8 0, .int .u8 1, .int .u8 97, .int .u8 98, .int .u8 255, .int .u8 (x : Int)] 5)).ownsRow w2.heap.size 5 1 (.slice (some ⟨w2.heap.size, 0, none⟩) 6 6) 6 [.int .u8 0, .int .u8 1, .int .u8 97, .int .u8 98, .int .u8 255, .int .u8 (x : Int)] := World.ownsRow_lit (base := w2.heap.size) (size := 1) w2 #[.int .u8 0, .int .u8 1, .int .u8 97, .int .u8 98, .int .u8 255, .int .u8 (x : Int)] 6 (Nat.le_refl _) (by decide) rfl
      have hDb := hDa.alloc (.cells #[.int .u8 0, .int .u8 1, .int .u8 97, .int .u8 98, .int .u8 255, .int .u8 (x : Int)] 5)
      have hOb := own_below hO2 (bl1 w2 (.cells #[.int .u8 0, .int .u8 1, .int .u8 97, .int .u8 98, .int .u8 255, .int .u8 (x : Int)] 5))
      have hs2 : w.heap.size ≤ w2.heap.size := hDa.size
      go_wp2_with fail
      refine (below_lit g n 6 _ _ hDb.rdr (by omega) (by omega) (by omega)).mono ?_
      rintro e w3 ⟨y, hy, rfl, hD3⟩
      have hX3 := hD3.own hX (by omega)
      have hO3 := hD3.own hOb hg0
      have hDc := hDb.trans hD3
      have hs3 : w.heap.size ≤ w3.heap.size := hDc.size
      obtain ⟨u, d0, z, hz, rfl⟩ := lit_pick (P := fun v => ∃ z : Nat, z < 256 ∧ v = .int .u8 (z : Int)) hX3 hy (by
        intro v hv
        simp only [List.mem_cons, List.not_mem_nil, or_false] at hv
        rcases hv with rfl | rfl | rfl | rfl | rfl | rfl
        · exact ⟨0, by omega, rfl⟩
        · exact ⟨1, by omega, rfl⟩
        · exact ⟨97, by omega, rfl⟩
        · exact ⟨98, by omega, rfl⟩
        · exact ⟨255, by omega, rfl⟩
        · exact ⟨x, hx, rfl⟩)
      clear hX hX3 hDb hOb hO2 hDa hD3
      have hDd := hDc.alloc (.cells #[.int .u8 (z : Int)] 5)
      go_wp2_with (at_builtin; refine wpList_append_own _ rfl _ _ 34 rfl w.heap.size 5 i0 (.int .u8 0) 1 1 Tryd.underlying34 hi hz0 hz1 hz2 rfl (by decide) _ _ _ rfl (hO3.alloc _) ⟨w3.heap.size, 0, none⟩ 1 1 [.int .u8 (z : Int)] rfl rfl ?c1 ?c2 ?c3 ?c4 ?c5 ?_)
      case c1 =>
        intro j u hj
        match j, hj with
        | 0, hj => simp at hj; subst hj; simp [Addr.add, go_sem]
      case c2 =>
        intro u hu
        simp at hu
        subst hu; rfl
      case c3 => unfold maxLen; omega
      case c4 => omega
      case c5 => simp; omega
      intro v' w4 hO4 hg4 _
      obtain ⟨a', cap', rfl⟩ := own_slice' hO4
      have hO5 : w4.ownsRow w.heap.size 5 1 (.slice a' (l ++ [UInt8.ofNat z]).length cap') (l ++ [UInt8.ofNat z]).length (byC (l ++ [UInt8.ofNat z])) := by
        rw [byte_cell hz] at hO4
        simpa [byC] using hO4
      have hD5 : Drew w w4 g n := hDd.grown hg0 hg4 (fun q e => (own_ge hO3 q e).1)
      have hll : (l ++ [UInt8.ofNat z]).length + (q - 1) ≤ m := by simp; omega
      have he : l.length + 1 = (l ++ [UInt8.ofNat z]).length := by simp
      have He := Lib.hid he
      clear hO4 hg4 hDd hDc hO3 d0 he
      rw [He.out]
      generalize l ++ [UInt8.ofNat z] = l2 at *
      go_wp2_with fail
      go_roundw
      case rel => exact ⟨l2, a', cap', q - 1, hll, by go_num, rfl, hO5, hD5⟩
      case measure => simp [intOf]; omega
    · have hcv : (convert 34 9 (.slice a l.length cc)).run Tryd.prog wr = .ok (.string ⟨l.toArray⟩) wr := by
        cases l with
        | nil =>
          exact run_convert_bytes_empty wr a cc
        | cons x l =>
          obtain ⟨b, rfl, _, _⟩ := own_form hO (by simp)
          exact run_convert_bytes_back (P := Tryd.prog) wr 34 9 5 ⟨b, 0, none⟩ cc (x :: l) Tryd.underlying34 Tryd.underlying5 Tryd.underlying9 (fun j hj => by
            rw [addr_add3, Nat.zero_add, hO.cellAt j (by simpa using hj)]
            rw [byC, List.getElem?_map, List.getElem?_eq_getElem hj]; rfl)
      have hsz : (⟨l.toArray⟩ : ByteArray).size ≤ m := by simp [ByteArray.size]; omega
      generalize (⟨l.toArray⟩ : ByteArray) = s at *
      have hq0 : decide (0 < q) = false := by simp; omega
      clear hO
      go_wp2_with fail
      go_ret
      exact ⟨s, hsz, rfl, hDr⟩
set_option maxRecDepth 100000 in
set_option maxHeartbeats 2000000 in
theorem key_any (g n : Nat) (w : World) (h : Rdr w g n) :
    Calls Tryd.prog 99 #[.pointer (some ⟨g, 0, none⟩)] w fun e w' => ∃ s : ByteArray, s.size ≤ 5 ∧ e = .returned (.string s) ∧ Drew w w' g n := by
  have hg0 := h.lt
  go_enter Tryd.func99, Tryd.ntmps99
  go_wp2_with fail
  refine (once_lit g n 12 _ _ h (by omega) (by omega) (by omega)).mono ?_
  rintro e w1 ⟨b, rfl, hD1⟩
  cases b
  · have hX : (w1.alloc (.cells #[.string ⟨#[]⟩, .string ⟨#[97]⟩, .string ⟨#[98]⟩, .string ⟨#[97, 98]⟩, .string ⟨#[99]⟩, .string ⟨#[107, 101, 121]⟩] 9)).ownsRow w1.heap.size 9 1 (.slice (some ⟨w1.heap.size, 0, none⟩) 6 6) 6 [.string ⟨#[]⟩, .string ⟨#[97]⟩, .string ⟨#[98]⟩, .string ⟨#[97, 98]⟩, .string ⟨#[99]⟩, .string ⟨#[107, 101, 121]⟩] := World.ownsRow_lit (base := w1.heap.size) (size := 1) w1 #[.string ⟨#[]⟩, .string ⟨#[97]⟩, .string ⟨#[98]⟩, .string ⟨#[97, 98]⟩, .string ⟨#[99]⟩, .string ⟨#[107, 101, 121]⟩] 6 (Nat.le_refl _) (by decide) rfl
    have hD2 := hD1.alloc (.cells #[.string ⟨#[]⟩, .string ⟨#[97]⟩, .string ⟨#[98]⟩, .string ⟨#[97, 98]⟩, .string ⟨#[99]⟩, .string ⟨#[107, 101, 121]⟩] 9)
    have hs1 := hD1.size
    go_wp2_with fail
    refine (below_lit g n 6 _ _ hD2.rdr (by omega) (by omega) (by omega)).mono ?_
    rintro e w3 ⟨y, hy, rfl, hD3⟩
    have hX3 := hD3.own hX (by omega)
    have hDc := hD2.trans hD3
    obtain ⟨u, d0, s, hs, rfl⟩ := lit_pick (P := fun v => ∃ s : ByteArray, s.size ≤ 5 ∧ v = .string s) hX3 hy (by
      intro v hv
      simp only [List.mem_cons, List.not_mem_nil, or_false] at hv
      rcases hv with rfl | rfl | rfl | rfl | rfl | rfl
      all_goals exact ⟨_, by decide, rfl⟩)
    clear hX hX3 hD2 hD3
    go_wp2_with fail
    go_ret
    exact ⟨s, hs, rfl, hDc⟩
  · go_wp2_with fail
    refine (bytes_lit g n 5 _ _ hD1.rdr (by omega) (by omega) (by omega)).mono ?_
    rintro e w2 ⟨s, hs, rfl, hD2⟩
    have hD := hD1.trans hD2
    go_wp2_with fail
    go_ret
    exact ⟨s, hs, rfl, hD⟩
end Go.Proofs.YtallcholbbfkdaaDoor

namespace Go.Proofs.YtallcholbbfkdaaDoor
open Go.RowKit

theorem or_u64_bd (a : Int) (x : Nat) (hx : x < 256) : 0 ≤ bits .or .u64 (IntKind.u64.wrap a) (x : Int) ∧ bits .or .u64 (IntKind.u64.wrap a) (x : Int) < 18446744073709551616 := by
  have hw : IntKind.u64.wrap a = a % 18446744073709551616 := rfl
  have h1 : 0 ≤ IntKind.u64.wrap a ∧ IntKind.u64.wrap a < 18446744073709551616 := by rw [hw]; omega
  rw [u64_or _ _ h1.1 h1.2 (by omega) (by omega)]
  have h2 : (IntKind.u64.wrap a).toNat ||| ((x : Int)).toNat < 2 ^ 64 := Nat.or_lt_two_pow (by omega) (by omega)
  omega
set_option maxRecDepth 100000 in
set_option maxHeartbeats 2000000 in
theorem word_any (g n : Nat) (w : World) (h : Rdr w g n) :
    Calls Tryd.prog 101 #[.pointer (some ⟨g, 0, none⟩)] w fun e w' => ∃ z : Int, 0 ≤ z ∧ z < 18446744073709551616 ∧ e = .returned (.int .u64 z) ∧ Drew w w' g n := by
  go_enter Tryd.func101, Tryd.ntmps101
  go_wp2
  go_loopw [3, 4] (fun x i wr => ∃ (z : Int) (k : Nat), 0 ≤ z ∧ z < 18446744073709551616 ∧ x = .int .u64 z ∧ k ≤ 8 ∧ i = .int .i64 k ∧ Drew w wr g n) (fun _ i _ => 8 - (intOf i).toNat)
  case atStart => exact ⟨0, 0, by omega, by omega, rfl, by omega, rfl, Drew.refl h⟩
  case round =>
    obtain ⟨z, k, hz0, hz1, rfl, hk, rfl, hD⟩ := hrel
    by_cases hlt : k < 8
    · go_wp2_with fail
      refine (next_any g n _ hD.rdr).mono ?_
      rintro e w1 ⟨x, hx, rfl, hD1⟩
      have hD2 := hD.trans hD1
      clear hD hD1
      go_wp2_with fail
      go_roundw
      case rel => exact ⟨_, k + 1, (or_u64_bd (z * 256) x hx).1, (or_u64_bd (z * 256) x hx).2, rfl, by omega, by go_num, hD2⟩
      case measure => simp [intOf]; omega
    · go_wp2_with fail
      go_ret
      exact ⟨z, hz0, hz1, rfl, hD⟩
theorem int_wf {z : Int} (h0 : -9223372036854775808 ≤ z) (h1 : z ≤ 9223372036854775807) : (Lit.int .i64 z).wf = true := by
  have := wrap64_wf z
  rwa [IntWalk.wrap64_in z ⟨h0, h1⟩] at this
theorem wrap64_bd (n : Int) : -9223372036854775808 ≤ wrap64 n ∧ wrap64 n ≤ 9223372036854775807 := by unfold wrap64; omega
set_option maxRecDepth 100000 in
set_option maxHeartbeats 2000000 in
theorem near_any (g n : Nat) (lo hi : Int) (w : World) (h : Rdr w g n) (h1 : -1000 ≤ lo) (h2 : lo ≤ hi) (h3 : hi ≤ 1000) :
    Calls Tryd.prog 73 #[.pointer (some ⟨g, 0, none⟩), .int .i64 lo, .int .i64 hi] w fun e w' => ∃ z : Int, -9223372036854775808 ≤ z ∧ z ≤ 9223372036854775807 ∧ e = .returned (.int .i64 z) ∧ Drew w w' g n := by
  go_enter Tryd.func73, Tryd.ntmps73
  go_wp2_with fail
  refine (below_lit g n 8 _ _ h (by omega) (by omega) (by omega)).mono ?_
  rintro e w1 ⟨x, hx, rfl, hD1⟩
  by_cases h0 : x = 0
  · subst h0
    go_wp2_with fail
    go_ret
    exact ⟨lo, by omega, by omega, rfl, hD1⟩
  by_cases h0' : x = 1
  · subst h0'
    go_wp2_with fail
    go_ret
    exact ⟨hi, by omega, by omega, rfl, hD1⟩
  have b0 : ((x : Int) == 0) = false := by rw [beq_eq_false_iff_ne]; omega
  have b1 : ((x : Int) == 1) = false := by rw [beq_eq_false_iff_ne]; omega
  go_wp2_with fail
  refine (word_any g n _ hD1.rdr).mono ?_
  rintro e w2 ⟨z, hz0, hz1, rfl, hD2⟩
  have hD := hD1.trans hD2
  go_wp2_with fail
  go_ret
  exact ⟨_, (wrap64_bd _).1, (wrap64_bd _).2, rfl, hD⟩
set_option maxRecDepth 100000 in
set_option maxHeartbeats 2000000 in
theorem off_any (g n : Nat) (lo hi : Int) (w : World) (h : Rdr w g n) (h1 : -1000 ≤ lo) (h2 : lo ≤ hi) (h3 : hi ≤ 1000) :
    Calls Tryd.prog 49 #[.pointer (some ⟨g, 0, none⟩), .int .i64 lo, .int .i64 hi] w fun e w' => ∃ z : Int, -9223372036854775808 ≤ z ∧ z ≤ 9223372036854775807 ∧ e = .returned (.int .i64 z) ∧ Drew w w' g n := by
  have hg0 := h.lt
  go_enter Tryd.func49, Tryd.ntmps49
  go_wp2_with fail
  refine (once_lit g n 24 _ _ h (by omega) (by omega) (by omega)).mono ?_
  rintro e w1 ⟨b, rfl, hD1⟩
  cases b
  · go_wp2_with fail
    refine (near_any g n lo hi _ hD1.rdr h1 h2 h3).mono ?_
    rintro e w2 ⟨z, hz0, hz1, rfl, hD2⟩
    have hD := hD1.trans hD2
    go_wp2_with fail
    go_ret
    exact ⟨z, hz0, hz1, rfl, hD⟩
  · have hX : (w1.alloc (.cells #[.int .i64 (lo - 1), .int .i64 (hi + 1), .int .i64 (-9223372036854775808), .int .i64 9223372036854775807] 2)).ownsRow w1.heap.size 2 1 (.slice (some ⟨w1.heap.size, 0, none⟩) 4 4) 4 [.int .i64 (lo - 1), .int .i64 (hi + 1), .int .i64 (-9223372036854775808), .int .i64 9223372036854775807] := World.ownsRow_lit (base := w1.heap.size) (size := 1) w1 #[.int .i64 (lo - 1), .int .i64 (hi + 1), .int .i64 (-9223372036854775808), .int .i64 9223372036854775807] 4 (Nat.le_refl _) (by decide) rfl
    have hD2 := hD1.alloc (.cells #[.int .i64 (lo - 1), .int .i64 (hi + 1), .int .i64 (-9223372036854775808), .int .i64 9223372036854775807] 2)
    have hs1 := hD1.size
    go_wp2_with fail
    refine (below_lit g n 4 _ _ hD2.rdr (by omega) (by omega) (by omega)).mono ?_
    rintro e w3 ⟨y, hy, rfl, hD3⟩
    have hX3 := hD3.own hX (by omega)
    have hDc := hD2.trans hD3
    obtain ⟨u, d0, z, hz0, hz1, rfl⟩ := lit_pick (P := fun v => ∃ z : Int, -9223372036854775808 ≤ z ∧ z ≤ 9223372036854775807 ∧ v = .int .i64 z) hX3 hy (by
      intro v hv
      simp only [List.mem_cons, List.not_mem_nil, or_false] at hv
      rcases hv with rfl | rfl | rfl | rfl
      all_goals exact ⟨_, by omega, by omega, rfl⟩)
    clear hX hX3 hD2 hD3
    go_wp2_with fail
    go_ret
    exact ⟨z, hz0, hz1, rfl, hDc⟩
set_option maxRecDepth 100000 in
set_option maxHeartbeats 4000000 in
theorem row_small (g n : Nat) (w : World) (h : Rdr w g n) :
    Calls Tryd.prog 71 #[.pointer (some ⟨g, 0, none⟩)] w fun e w' => ∃ r : RowV, (r.Ok ∧ r.key.size ≤ 5 ∧ r.val.size ≤ 14) ∧ e = .returned (.agg #[.string r.key, .int .i64 r.tag, .string r.val]) ∧ Drew w w' g n := by
  have hg0 := h.lt
  have hY0 : (w.alloc (.cells #[.string ⟨#[]⟩, .int .i64 0, .string ⟨#[]⟩] 68)).ownsRow w.heap.size 68 3 (.slice (some ⟨w.heap.size, 0, none⟩) 1 1) 1 [.string ⟨#[]⟩, .int .i64 0, .string ⟨#[]⟩] := World.ownsRow_lit (base := w.heap.size) (size := 3) w #[.string ⟨#[]⟩, .int .i64 0, .string ⟨#[]⟩] 1 (Nat.le_refl _) (by decide) rfl
  have hD0 := (Drew.refl h).alloc (.cells #[.string ⟨#[]⟩, .int .i64 0, .string ⟨#[]⟩] 68)
  have hs0 : w.heap.size < (w.alloc (.cells #[.string ⟨#[]⟩, .int .i64 0, .string ⟨#[]⟩] 68)).heap.size := by simp
  go_enter Tryd.func71, Tryd.ntmps71
  go_wp2_with fail
  refine (key_any g n _ hD0.rdr).mono ?_
  rintro e w1 ⟨k, hk, rfl, hD1⟩
  have hY1 := hD1.own hY0 hg0
  have hDa := hD0.trans hD1
  have hs1 := Nat.lt_of_lt_of_le hs0 hD1.size
  clear hY0 hD0 hD1 hs0
  go_wp2_with fail
  refine (below_lit g n 3 _ _ hDa.rdr (by omega) (by omega) (by omega)).mono ?_
  rintro e w2 ⟨t, ht, rfl, hD2⟩
  have hY2 := hD2.own hY1 hg0
  have hDb := hDa.trans hD2
  have hs2 := Nat.lt_of_lt_of_le hs1 hD2.size
  clear hY1 hDa hD2 hs1
  have hX : (w2.alloc (.cells #[.string ⟨#[]⟩, .string ⟨#[49]⟩, .string ⟨#[50]⟩, .string ⟨#[49, 48]⟩, .string ⟨#[55]⟩, .string ⟨#[120]⟩] 9)).ownsRow w2.heap.size 9 1 (.slice (some ⟨w2.heap.size, 0, none⟩) 6 6) 6 [.string ⟨#[]⟩, .string ⟨#[49]⟩, .string ⟨#[50]⟩, .string ⟨#[49, 48]⟩, .string ⟨#[55]⟩, .string ⟨#[120]⟩] := World.ownsRow_lit (base := w2.heap.size) (size := 1) w2 #[.string ⟨#[]⟩, .string ⟨#[49]⟩, .string ⟨#[50]⟩, .string ⟨#[49, 48]⟩, .string ⟨#[55]⟩, .string ⟨#[120]⟩] 6 (Nat.le_refl _) (by decide) rfl
  have hDc := hDb.alloc (.cells #[.string ⟨#[]⟩, .string ⟨#[49]⟩, .string ⟨#[50]⟩, .string ⟨#[49, 48]⟩, .string ⟨#[55]⟩, .string ⟨#[120]⟩] 9)
  have hYc := own_below hY2 (bl1 w2 (.cells #[.string ⟨#[]⟩, .string ⟨#[49]⟩, .string ⟨#[50]⟩, .string ⟨#[49, 48]⟩, .string ⟨#[55]⟩, .string ⟨#[120]⟩] 9))
  go_wp2_with fail
  refine (below_lit g n 6 _ _ hDc.rdr (by omega) (by omega) (by omega)).mono ?_
  rintro e w3 ⟨y, hy, rfl, hD3⟩
  have hX3 := hD3.own hX (by omega)
  have hY3 := hD3.own hYc hg0
  have hDd := hDc.trans hD3
  obtain ⟨u, d0, s, hs, rfl⟩ := lit_pick (P := fun v => ∃ s : ByteArray, s.size ≤ 5 ∧ v = .string s) hX3 hy (by
    intro v hv
    simp only [List.mem_cons, List.not_mem_nil, or_false] at hv
    rcases hv with rfl | rfl | rfl | rfl | rfl | rfl
    all_goals exact ⟨_, by decide, rfl⟩)
  have hs3 : w.heap.size < w3.heap.size := (own_ge hY3 w.heap.size rfl).2
  clear hX hX3 hDc hD3 hYc hY2 hDb hs2
  have hZ : (w3.alloc (.cells #[.string k, .int .i64 (t : Int), .string s] 68)).ownsRow w3.heap.size 68 3 (.slice (some ⟨w3.heap.size, 0, none⟩) 1 1) 1 [.string k, .int .i64 (t : Int), .string s] := World.ownsRow_lit (base := w3.heap.size) (size := 3) w3 #[.string k, .int .i64 (t : Int), .string s] 1 (Nat.le_refl _) (by decide) rfl
  have hDe := hDd.alloc (.cells #[.string k, .int .i64 (t : Int), .string s] 68)
  have hYe := own_below hY3 (bl1 w3 (.cells #[.string k, .int .i64 (t : Int), .string s] 68))
  go_wp2_with fail
  refine (below_lit g n 80 _ _ hDe.rdr (by omega) (by omega) (by omega)).mono ?_
  rintro e w4 ⟨x, hx, rfl, hD4⟩
  have hZ4 := hD4.own hZ (by omega)
  have hY4 := hD4.own hYe hg0
  have hDf := hDe.trans hD4
  have hw3 : w.heap.size ≤ w3.heap.size := Nat.le_of_lt hs3
  generalize w3.heap.size = B3 at *
  clear hZ hDe hD4 hYe hY3 hDd d0
  by_cases hc1 : x = 78
  · subst hc1
    go_wp2_with fail
    refine (off_any g n 0 3 _ hDf.rdr (by omega) (by omega) (by omega)).mono ?_
    rintro e w5 ⟨z, hz0, hz1, rfl, hD5⟩
    have hZ5 := hD5.own hZ4 (by omega)
    have hY5 := hD5.own hY4 hg0
    have hDf' := hDf.trans hD5
    clear hZ4 hY4 hDf hD5
    have t1 : w5.cell? ⟨B3, 1, none⟩ = some (.int .i64 (t : Int)) := hZ5.cellAt 1 (by omega)
    have tf := hZ5.frozenAt 1
    have hZf : (w5.setCell ⟨B3, 1, none⟩ (.int .i64 z)).ownsRow B3 68 3 (.slice (some ⟨B3, 0, none⟩) 1 1) 1 [.string k, .int .i64 z, .string s] := (hZ5.stored 1 (.int .i64 z)).1
    have hYf : (w5.setCell ⟨B3, 1, none⟩ (.int .i64 z)).ownsRow w.heap.size 68 3 (.slice (some ⟨w.heap.size, 0, none⟩) 1 1) 1 [.string ⟨#[]⟩, .int .i64 0, .string ⟨#[]⟩] := hY5.kept (gb_store (World.grownBy.refl w5 (some B3)) 1 (.int .i64 z)) (.inr (fun e => by injection e with e; simp at e; omega))
    have hDf := hDf'.set hg0 hw3 (o := 1) (.int .i64 z)
    clear hDf' hZ5 hY5
    have e0 : (w5.setCell ⟨B3, 1, none⟩ (.int .i64 z)).cell? ⟨B3, 0, none⟩ = some (.string k) := hZf.cellAt 0 (by omega)
    have e1 : (w5.setCell ⟨B3, 1, none⟩ (.int .i64 z)).cell? ⟨B3, 1, none⟩ = some (.int .i64 z) := hZf.cellAt 1 (by omega)
    have e2 : (w5.setCell ⟨B3, 1, none⟩ (.int .i64 z)).cell? ⟨B3, 2, none⟩ = some (.string s) := hZf.cellAt 2 (by omega)
    have y0 : (w5.setCell ⟨B3, 1, none⟩ (.int .i64 z)).cell? ⟨w.heap.size, 0, none⟩ = some (.string ⟨#[]⟩) := hYf.cellAt 0 (by omega)
    have y1 : (w5.setCell ⟨B3, 1, none⟩ (.int .i64 z)).cell? ⟨w.heap.size, 1, none⟩ = some (.int .i64 0) := hYf.cellAt 1 (by omega)
    have y2 : (w5.setCell ⟨B3, 1, none⟩ (.int .i64 z)).cell? ⟨w.heap.size, 2, none⟩ = some (.string ⟨#[]⟩) := hYf.cellAt 2 (by omega)
    have q0 := hYf.frozenAt 0
    have q1 := hYf.frozenAt 1
    have q2 := hYf.frozenAt 2
    have hDg := ((hDf.set hg0 (Nat.le_refl _) (o := 0) (.string k)).set hg0 (Nat.le_refl _) (o := 1) (.int .i64 z)).set hg0 (Nat.le_refl _) (o := 2) (.string s)
    clear hZf hYf hDf
    go_wp2_with fail
    exact bodyPost_ret (v := .agg #[.string k, .int .i64 z, .string s]) (by simp [results, Tryd.results71, go_sem, y0, y1, y2]) rfl ⟨⟨k, z, s⟩, ⟨⟨by unfold maxLen; simp only; omega, int_wf hz0 hz1, by unfold maxLen; simp only; omega⟩, by simp only; omega, by simp only; omega⟩, rfl, hDg⟩
  have b78 : ((x : Int) == 78) = false := by rw [beq_eq_false_iff_ne]; omega
  by_cases hc2 : x = 79
  · subst hc2
    go_wp2_with fail
    refine (bytes_lit g n 14 _ _ hDf.rdr (by omega) (by omega) (by omega)).mono ?_
    rintro e w5 ⟨z, hz, rfl, hD5⟩
    have hZ5 := hD5.own hZ4 (by omega)
    have hY5 := hD5.own hY4 hg0
    have hDf' := hDf.trans hD5
    clear hZ4 hY4 hDf hD5
    have t1 : w5.cell? ⟨B3, 2, none⟩ = some (.string s) := hZ5.cellAt 2 (by omega)
    have tf := hZ5.frozenAt 2
    have hZf : (w5.setCell ⟨B3, 2, none⟩ (.string z)).ownsRow B3 68 3 (.slice (some ⟨B3, 0, none⟩) 1 1) 1 [.string k, .int .i64 (t : Int), .string z] := (hZ5.stored 2 (.string z)).1
    have hYf : (w5.setCell ⟨B3, 2, none⟩ (.string z)).ownsRow w.heap.size 68 3 (.slice (some ⟨w.heap.size, 0, none⟩) 1 1) 1 [.string ⟨#[]⟩, .int .i64 0, .string ⟨#[]⟩] := hY5.kept (gb_store (World.grownBy.refl w5 (some B3)) 2 (.string z)) (.inr (fun e => by injection e with e; simp at e; omega))
    have hDf := hDf'.set hg0 hw3 (o := 2) (.string z)
    clear hDf' hZ5 hY5
    have e0 : (w5.setCell ⟨B3, 2, none⟩ (.string z)).cell? ⟨B3, 0, none⟩ = some (.string k) := hZf.cellAt 0 (by omega)
    have e1 : (w5.setCell ⟨B3, 2, none⟩ (.string z)).cell? ⟨B3, 1, none⟩ = some (.int .i64 (t : Int)) := hZf.cellAt 1 (by omega)
    have e2 : (w5.setCell ⟨B3, 2, none⟩ (.string z)).cell? ⟨B3, 2, none⟩ = some (.string z) := hZf.cellAt 2 (by omega)
    have y0 : (w5.setCell ⟨B3, 2, none⟩ (.string z)).cell? ⟨w.heap.size, 0, none⟩ = some (.string ⟨#[]⟩) := hYf.cellAt 0 (by omega)
    have y1 : (w5.setCell ⟨B3, 2, none⟩ (.string z)).cell? ⟨w.heap.size, 1, none⟩ = some (.int .i64 0) := hYf.cellAt 1 (by omega)
    have y2 : (w5.setCell ⟨B3, 2, none⟩ (.string z)).cell? ⟨w.heap.size, 2, none⟩ = some (.string ⟨#[]⟩) := hYf.cellAt 2 (by omega)
    have q0 := hYf.frozenAt 0
    have q1 := hYf.frozenAt 1
    have q2 := hYf.frozenAt 2
    have hDg := ((hDf.set hg0 (Nat.le_refl _) (o := 0) (.string k)).set hg0 (Nat.le_refl _) (o := 1) (.int .i64 (t : Int))).set hg0 (Nat.le_refl _) (o := 2) (.string z)
    clear hZf hYf hDf
    go_wp2_with fail
    exact bodyPost_ret (v := .agg #[.string k, .int .i64 (t : Int), .string z]) (by simp [results, Tryd.results71, go_sem, y0, y1, y2]) rfl ⟨⟨k, (t : Int), z⟩, ⟨⟨by unfold maxLen; simp only; omega, int_wf (by simp only; omega) (by simp only; omega), by unfold maxLen; simp only; omega⟩, by simp only; omega, by simp only; omega⟩, rfl, hDg⟩
  have b79 : ((x : Int) == 79) = false := by rw [beq_eq_false_iff_ne]; omega
  have hZf := hZ4
  have hYf := hY4
  clear hZ4 hY4
  have e0 : w4.cell? ⟨B3, 0, none⟩ = some (.string k) := hZf.cellAt 0 (by omega)
  have e1 : w4.cell? ⟨B3, 1, none⟩ = some (.int .i64 (t : Int)) := hZf.cellAt 1 (by omega)
  have e2 : w4.cell? ⟨B3, 2, none⟩ = some (.string s) := hZf.cellAt 2 (by omega)
  have y0 : w4.cell? ⟨w.heap.size, 0, none⟩ = some (.string ⟨#[]⟩) := hYf.cellAt 0 (by omega)
  have y1 : w4.cell? ⟨w.heap.size, 1, none⟩ = some (.int .i64 0) := hYf.cellAt 1 (by omega)
  have y2 : w4.cell? ⟨w.heap.size, 2, none⟩ = some (.string ⟨#[]⟩) := hYf.cellAt 2 (by omega)
  have q0 := hYf.frozenAt 0
  have q1 := hYf.frozenAt 1
  have q2 := hYf.frozenAt 2
  have hDg := ((hDf.set hg0 (Nat.le_refl _) (o := 0) (.string k)).set hg0 (Nat.le_refl _) (o := 1) (.int .i64 (t : Int))).set hg0 (Nat.le_refl _) (o := 2) (.string s)
  clear hZf hYf hDf
  go_wp2_with fail
  exact bodyPost_ret (v := .agg #[.string k, .int .i64 (t : Int), .string s]) (by simp [results, Tryd.results71, go_sem, y0, y1, y2]) rfl ⟨⟨k, (t : Int), s⟩, ⟨⟨by unfold maxLen; simp only; omega, int_wf (by simp only; omega) (by simp only; omega), by unfold maxLen; simp only; omega⟩, by simp only; omega, by simp only; omega⟩, rfl, hDg⟩
theorem row_any (g n : Nat) (w : World) (h : Rdr w g n) :
    Calls Tryd.prog 71 #[.pointer (some ⟨g, 0, none⟩)] w fun e w' => ∃ r : RowV, r.Ok ∧ e = .returned (.agg #[.string r.key, .int .i64 r.tag, .string r.val]) ∧ Drew w w' g n :=
  (row_small g n w h).mono fun _ _ ⟨r, hr, he, hD⟩ => ⟨r, hr.1, he, hD⟩
set_option maxRecDepth 100000 in
set_option maxHeartbeats 2000000 in
theorem rows_lit (g n m : Nat) (K : Int) (w : World) (h : Rdr w g n) (hK : (m : Int) = K) (hm1 : 1 ≤ m) (hm : m ≤ 100) :
    Calls Tryd.prog 48 #[.pointer (some ⟨g, 0, none⟩), .int .i64 K] w fun e w' => ∃ (l : List RowV) (b c : Nat), l.length ≤ m ∧ (∀ r ∈ l, r.Ok) ∧ e = .returned (.slice (some ⟨b, 0, none⟩) l.length c) ∧ w'.ownsRow w.heap.size 68 3 (.slice (some ⟨b, 0, none⟩) l.length c) l.length (flat l) ∧ Drew w w' g n := by
  subst hK
  obtain ⟨i0, hi, hz0, hz1, hz2⟩ := info_parts infoRow
  have hO0 : (w.alloc (.cells #[] 68)).ownsRow w.heap.size 68 3 (.slice (some ⟨w.heap.size, 0, none⟩) 0 0) 0 (flat []) := World.ownsRow_lit (base := w.heap.size) (size := 3) w #[] 0 (Nat.le_refl _) (Nat.zero_le _) rfl
  have hD0 := (Drew.refl h).alloc (.cells #[] 68)
  have hg0 := h.lt
  go_enter Tryd.func48, Tryd.ntmps48
  go_wp2_with fail
  refine (below_lit g n (m + 1) _ _ hD0.rdr (by omega) (by omega) (by omega)).mono ?_
  rintro e w1 ⟨t, ht, rfl, hD1⟩
  have hO1 := hD1.own hO0 hg0
  have hD := hD0.trans hD1
  clear hO0 hD0 hD1
  go_wp2_with fail
  go_loopw [5, 6] (fun v i wr => ∃ (l : List RowV) (b cc q : Nat), l.length + q ≤ m ∧ i = .int .i64 q ∧ v = .slice (some ⟨b, 0, none⟩) l.length cc ∧ Hid (∀ r ∈ l, r.Ok) ∧ wr.ownsRow w.heap.size 68 3 (.slice (some ⟨b, 0, none⟩) l.length cc) l.length (flat l) ∧ Drew w wr g n) (fun _ i _ => (intOf i).toNat)
  case atStart => exact ⟨[], _, 0, t, by simp; omega, rfl, rfl, Lib.hid (by simp), hO1, hD⟩
  case round =>
    obtain ⟨l, b, cc, q, hl, rfl, rfl, Hok, hO, hDr⟩ := hrel
    clear hO1 hD
    by_cases hpos : 0 < q
    · go_wp2_with fail
      refine (row_any g n _ hDr.rdr).mono ?_
      rintro e w2 ⟨r, hr, rfl, hD2⟩
      have hO2 := hD2.own hO hg0
      have hDa := hDr.trans hD2
      have hs2 : w.heap.size ≤ w2.heap.size := hDa.size
      have hDd := hDa.alloc (.cells #[.string r.key, .int .i64 r.tag, .string r.val] 68)
      clear hO hDr hD2
      go_wp2_with (at_builtin; refine wpList_append_own _ rfl _ _ 27 rfl w.heap.size 68 i0 (.agg #[.string ⟨#[]⟩, .int .i64 0, .string ⟨#[]⟩]) 3 40 Tryd.underlying27 hi hz0 hz1 hz2 rfl (by decide) _ _ _ rfl (hO2.alloc _) ⟨w2.heap.size, 0, none⟩ 1 1 [.string r.key, .int .i64 r.tag, .string r.val] rfl rfl ?c1 ?c2 ?c3 ?c4 ?c5 ?_)
      case c1 =>
        intro j u hj
        match j, hj with
        | 0, hj => simp at hj; subst hj; simp [Addr.add, go_sem]
        | 1, hj => simp at hj; subst hj; simp [Addr.add, go_sem]
        | 2, hj => simp at hj; subst hj; simp [Addr.add, go_sem]
      case c2 =>
        intro u hu
        simp at hu
        rcases hu with rfl | rfl | rfl <;> rfl
      case c3 => unfold maxLen; omega
      case c4 => omega
      case c5 => simp; omega
      intro v' w4 hO4 hg4 _
      obtain ⟨a', cap', rfl⟩ := own_slice' hO4
      obtain ⟨b', rfl, _, _⟩ := own_form hO4 (by omega)
      have hO5 : w4.ownsRow w.heap.size 68 3 (.slice (some ⟨b', 0, none⟩) (l ++ [r]).length cap') (l ++ [r]).length (flat (l ++ [r])) := by
        rw [flat_append]; simpa [flat, RowV.cells] using hO4
      have hD5 : Drew w w4 g n := hDd.grown hg0 hg4 (fun q e => (own_ge hO2 q e).1)
      have hll : (l ++ [r]).length + (q - 1) ≤ m := by simp; omega
      have He := Lib.hid (show l.length + 1 = (l ++ [r]).length by simp)
      have Hok2 := Lib.hid (show ∀ x ∈ l ++ [r], x.Ok from fun x hx => by
        rcases List.mem_append.1 hx with hx | hx
        · exact Hok.out x hx
        · rw [List.mem_singleton.1 hx]; exact hr)
      clear hO4 hg4 hDd hDa hO2
      rw [He.out]
      generalize l ++ [r] = l2 at *
      go_wp2_with fail
      go_roundw
      case rel => exact ⟨l2, b', cap', q - 1, hll, by go_num, rfl, Hok2, hO5, hD5⟩
      case measure => simp [intOf]; omega
    · have hq0 : decide (0 < q) = false := by simp; omega
      go_wp2_with fail
      go_ret
      exact ⟨l, b, cc, by omega, Hok.out, rfl, hO, hDr⟩
theorem below_drew {w w1 w2 : World} {n : Nat} (hb : Below w.heap.size w w1) (hD : Drew w1 w2 w.heap.size n) : Below w.heap.size w w2 := hb.trans (gb_below hD.2 hb.size (fun _ e => Nat.le_of_eq (Option.some.inj e)))
/-- What a law is handed: a code; it is read alone. -/
def IsCode (w : World) (a : Option Addr) (len cap : Nat) (xs : List Value) : Prop := len ≤ cap ∧ cap ≤ maxLen ∧ Rd w w.heap.size 1 a len xs ∧ ∀ v ∈ xs, ∃ x : Nat, x < 256 ∧ v = .int .u8 x
theorem IsCode.by_ {w : World} {a : Option Addr} {len cap : Nat} {xs : List Value} (h : IsCode w a len cap xs) : IsBy w w.heap.size a len := ⟨xs, h.2.2⟩
end Go.Proofs.YtallcholbbfkdaaDoor

namespace Go.Proofs.YtallcholbbfkdaaDoor
open Go.ChangeShapes Go.WideShapes Go.ChangeAt Go.RowKit Go.Joins Go.Deep
section
variable {H : Type} {enc : TypeId × Value → H} {W : World} {base : Nat}
theorem cellsByte : Tryd.prog.cellsOf 5 = 1 := by kernel_rfl
theorem u8_wf {z : Int} (h : (Lit.int .u8 z).wf = true) : ∃ x : Nat, x < 256 ∧ z = x := by
  have h1 : IntKind.u8.min ≤ z ∧ z ≤ IntKind.u8.max := by simpa [Lit.wf] using h
  have e0 : IntKind.u8.min = 0 := rfl
  have e1 : IntKind.u8.max = 255 := rfl
  rw [e0, e1] at h1
  exact ⟨z.toNat, by omega, by omega⟩
set_option maxRecDepth 100000 in
theorem open_Bytes {v : Value} {d : DataW H} {p : List MemPlace} (hv : Value.okWide Tryd.prog W .any base 34 v) (h : DataW.Trod enc Tryd.prog W 0 (fun _ => true) true 34 v d p) :
    ∃ a len cap xs, v = .slice a len cap ∧ IsCode W a len cap xs := by
  obtain ⟨a, len, cap, rfl⟩ := okWide_slice Tryd.underlying34 hv
  obtain ⟨fuel, hf⟩ := h
  rcases open_ints Tryd.underlying34 Tryd.underlying5 cellsByte hf with ⟨hcs, _⟩ | ⟨x, l, c, zs, hcs, _, hl, hm, hz, _, hcell, hws⟩
  · simp [Value.cells] at hcs
    obtain ⟨rfl, rfl, rfl⟩ := hcs
    exact ⟨none, 0, 0, [], rfl, Nat.le_refl _, Nat.zero_le _, ⟨by simp, fun h => absurd h (by omega)⟩, by simp⟩
  · simp [Value.cells] at hcs
    obtain ⟨rfl, rfl, rfl⟩ := hcs
    simp only [if_true] at hz
    refine ⟨_, _, _, (zs.take len).map fun z => .int .u8 z, rfl, hl, hm, ⟨by simp; omega, fun hn => ?_⟩, fun v hv => ?_⟩
    · have h0 := hcell 0 (by omega)
      have hsp : x.spot = none := by
        have := World.cell?_spot h0
        obtain ⟨b, o, s⟩ := x
        simpa [Addr.add] using this
      rw [addr_add x hsp] at h0
      refine ⟨x.block, x.off, ?_, lt_of_cell h0, fun j u hu => ?_⟩
      · obtain ⟨b, o, s⟩ := x
        simp only at hsp
        subst hsp
        rfl
      · have hj : j < len := by
          have := (List.getElem?_eq_some_iff.1 hu).1
          simp at this; omega
        have hc := hcell j (by omega)
        rw [addr_add x hsp] at hc
        rw [hc, ← hu]
        simp [hj, List.getD, List.getElem?_eq_getElem (show j < zs.length by omega)]
    · obtain ⟨z, hz', rfl⟩ := List.mem_map.1 hv
      obtain ⟨x, hx, rfl⟩ := u8_wf (hws z (List.mem_of_mem_take hz'))
      exact ⟨x, hx, rfl⟩
end
end Go.Proofs.YtallcholbbfkdaaDoor

namespace Go.Proofs.YtallcholbbfkdaaDoor
open Go.RowKit

/-- Rows that '==' finds equal. -/
def RowV.same (x y : RowV) : Bool := x.key.toList == y.key.toList && (x.tag == y.tag && x.val.toList == y.val.toList)
theorem RowV.same_iff (x y : RowV) : x.same y = true ↔ x = y := by
  obtain ⟨k, t, v⟩ := x
  obtain ⟨k', t', v'⟩ := y
  simp only [RowV.same, Bool.and_eq_true, beq_iff_eq, RowV.mk.injEq]
  constructor
  · rintro ⟨h1, h2, h3⟩
    refine ⟨?_, h2, ?_⟩
    · rw [ByteArray.toList_eq, ByteArray.toList_eq] at h1
      exact ByteArray.ext (Array.toList_inj.1 h1)
    · rw [ByteArray.toList_eq, ByteArray.toList_eq] at h3
      exact ByteArray.ext (Array.toList_inj.1 h3)
  · rintro ⟨rfl, rfl, rfl⟩
    exact ⟨rfl, rfl, rfl⟩
theorem row_eql (x y : RowV) (w : World) : (binOp .eql 68 (.agg #[.string x.key, .int .i64 x.tag, .string x.val]) (.agg #[.string y.key, .int .i64 y.tag, .string y.val])).run Tryd.prog w = .ok (.bool (x.same y)) w := by
  have u3 := Tryd.underlying9
  have u4 := Tryd.underlying2
  have hS : Tryd.prog.underlying 68 = some (.struct (Tryd.prog.fieldsOf 68)) := by kernel_rfl
  have hp : Tryd.prog.stoodInHeld 68 = false := by kernel_rfl
  rw [run_eql_struct, show (10000 : Nat) = 9999 + 1 from rfl, run_equalIn_agg w 9999 68 _ _ hS hp]
  simp only [Program.fieldsOf, Tryd.underlying68]
  go_simp
  unfold RowV.same
  by_cases h1 : x.key.toList = y.key.toList <;> by_cases h2 : x.tag = y.tag <;> by_cases h3 : x.val.toList = y.val.toList <;> simp [h1, h2, h3]
theorem big_any (a : Option Addr) (n cap : Nat) (w : World) (hn : n ≤ maxLen) :
    Calls Tryd.prog 18 #[.slice a n cap] w fun e w' => e = .returned (.bool (decide (1048576 < n))) ∧ w = w' := by
  unfold maxLen at hn
  go_enter Tryd.func18, Tryd.ntmps18
  go_wp2
  go_ret
  exact ⟨ret_bool (by rw [decide_eq_decide]; omega), rfl⟩
set_option maxRecDepth 100000 in
set_option maxHeartbeats 1000000 in
theorem sameRows_same (a b : Option Addr) (n ca cb : Nat) (rs : List RowV) (w : World) (hm : n ≤ 1048576) (hA : Rd w w.heap.size 3 a n (flat rs)) (hB : Rd w w.heap.size 3 b n (flat rs)) :
    Calls Tryd.prog 21 #[.slice a n ca, .slice b n cb] w fun e w' => e = .returned (.bool true) ∧ Below w.heap.size w w' := by
  go_enter Tryd.func21, Tryd.ntmps21
  go_wp2
  go_loopw [5] (fun i wr => ∃ k : Nat, k ≤ n ∧ i = .int .i64 k ∧ Below w.heap.size w wr) (fun i _ => n - (intOf i).toNat)
  case atStart => exact ⟨0, Nat.zero_le _, rfl, Below.refl _ _⟩
  case round =>
    obtain ⟨k, hk, rfl, hb⟩ := hrel
    by_cases hlt : k < n
    · obtain ⟨b1, o1, r, rfl, hB1, hr, c0, c1, c2⟩ := (hA.below hb (Nat.le_refl _)).row hlt
      obtain ⟨b2, o2, r', rfl, hB2, hr', d0, d1, d2⟩ := (hB.below hb (Nat.le_refl _)).row hlt
      obtain rfl : r = r' := by rw [hr] at hr'; injection hr'
      clear hr hr'
      go_wp2_with fail
      go_quiet (fail)
      have hb1 := below_drewN hb nq
      generalize wr.drewN nq = w1 at *
      clear c0 c1 c2 d0 d1 d2
      go_wp2_with fail
      go_roundw
      case rel => exact ⟨k + 1, by omega, by go_num, hb1⟩
      case measure => simp [intOf]; omega
    · go_wp2_with fail
      go_ret
      exact ⟨rfl, hb⟩
/-- How often a row is among some. -/
def manyN (rs : List RowV) (r : RowV) : Nat := rs.countP fun x => x.same r
theorem manyN_take {rs : List RowV} {r x : RowV} {k : Nat} (h : rs[k]? = some x) : manyN (rs.take (k + 1)) r = manyN (rs.take k) r + (x.same r).toNat := by
  obtain ⟨hk, e⟩ := List.getElem?_eq_some_iff.1 h
  unfold manyN
  rw [List.take_succ_eq_append_getElem hk, e, List.countP_append]
  cases hx : x.same r <;> simp [hx]
theorem manyN_le (rs : List RowV) (r : RowV) : manyN rs r ≤ rs.length := List.countP_le_length
theorem manyN_perm {a b : List RowV} (h : a.Perm b) (r : RowV) : manyN a r = manyN b r := h.countP_eq _
end Go.Proofs.YtallcholbbfkdaaDoor
