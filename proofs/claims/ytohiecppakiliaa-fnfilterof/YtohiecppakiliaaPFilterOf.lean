/-
  Rows.FnFilterOfSaid: laws.FnFilterOf returns true for every input, and each argument reads afterwards as it read before. No conditions.
-/
import Derived.Test.YtohiecppakiliaaDrawRows
import Derived.Test.YtohiecppakiliaaFilterOfSpec
import Derived.Deep.RegionHeld3
import Derived.Test.YtohiecppakiliaaBothSpec
import Derived.Test.YtohiecppakiliaaResVar
import Derived.Test.YtohiecppakiliaaFilterOfImpl
import Derived.Test.YtohiecppakiliaaGrow
import Derived.Maps.AppendAt
import Derived.Deep.RegionLaw
import Derived.Test.YtohiecppakiliaaSortedList
import Derived.Test.YtohiecppakiliaaSorted
import Derived.Test.YtohiecppakiliaaOpenBytes
import Derived.Test.YtohiecppakiliaaFilterAddImpl
import Derived.Laws.StructEq
import Derived.Test.YtohiecppakiliaaOpen
namespace Go.Proofs.Ytohiecppakiliaa
open Go.RowKit
theorem ofT_size (rs : List RowV) (n : Int) : (ofT rs n).size ≤ 32 := by
  unfold ofT
  split
  · rename_i h
    unfold ofOk at h
    have := sizeB_all (Bool.and_eq_true _ _ ▸ h).2
    have e : (ofS rs n).size = (n / 8).toNat := by simp [ofS, ByteArray.size, ofL_length, zeroL]
    omega
  · decide
/-- A variable of type impl.Filter in a new block: its two cells, which may be written. -/
def FVar (w : World) (b : Nat) (N : Int) (x : ByteArray) : Prop := At2 w b (.int .i64 N) (.string x) ∧ FV w b
theorem FVar.new (w : World) (N : Int) (x : ByteArray) (t : TypeId) : FVar (w.alloc (.cells #[.int .i64 N, .string x] t)) w.heap.size N x := ⟨At2.new _ _ _ _, FV.new _ _ _ _⟩
theorem FVar.below {w w' : World} {B b : Nat} {N : Int} {x : ByteArray} (h : FVar w b N x) (hb : Below B w w') (hB : b < B) : FVar w' b N x := ⟨h.1.below hb hB, h.2.below hb hB⟩
theorem FVar.drew {w w' : World} {b g n : Nat} {N : Int} {x : ByteArray} (h : FVar w b N x) (hd : Drew w w' g n) (hne : b ≠ g) : FVar w' b N x := by
  have e : w'.heap[b]? = w.heap[b]? := hd.2.block b h.2.2 (fun e => hne (by injection e))
  refine ⟨⟨(World.cell?_of_block (a := ⟨b, 0, none⟩) e).trans h.1.1, (World.cell?_of_block (a := ⟨b, 1, none⟩) e).trans h.1.2⟩, fun j hj => ?_, Nat.lt_of_lt_of_le h.2.2 hd.size⟩
  rw [World.cell?_of_block (a := ⟨b, 0 + j, none⟩) e, World.frozen?_of_block (a := ⟨b, 0 + j, none⟩) e]
  exact h.2.1 j hj
theorem FVar.put {w : World} {b c : Nat} {N : Int} {x : ByteArray} (h : FVar w b N x) (hne : b ≠ c) (u v : Value) : FVar ((w.setCell ⟨c, 0, none⟩ u).setCell ⟨c, 1, none⟩ v) b N x := by
  have hg : w.grownBy ((w.setCell ⟨c, 0, none⟩ u).setCell ⟨c, 1, none⟩ v) (some c) := gb_store (gb_store (World.grownBy.refl w (some c)) 0 u) 1 v
  have e := hg.block b h.2.2 (fun e => hne (by injection e))
  refine ⟨⟨(World.cell?_of_block (a := ⟨b, 0, none⟩) e).trans h.1.1, (World.cell?_of_block (a := ⟨b, 1, none⟩) e).trans h.1.2⟩, fun j hj => ?_, Nat.lt_of_lt_of_le h.2.2 hg.size⟩
  rw [World.cell?_of_block (a := ⟨b, 0 + j, none⟩) e, World.frozen?_of_block (a := ⟨b, 0 + j, none⟩) e]
  exact h.2.1 j hj
theorem Drew.over {w w' w2 : World} {g n : Nat} (h : Drew w w' g n) (hg0 : g < w.heap.size) (hb : Below w.heap.size w' w2) : Drew w w2 g n := by
  refine ⟨?_, ⟨hb.os.trans h.2.os, hb.tape.trans h.2.tape, hb.output.trans h.2.output, Nat.le_trans h.2.size hb.size, fun k hk hne => (hb.block k hk).trans (h.2.block k hk hne)⟩⟩
  obtain ⟨h1, a2, c2, p2, h2, h3, h4⟩ := h.1
  refine ⟨h1, a2, c2, p2, h2.keep (fun b o hb' => hb.cell (p := ⟨b, o, none⟩) (show b < w.heap.size by omega)), h3, h4.1, ?_⟩
  rcases h4.2 with h0 | ⟨g', c, cur, hv, hg, hh, q1, q2, q3, q4⟩
  · exact .inl h0
  · have : g' = g := by injection hv with e; injection e with e; injection e with e1 _; exact e1.symm
    subst this
    exact .inr ⟨g', c, cur, hv, hg, (hb.block g' hg0).trans hh, q1, q2, q3, q4⟩
set_option maxRecDepth 100000 in
set_option maxHeartbeats 1000000 in
theorem filter_any (g n : Nat) (w : World) (h : Rdr w g n) :
    Calls Try.prog 43 #[.pointer (some ⟨g, 0, none⟩)] w fun e w' => ∃ (N : Int) (x : ByteArray), x.size ≤ 32 ∧ e = .returned (.agg #[.int .i64 N, .string x]) ∧ Drew w w' g n := by
  have hg0 := h.lt
  have V := FVar.new w 0 ⟨#[]⟩ 25
  have D := (Drew.refl h).alloc (.cells #[.int .i64 0, .string ⟨#[]⟩] 25)
  go_enter Try.func43, Try.ntmps43
  go_wp2_with fail
  generalize w.alloc (.cells #[.int .i64 0, .string ⟨#[]⟩] 25) = w1 at *
  refine (rows_lit g n 5 _ _ D.rdr (by omega) (by omega) (by omega)).mono ?_
  rintro e w2 ⟨l, b, c, hll, hok, rfl, hO, hD⟩
  have hlt1 : g < w1.heap.size := D.rdr.lt
  replace V := V.drew hD (by omega)
  replace D := D.trans hD
  clear hD
  go_wp2_with fail
  refine (below_lit g n 6 _ _ D.rdr (by omega) (by omega) (by omega)).mono ?_
  rintro e w3 ⟨k, hk, rfl, hD⟩
  replace V := V.drew hD (by omega)
  have hO3 := hD.own hO hlt1
  replace D := D.trans hD
  clear hD hO
  obtain ⟨rn, rt, rb, e1⟩ : ∃ rn rt rb, ofV l (8 * (1 + (k : Int))) = .tuple #[.agg #[.int .i64 rn, .string rt], .bool rb] ∧ rt.size ≤ 32 := ⟨_, _, _, rfl, ofT_size _ _⟩
  obtain ⟨e1, hrt⟩ := e1
  have C := specFilterOf_any _ l.length c l (8 * (1 + (k : Int))) w3 (by omega) hok (Rd.of_own hO3)
  rw [e1] at C
  clear e1 hO3
  go_wp2_with fail
  refine C.mono ?_
  clear C
  rintro e w4 ⟨rfl, hb⟩
  replace V := V.below hb V.2.2
  replace D := D.and hb
  clear hb
  have F := FVar.new w4 rn rt 25
  have hb := bl1 w4 (.cells #[.int .i64 rn, .string rt] 25)
  have hFw : w.heap.size < w4.heap.size := V.2.2
  replace V := V.below hb V.2.2
  replace D := D.and hb
  clear hb
  go_wp2_with fail
  generalize w4.alloc (.cells #[.int .i64 rn, .string rt] 25) = w5 at *
  generalize w4.heap.size = F0 at *
  refine (once_lit g n 20 _ _ D.rdr (by omega) (by omega) (by omega)).mono ?_
  rintro e w6 ⟨q, rfl, hD⟩
  replace V := V.drew hD (by omega)
  replace F := F.drew hD (by omega)
  replace D := D.trans hD
  clear hD
  cases q
  · have ⟨x0, x1⟩ := F.1
    go_wp2_with (refine wpList_store_fil rfl _ _ rfl w.heap.size rn rt (by rfl) (by rfl) V.2 fun w7 hR hk => stop ?_)
    refine unstop ?_
    have hld := load_fil hR
    have D7 := D.over hg0 (hk w.heap.size w6 (Nat.le_refl _) (Below.refl _ _))
    go_wp2_with fail
    refine bodyPost_ret (v := .agg #[.int .i64 rn, .string rt]) ?_ rfl ⟨rn, rt, hrt, rfl, D7⟩
    simp [results, Try.results43, asAddr, hld]
  · go_wp2_with fail
    refine (off_any g n 8 256 _ D.rdr (by omega) (by omega) (by omega)).mono ?_
    rintro e w7 ⟨z, hz0, hz1, rfl, hD⟩
    replace V := V.drew hD (by omega)
    replace F := F.drew hD (by omega)
    replace D := D.trans hD
    clear hD
    have ⟨x0, x1⟩ := F.1
    have f0 := (F.2.1 0 (by omega)).2
    rw [Nat.zero_add] at f0
    have V' := V.below ((Below.refl F0 w7).setCell (p := ⟨F0, 0, none⟩) (Nat.le_refl _) (.int .i64 z)) hFw
    have D' := D.set (o := 0) (b := F0) hg0 (by omega) (.int .i64 z)
    go_wp2_with (refine wpList_store_fil rfl _ _ rfl w.heap.size z rt (by rfl) (by rfl) V'.2 fun w8 hR hk => stop ?_)
    refine unstop ?_
    have hld := load_fil hR
    have D8 := D'.over hg0 (hk w.heap.size _ (Nat.le_refl _) (Below.refl _ _))
    go_wp2_with fail
    refine bodyPost_ret (v := .agg #[.int .i64 z, .string rt]) ?_ rfl ⟨z, rt, hrt, rfl, D8⟩
    simp [results, Try.results43, asAddr, hld]
set_option maxRecDepth 100000 in
theorem drawFilterAdd_any (a : Option Addr) (len cap : Nat) (w : World) (hl : len ≤ 1048576) (h : IsBy w w.heap.size a len) :
    Calls Try.prog 9 #[.slice a len cap] w fun e w' => ∃ (N : Int) (x s : ByteArray), x.size ≤ 32 ∧ s.size ≤ 5 ∧ e = .returned (.tuple #[.agg #[.int .i64 N, .string x], .string s]) ∧ Below w.heap.size w w' := by
  have hb0 := bl1 w (.cells #[.int .i64 0, .string ⟨#[]⟩] 25)
  have V := FVar.new w 0 ⟨#[]⟩ 25
  obtain ⟨bx, hx1, hx2⟩ := h
  have h' : IsBy (w.alloc (.cells #[.int .i64 0, .string ⟨#[]⟩] 25)) (w.alloc (.cells #[.int .i64 0, .string ⟨#[]⟩] 25)).heap.size a len := ⟨bx, (hx1.below hb0 (Nat.le_refl _)).more hb0.size, hx2⟩
  go_enter Try.func9, Try.ntmps9
  go_wp2_with fail
  generalize w.alloc (.cells #[.int .i64 0, .string ⟨#[]⟩] 25) = w0 at *
  refine (l1Open_any a len cap w0 hl h').mono ?_
  rintro e w1 ⟨rfl, hR1, hb1⟩
  have hlt := hR1.lt
  have hg : w.heap.size < w0.heap.size := V.2.2
  replace V := V.below hb1 hg
  have D := Drew.refl hR1
  go_wp2_with fail
  refine (filter_any _ len _ hR1).mono ?_
  rintro e w2 ⟨N, x, hx, rfl, hD⟩
  replace V := V.drew hD (by omega)
  replace D := D.trans hD
  clear hD
  have F := FVar.new w2 N x 25
  have hb2 := bl1 w2 (.cells #[.int .i64 N, .string x] 25)
  have hF0 : w1.heap.size ≤ w2.heap.size := D.size
  replace V := V.below hb2 V.2.2
  replace D := D.and hb2
  clear hb2
  go_wp2_with fail
  generalize w2.alloc (.cells #[.int .i64 N, .string x] 25) = w3 at *
  generalize w2.heap.size = F0 at *
  have ⟨x0, x1⟩ := F.1
  have D3 : Drew w1 w3.drew w0.heap.size len := D.over hlt ((Below.refl w1.heap.size w3).drew)
  have V3 : FVar w3.drew w.heap.size 0 ⟨#[]⟩ := V
  have F3 : FVar w3.drew F0 N x := F
  have HD3 := Lib.hid D3
  have HV3 := Lib.hid V3
  have HF3 := Lib.hid F3
  have hne : F0 ≠ w.heap.size := by omega
  have hne2 : w.heap.size ≠ w0.heap.size := by omega
  have hne3 : F0 ≠ w0.heap.size := by omega
  clear D3 V3 F3 V D F
  go_region_held3 (fun w' => (w'.cell? ⟨F0, 0, none⟩ = some (.int .i64 N) ∧ w'.cell? ⟨F0, 1, none⟩ = some (.string x)) ∧ FVar w' F0 N x) (first | exact ⟨HF3.out.1, HF3.out⟩ | exact ⟨hF'.1, hF'⟩ | exact ⟨(FVar.put (by assumption) hne _ _).1, FVar.put (by assumption) hne _ _⟩ | exact ⟨((And.right (by assumption : _ ∧ FVar _ F0 N x)).put hne _ _).1, (And.right (by assumption : _ ∧ FVar _ F0 N x)).put hne _ _⟩)
    ((go_at_call 44; refine (key_any _ len _ HD3.out.rdr).mono ?_; rintro e w4 ⟨s, hs, rfl, hD⟩; have hV4 := HV3.out.drew hD hne2; have hF' := HF3.out.drew hD hne3; have D4 := Lib.hid (HD3.out.trans hD); have ⟨v0, v1⟩ := hV4.1; have g0 := (hV4.2.1 0 (by omega)).2; have g1 := (hV4.2.1 1 (by omega)).2; rw [Nat.zero_add] at g0 g1))
  have hR : ((w4.setCell ⟨w.heap.size, 0, none⟩ (.int .i64 N)).setCell ⟨w.heap.size, 1, none⟩ (.string x)).rangeAt w.heap.size 0 [.int .i64 N, .string x] := World.rangeAt_setCells_same w4 w.heap.size 0 [.int .i64 N, .string x] hV4.2.1
  have hb4 := hb0.trans ((below_drew hb1 D4.out).mono (Nat.le_of_lt hg))
  have hb5 := (hb4.setCell (p := ⟨w.heap.size, 0, none⟩) (Nat.le_refl _) (.int .i64 N)).setCell (p := ⟨w.heap.size, 1, none⟩) (Nat.le_refl _) (.string x)
  have hld := load_fil hR
  clear v0 v1 g0 g1 hV4 hF' hD x0 x1 hb4 hR
  generalize (w4.setCell ⟨w.heap.size, 0, none⟩ (.int .i64 N)).setCell ⟨w.heap.size, 1, none⟩ (.string x) = w5 at *
  go_wp2_with fail
  refine bodyPost_ret (v := .tuple #[.agg #[.int .i64 N, .string x], .string s]) ?_ rfl ⟨N, x, s, hx, hs, rfl, hb5⟩
  first
    | (rw [results_cell_tmp rfl]; simp [asAddr, Result.andThen, hld])
    | simp [results, Try.results9, asAddr, hld]
end Go.Proofs.Ytohiecppakiliaa

namespace Go.Proofs.Ytohiecppakiliaa
open Go.RowKit
theorem twoPut {W : World} {F1 G1 c : Nat} {n1 n2 : Int} {t1 t2 : ByteArray} {u v : Value}
    (h : (W.cell? ⟨F1, 0, none⟩ = some (.int .i64 n1) ∧ W.cell? ⟨F1, 1, none⟩ = some (.string t1) ∧ W.cell? ⟨G1, 0, none⟩ = some (.int .i64 n2) ∧ W.cell? ⟨G1, 1, none⟩ = some (.string t2)) ∧ FVar W F1 n1 t1 ∧ FVar W G1 n2 t2) (h1 : F1 ≠ c) (h2 : G1 ≠ c) :
    (((W.setCell ⟨c, 0, none⟩ u).setCell ⟨c, 1, none⟩ v).cell? ⟨F1, 0, none⟩ = some (.int .i64 n1) ∧ ((W.setCell ⟨c, 0, none⟩ u).setCell ⟨c, 1, none⟩ v).cell? ⟨F1, 1, none⟩ = some (.string t1) ∧ ((W.setCell ⟨c, 0, none⟩ u).setCell ⟨c, 1, none⟩ v).cell? ⟨G1, 0, none⟩ = some (.int .i64 n2) ∧ ((W.setCell ⟨c, 0, none⟩ u).setCell ⟨c, 1, none⟩ v).cell? ⟨G1, 1, none⟩ = some (.string t2)) ∧ FVar ((W.setCell ⟨c, 0, none⟩ u).setCell ⟨c, 1, none⟩ v) F1 n1 t1 ∧ FVar ((W.setCell ⟨c, 0, none⟩ u).setCell ⟨c, 1, none⟩ v) G1 n2 t2 := by
  have a := h.2.1.put h1 u v
  have b := h.2.2.put h2 u v
  exact ⟨⟨a.1.1, a.1.2, b.1.1, b.1.2⟩, a, b⟩
theorem below_drew2 {w w1 w2 : World} {B g n : Nat} (hb : Below g w w1) (hD : Drew w1 w2 g n) (hB : B + 1 < g) (hlt : g < w1.heap.size) : Below B w w2 :=
  (hb.mono (by omega)).trans ⟨hD.2.os, hD.2.tape, hD.2.output, hD.2.size, fun k hk => hD.2.block k (by omega) (fun e => by injection e with e; omega)⟩
theorem setCells_two (W : World) (b : Nat) (x y : Value) : W.setCells b 0 [x, y] = (W.setCell ⟨b, 0, none⟩ x).setCell ⟨b, 1, none⟩ y := rfl
theorem twoEnd {w W : World} (hb : Below w.heap.size w W) (V : FV W w.heap.size) (U : FV W (w.heap.size + 1)) (n1 : Int) (t1 : ByteArray) (n2 : Int) (t2 : ByteArray) :
    (loadVar 25 ⟨w.heap.size, 0, none⟩).run Try.prog ((((W.setCell ⟨w.heap.size, 0, none⟩ (.int .i64 n1)).setCell ⟨w.heap.size, 1, none⟩ (.string t1)).setCell ⟨w.heap.size + 1, 0, none⟩ (.int .i64 n2)).setCell ⟨w.heap.size + 1, 1, none⟩ (.string t2)).drew = .ok (.agg #[.int .i64 n1, .string t1]) ((((W.setCell ⟨w.heap.size, 0, none⟩ (.int .i64 n1)).setCell ⟨w.heap.size, 1, none⟩ (.string t1)).setCell ⟨w.heap.size + 1, 0, none⟩ (.int .i64 n2)).setCell ⟨w.heap.size + 1, 1, none⟩ (.string t2)).drew ∧
    (loadVar 25 ⟨w.heap.size + 1, 0, none⟩).run Try.prog ((((W.setCell ⟨w.heap.size, 0, none⟩ (.int .i64 n1)).setCell ⟨w.heap.size, 1, none⟩ (.string t1)).setCell ⟨w.heap.size + 1, 0, none⟩ (.int .i64 n2)).setCell ⟨w.heap.size + 1, 1, none⟩ (.string t2)).drew = .ok (.agg #[.int .i64 n2, .string t2]) ((((W.setCell ⟨w.heap.size, 0, none⟩ (.int .i64 n1)).setCell ⟨w.heap.size, 1, none⟩ (.string t1)).setCell ⟨w.heap.size + 1, 0, none⟩ (.int .i64 n2)).setCell ⟨w.heap.size + 1, 1, none⟩ (.string t2)).drew ∧
    Below w.heap.size w ((((W.setCell ⟨w.heap.size, 0, none⟩ (.int .i64 n1)).setCell ⟨w.heap.size, 1, none⟩ (.string t1)).setCell ⟨w.heap.size + 1, 0, none⟩ (.int .i64 n2)).setCell ⟨w.heap.size + 1, 1, none⟩ (.string t2)).drew := by
  have r1 := World.rangeAt_setCells_same W w.heap.size 0 [.int .i64 n1, .string t1] V.1
  have r2 := World.rangeAt_setCells_apart r1 (w.heap.size + 1) 0 [.int .i64 n2, .string t2] (Or.inl (by omega))
  have r3 := World.rangeAt_setCells_same (W.setCells w.heap.size 0 [.int .i64 n1, .string t1]) (w.heap.size + 1) 0 [.int .i64 n2, .string t2] (World.there_setCells U.1 _ _ _)
  have h4 := below_setCells (Nat.le_succ _) [.int .i64 n2, .string t2] 0 _ (below_setCells (Nat.le_refl _) [.int .i64 n1, .string t1] 0 _ hb)
  rw [setCells_two, setCells_two] at r2 r3 h4
  generalize (((W.setCell ⟨w.heap.size, 0, none⟩ (.int .i64 n1)).setCell ⟨w.heap.size, 1, none⟩ (.string t1)).setCell ⟨w.heap.size + 1, 0, none⟩ (.int .i64 n2)).setCell ⟨w.heap.size + 1, 1, none⟩ (.string t2) = Z at *
  have r2' : Z.drew.rangeAt w.heap.size 0 [.int .i64 n1, .string t1] := fun j v hv => r2 j v hv
  have r3' : Z.drew.rangeAt (w.heap.size + 1) 0 [.int .i64 n2, .string t2] := fun j v hv => r3 j v hv
  exact ⟨load_fil r2', load_fil r3', h4.drew⟩
set_option maxRecDepth 100000 in
set_option maxHeartbeats 1000000 in
theorem drawFilterBoth_any (a : Option Addr) (len cap : Nat) (w : World) (hl : len ≤ 1048576) (h : IsBy w w.heap.size a len) :
    Calls Try.prog 21 #[.slice a len cap] w fun e w' => ∃ (N : Int) (x : ByteArray) (N2 : Int) (x2 : ByteArray), x.size ≤ 32 ∧ x2.size ≤ 32 ∧ e = .returned (.tuple #[.agg #[.int .i64 N, .string x], .agg #[.int .i64 N2, .string x2]]) ∧ Below w.heap.size w w' := by
  have hb0 := bl2 w (.cells #[.int .i64 0, .string ⟨#[]⟩] 25) (.cells #[.int .i64 0, .string ⟨#[]⟩] 25)
  have V := (FVar.new w 0 ⟨#[]⟩ 25).below (bl1 _ (.cells #[.int .i64 0, .string ⟨#[]⟩] 25)) (by simp)
  have U := FVar.new (w.alloc (.cells #[.int .i64 0, .string ⟨#[]⟩] 25)) 0 ⟨#[]⟩ 25
  simp only [World.size_alloc] at U
  obtain ⟨bx, hx1, hx2⟩ := h
  have h' : IsBy ((w.alloc (.cells #[.int .i64 0, .string ⟨#[]⟩] 25)).alloc (.cells #[.int .i64 0, .string ⟨#[]⟩] 25)) ((w.alloc (.cells #[.int .i64 0, .string ⟨#[]⟩] 25)).alloc (.cells #[.int .i64 0, .string ⟨#[]⟩] 25)).heap.size a len := ⟨bx, (hx1.below hb0 (Nat.le_refl _)).more hb0.size, hx2⟩
  go_enter Try.func21, Try.ntmps21
  go_wp2_with fail
  generalize (w.alloc (.cells #[.int .i64 0, .string ⟨#[]⟩] 25)).alloc (.cells #[.int .i64 0, .string ⟨#[]⟩] 25) = w0 at *
  refine (l1Open_any a len cap w0 hl h').mono ?_
  rintro e w1 ⟨rfl, hR1, hb1⟩
  have hlt := hR1.lt
  have hg : w.heap.size + 1 < w0.heap.size := U.2.2
  replace V := V.below hb1 (by omega)
  replace U := U.below hb1 (by omega)
  have D := Drew.refl hR1
  clear hx1 hx2 h' hR1
  generalize w0.heap.size = g at *
  go_wp2_with fail
  refine (below_lit g len 5 _ _ D.rdr (by omega) (by omega) (by omega)).mono ?_
  rintro e w2 ⟨k, hk, rfl, hD⟩
  replace V := V.drew hD (by omega)
  replace U := U.drew hD (by omega)
  replace D := D.trans hD
  clear hD
  go_wp2_with fail
  refine (rows_lit g len 4 _ _ D.rdr (by omega) (by omega) (by omega)).mono ?_
  rintro e w3 ⟨l, b, c, hll, hok, rfl, hO, hD⟩
  replace V := V.drew hD (by omega)
  replace U := U.drew hD (by omega)
  replace D := D.trans hD
  clear hD
  obtain ⟨n1, t1, q1, e1⟩ : ∃ rn rt rb, ofV l (8 * (1 + (k : Int))) = .tuple #[.agg #[.int .i64 rn, .string rt], .bool rb] ∧ rt.size ≤ 32 := ⟨_, _, _, rfl, ofT_size _ _⟩
  obtain ⟨e1, ht1⟩ := e1
  have C := specFilterOf_any _ l.length c l (8 * (1 + (k : Int))) w3 (by omega) hok (Rd.of_own hO)
  rw [e1] at C
  clear e1 hO
  go_wp2_with fail
  refine C.mono ?_
  clear C
  rintro e w4 ⟨rfl, hb⟩
  replace V := V.below hb V.2.2
  replace U := U.below hb U.2.2
  replace D := D.and hb
  clear hb
  have F := FVar.new w4 n1 t1 25
  have hb := bl1 w4 (.cells #[.int .i64 n1, .string t1] 25)
  have hF : w1.heap.size ≤ w4.heap.size := D.size
  replace V := V.below hb V.2.2
  replace U := U.below hb U.2.2
  replace D := D.and hb
  clear hb
  go_wp2_with fail
  generalize w4.alloc (.cells #[.int .i64 n1, .string t1] 25) = w5 at *
  generalize w4.heap.size = F1 at *
  refine (rows_lit g len 4 _ _ D.rdr (by omega) (by omega) (by omega)).mono ?_
  rintro e w6 ⟨l2, b2, c2, hll2, hok2, rfl, hO, hD⟩
  replace V := V.drew hD (by omega)
  replace U := U.drew hD (by omega)
  replace F := F.drew hD (by omega)
  replace D := D.trans hD
  clear hD
  obtain ⟨n2, t2, q2, e1⟩ : ∃ rn rt rb, ofV l2 (8 * (1 + (k : Int))) = .tuple #[.agg #[.int .i64 rn, .string rt], .bool rb] ∧ rt.size ≤ 32 := ⟨_, _, _, rfl, ofT_size _ _⟩
  obtain ⟨e1, ht2⟩ := e1
  have C := specFilterOf_any _ l2.length c2 l2 (8 * (1 + (k : Int))) w6 (by omega) hok2 (Rd.of_own hO)
  rw [e1] at C
  clear e1 hO
  go_wp2_with fail
  refine C.mono ?_
  clear C
  rintro e w7 ⟨rfl, hb⟩
  replace V := V.below hb V.2.2
  replace U := U.below hb U.2.2
  replace F := F.below hb F.2.2
  replace D := D.and hb
  clear hb
  have G := FVar.new w7 n2 t2 25
  have hb := bl1 w7 (.cells #[.int .i64 n2, .string t2] 25)
  have hG : F1 < w7.heap.size := F.2.2
  replace V := V.below hb V.2.2
  replace U := U.below hb U.2.2
  replace F := F.below hb F.2.2
  replace D := D.and hb
  clear hb
  go_wp2_with fail
  generalize w7.alloc (.cells #[.int .i64 n2, .string t2] 25) = w8 at *
  generalize w7.heap.size = G1 at *
  refine (once_lit g len 12 _ _ D.rdr (by omega) (by omega) (by omega)).mono ?_
  rintro e w9 ⟨q, rfl, hD⟩
  replace V := V.drew hD (by omega)
  replace U := U.drew hD (by omega)
  replace F := F.drew hD (by omega)
  replace G := G.drew hD (by omega)
  replace D := D.trans hD
  clear hD
  cases q
  · have ⟨x0, x1⟩ := F.1
    have ⟨y0, y1⟩ := G.1
    have ⟨v0, v1⟩ := V.1
    have ⟨u0, u1⟩ := U.1
    have hv0 := (V.2.1 0 (by omega)).2
    have hv1 := (V.2.1 1 (by omega)).2
    have hu0 := (U.2.1 0 (by omega)).2
    have hu1 := (U.2.1 1 (by omega)).2
    rw [Nat.zero_add] at hv0 hv1 hu0 hu1
    have hn1 : F1 ≠ w.heap.size := by omega
    have hn2 : G1 ≠ w.heap.size := by omega
    have HZ := Lib.hid (twoEnd (show Below w.heap.size w w9 from hb0.trans ((below_drew2 hb1 D hg hlt).mono (Nat.le_refl _))) V.2 U.2 n1 t1 n2 t2)
    clear F G V U D
    go_wp2_with fail
    have hn3 : ¬ F1 = w.heap.size + 1 := by omega
    have hn4 : ¬ G1 = w.heap.size + 1 := by omega
    have hn5 : ¬ w.heap.size = F1 := by omega
    have hn6 : ¬ w.heap.size = G1 := by omega
    go_region
    obtain ⟨hld1, hld2, hbe⟩ := HZ.out
    clear HZ x0 x1 y0 y1 v0 v1 u0 u1 hv0 hv1 hu0 hu1
    generalize ((((w9.setCell ⟨w.heap.size, 0, none⟩ (.int .i64 n1)).setCell ⟨w.heap.size, 1, none⟩ (.string t1)).setCell ⟨w.heap.size + 1, 0, none⟩ (.int .i64 n2)).setCell ⟨w.heap.size + 1, 1, none⟩ (.string t2)).drew = w10 at *
    go_wp2_with fail
    refine bodyPost_ret (v := .tuple #[.agg #[.int .i64 n1, .string t1], .agg #[.int .i64 n2, .string t2]]) ?_ rfl ⟨n1, t1, n2, t2, ht1, ht2, rfl, hbe⟩
    simp [results, Try.results21, asAddr, hld1, hld2]
  · go_wp2_with fail
    refine (filter_any g len _ D.rdr).mono ?_
    rintro e w10 ⟨n3, t3, ht3, rfl, hD⟩
    replace V := V.drew hD (by omega)
    replace U := U.drew hD (by omega)
    replace F := F.drew hD (by omega)
    replace G := G.drew hD (by omega)
    replace D := D.trans hD
    clear hD
    go_wp2_with (refine wpList_store_fil2 rfl _ _ rfl G1 n3 t3 (by rfl) (by rfl) G.2 fun w11 g1 g2 hb => stop ?_)
    refine unstop ?_
    replace V := V.below hb (by omega)
    replace U := U.below hb (by omega)
    replace F := F.below hb (by omega)
    replace D := D.over hlt (hb.mono (by omega))
    replace G : FVar w11 G1 n3 t3 := ⟨g1, g2⟩
    clear hb g1 g2
    have ⟨x0, x1⟩ := F.1
    have ⟨y0, y1⟩ := G.1
    have ⟨v0, v1⟩ := V.1
    have ⟨u0, u1⟩ := U.1
    have hv0 := (V.2.1 0 (by omega)).2
    have hv1 := (V.2.1 1 (by omega)).2
    have hu0 := (U.2.1 0 (by omega)).2
    have hu1 := (U.2.1 1 (by omega)).2
    rw [Nat.zero_add] at hv0 hv1 hu0 hu1
    have hn1 : F1 ≠ w.heap.size := by omega
    have hn2 : G1 ≠ w.heap.size := by omega
    have HZ := Lib.hid (twoEnd (show Below w.heap.size w w11 from hb0.trans ((below_drew2 hb1 D hg hlt).mono (Nat.le_refl _))) V.2 U.2 n1 t1 n3 t3)
    clear F G V U D
    go_wp2_with fail
    have hn3 : ¬ F1 = w.heap.size + 1 := by omega
    have hn4 : ¬ G1 = w.heap.size + 1 := by omega
    have hn5 : ¬ w.heap.size = F1 := by omega
    have hn6 : ¬ w.heap.size = G1 := by omega
    go_region
    obtain ⟨hld1, hld2, hbe⟩ := HZ.out
    clear HZ x0 x1 y0 y1 v0 v1 u0 u1 hv0 hv1 hu0 hu1
    generalize ((((w11.setCell ⟨w.heap.size, 0, none⟩ (.int .i64 n1)).setCell ⟨w.heap.size, 1, none⟩ (.string t1)).setCell ⟨w.heap.size + 1, 0, none⟩ (.int .i64 n3)).setCell ⟨w.heap.size + 1, 1, none⟩ (.string t3)).drew = w10 at *
    go_wp2_with fail
    refine bodyPost_ret (v := .tuple #[.agg #[.int .i64 n1, .string t1], .agg #[.int .i64 n3, .string t3]]) ?_ rfl ⟨n1, t1, n3, t3, ht1, ht3, rfl, hbe⟩
    simp [results, Try.results21, asAddr, hld1, hld2]
end Go.Proofs.Ytohiecppakiliaa

namespace Go.Proofs.Ytohiecppakiliaa
open Go.RowKit

theorem both_same (n : Int) (x : ByteArray) (n2 : Int) (x2 : ByteArray) : bothV n x n2 x2 = bothS n x n2 x2 := by
  unfold bothV bothS
  cases h : bothB n x n2 x2
  · rfl
  simp only [bothB, Bool.and_eq_true, beq_iff_eq] at h
  obtain ⟨⟨h1, h2⟩, rfl⟩ := h
  have e1 := filB_size h1
  have e2 := filB_size h2
  have f1 := filB_facts h1
  have l1 : x.data.toList.length = x.size := by simp
  have l2 : x2.data.toList.length = x2.size := by simp
  have p1 := padL_length x f1.2.2
  have p2 := padL_length x2 (by omega)
  have hm : (n / 8).toNat = x.size := by omega
  have E : bytesOf n (orBytes 32 (padL x) (padL x2)) = orS x x2 := by
    unfold bytesOf orS orBytes
    rw [hm, List.take_of_length_le (l := padL x) (by omega), List.take_of_length_le (l := padL x2) (by omega), show (padL x).drop 32 = [] from List.drop_eq_nil_of_le (by omega), List.append_nil, List.take_zipWith, show x.data.toList.drop x.size = [] from List.drop_eq_nil_of_le (by omega), List.append_nil]
    have g1 : (padL x).take x.size = x.data.toList.take x.size := by unfold padL; rw [List.take_append_of_le_length (by omega)]
    have g2 : (padL x2).take x.size = x2.data.toList.take x.size := by unfold padL; rw [List.take_append_of_le_length (by omega)]
    rw [g1, g2]
  simp only [E, if_true]
def bothN (n : Int) (x : ByteArray) (n2 : Int) (x2 : ByteArray) : Int := if bothB n x n2 x2 then n else 0
def bothT (n : Int) (x : ByteArray) (n2 : Int) (x2 : ByteArray) : ByteArray := if bothB n x n2 x2 then orS x x2 else ⟨#[]⟩
theorem both_form (n : Int) (x : ByteArray) (n2 : Int) (x2 : ByteArray) : bothS n x n2 x2 = .tuple #[.agg #[.int .i64 (bothN n x n2 x2), .string (bothT n x n2 x2)], .bool (bothB n x n2 x2)] := by
  unfold bothS bothN bothT
  cases bothB n x n2 x2 <;> rfl
theorem specBoth_any (n : Int) (x : ByteArray) (n2 : Int) (x2 : ByteArray) (w : World) (hx : x.size ≤ maxLen) (hx2 : x2.size ≤ maxLen) :
    Calls Try.prog 23 #[.agg #[.int .i64 n, .string x], .agg #[.int .i64 n2, .string x2]] w fun e w' => e = .returned (.tuple #[.agg #[.int .i64 (bothN n x n2 x2), .string (bothT n x n2 x2)], .bool (bothB n x n2 x2)]) ∧ Below w.heap.size w w' :=
  both_form n x n2 x2 ▸ specFilterBoth_any n x n2 x2 w hx hx2
theorem implBoth_any (n : Int) (x : ByteArray) (n2 : Int) (x2 : ByteArray) (w : World) (hx : x.size ≤ maxLen) (hx2 : x2.size ≤ maxLen) :
    Calls Try.prog 22 #[.agg #[.int .i64 n, .string x], .agg #[.int .i64 n2, .string x2]] w fun e w' => e = .returned (.tuple #[.agg #[.int .i64 (bothN n x n2 x2), .string (bothT n x n2 x2)], .bool (bothB n x n2 x2)]) ∧ Below w.heap.size w w' :=
  both_form n x n2 x2 ▸ both_same n x n2 x2 ▸ implFilterBoth_any n x n2 x2 w hx hx2
end Go.Proofs.Ytohiecppakiliaa

namespace Go.Proofs.Ytohiecppakiliaa
open Go.RowKit
theorem orS_data {x x2 : ByteArray} (h : x2.size = x.size) : (orS x x2).data.toList = List.zipWith (· ||| ·) x.data.toList x2.data.toList := by
  have l1 : x.data.toList.length = x.size := by simp
  have l2 : x2.data.toList.length = x2.size := by simp
  unfold orS orBytes
  rw [List.take_of_length_le (by omega), List.take_of_length_le (by omega), List.drop_eq_nil_of_le (by omega), List.append_nil]
theorem ba_ext {a b : ByteArray} (h : a.data.toList = b.data.toList) : a = b := ByteArray.ext (Array.toList_inj.1 h)
theorem orS_size {x x2 : ByteArray} (h : x2.size = x.size) : (orS x x2).size = x.size := by
  have l0 : (orS x x2).data.toList.length = (orS x x2).size := by simp
  have l1 : x.data.toList.length = x.size := by simp
  have l2 : x2.data.toList.length = x2.size := by simp
  rw [← l0, orS_data h, List.length_zipWith]; omega
theorem orS_comm {x x2 : ByteArray} (h : x2.size = x.size) : orS x2 x = orS x x2 := by
  apply ba_ext
  rw [orS_data h.symm, orS_data h, List.zipWith_comm]
  congr 1
  funext a b
  exact UInt8.or_comm _ _
theorem orS_again {x x2 : ByteArray} (h : x2.size = x.size) : orS (orS x x2) x = orS x x2 := by
  have hs := orS_size h
  apply ba_ext
  rw [orS_data (x := orS x x2) (x2 := x) (by omega), orS_data h]
  apply List.ext_getElem
  · simp
  · intro i h1 h2
    simp only [List.getElem_zipWith]
    rw [UInt8.or_comm, ← UInt8.or_assoc, UInt8.or_self]
theorem orS_le {x x2 : ByteArray} (h : x2.size = x.size) : LeB x.data.toList (orS x x2).data.toList ∧ LeB x2.data.toList (orS x x2).data.toList := by
  have l1 : x.data.toList.length = x.size := by simp
  have l2 : x2.data.toList.length = x2.size := by simp
  rw [orS_data h]
  constructor
  · intro q
    simp only [List.getD]
    by_cases hq : q < x.size
    · rw [List.getElem?_eq_getElem (by omega), List.getElem?_eq_getElem (by rw [List.length_zipWith]; omega)]
      simp only [Option.getD_some, List.getElem_zipWith]
      rw [← UInt8.or_assoc, UInt8.or_self]
    · rw [List.getElem?_eq_none (by omega), List.getElem?_eq_none (by rw [List.length_zipWith]; omega)]; rfl
  · intro q
    simp only [List.getD]
    by_cases hq : q < x.size
    · rw [List.getElem?_eq_getElem (by omega), List.getElem?_eq_getElem (by rw [List.length_zipWith]; omega)]
      simp only [Option.getD_some, List.getElem_zipWith]
      rw [UInt8.or_comm (x.data.toList[q]'(by omega)), ← UInt8.or_assoc, UInt8.or_self]
    · rw [List.getElem?_eq_none (by omega), List.getElem?_eq_none (by rw [List.length_zipWith]; omega)]; rfl
theorem hasB_eq {n : Int} {x s : ByteArray} (h : filB n x = true) (hs : s.size ≤ 12) : hasB n x s = hasK n s x.data.toList := by
  obtain ⟨q0, q1, q4, q5, q2⟩ := filB_all h
  have l1 : x.data.toList.length = x.size := by simp
  rw [hasK_eq n s _ (by rw [l1]; exact plN_lt n s _ q0 q4 q5)]
  unfold hasB addOk
  rw [h, decide_eq_true hs, Bool.and_true, Bool.true_and, decide_eq_decide]
  constructor
  · intro e; have := congrArg (fun b : ByteArray => b.data.toList) e; exact this
  · intro e; unfold addS; rw [e]
theorem hasB_mono {n : Int} {x t s : ByteArray} (h : filB n x = true) (ht : filB n t = true) (hs : s.size ≤ 12) (hl : LeB x.data.toList t.data.toList) (hx : hasB n x s = true) : hasB n t s = true := by
  rw [hasB_eq h hs] at hx
  rw [hasB_eq ht hs]
  unfold hasK at *
  simp only [Bool.and_eq_true] at *
  exact ⟨⟨hasL_mono hl hx.1.1, hasL_mono hl hx.1.2⟩, hasL_mono hl hx.2⟩
theorem filB_or {n : Int} {x x2 : ByteArray} (h : filB n x = true) (h2 : x2.size = x.size) : filB n (orS x x2) = true := by
  unfold filB at *
  rw [orS_size h2]; exact h
theorem bothB_parts {n n2 : Int} {x x2 : ByteArray} (h : bothB n x n2 x2 = true) : n2 = n ∧ filB n x = true ∧ filB n x2 = true ∧ x2.size = x.size := by
  simp only [bothB, Bool.and_eq_true, beq_iff_eq] at h
  obtain ⟨⟨h1, h2⟩, rfl⟩ := h
  have := filB_size h1
  have := filB_size h2
  exact ⟨rfl, h1, h2, by omega⟩
theorem both_yes {n : Int} {x x2 : ByteArray} (h1 : filB n x = true) (h2 : filB n x2 = true) : bothB n x n x2 = true ∧ bothN n x n x2 = n ∧ bothT n x n x2 = orS x x2 := by
  have e : bothB n x n x2 = true := by simp [bothB, h1, h2]
  exact ⟨e, by simp [bothN, e], by simp [bothT, e]⟩
theorem bothT_size (n : Int) (x : ByteArray) (n2 : Int) (x2 : ByteArray) : (bothT n x n2 x2).size ≤ 32 := by
  unfold bothT
  split
  · rename_i h
    obtain ⟨_, h1, _, h3⟩ := bothB_parts h
    rw [orS_size h3]
    exact (filB_facts h1).2.2
  · decide
/-- The six keys that are asked for. -/
def sixK : List ByteArray := [⟨#[]⟩, ⟨#[97]⟩, ⟨#[98]⟩, ⟨#[97, 98]⟩, ⟨#[99]⟩, ⟨#[107, 101, 121]⟩]
theorem sixK_size (s : ByteArray) (h : s ∈ sixK) : s.size ≤ 12 := by
  simp only [sixK, List.mem_cons, List.not_mem_nil, or_false] at h
  rcases h with rfl | rfl | rfl | rfl | rfl | rfl <;> decide
theorem or_setL (l m : List UInt8) (i : Nat) (h : i / 8 < l.length) (hm : m.length = l.length) : List.zipWith (· ||| ·) (setL l i) m = setL (List.zipWith (· ||| ·) l m) i := by
  apply List.ext_getElem
  · simp [setL]
  · intro q h1 h2
    have hql : q < l.length := by simp [setL] at h1; omega
    simp only [setL, List.getElem_zipWith, List.getElem_set]
    by_cases e : i / 8 = q
    · subst e
      simp only [if_true, List.getD, List.getElem?_eq_getElem hql, List.getElem?_eq_getElem (show i / 8 < (List.zipWith (· ||| ·) l m).length by rw [List.length_zipWith]; omega), Option.getD_some, List.getElem_zipWith, bitC]
      generalize (1 : UInt8) <<< UInt8.ofNat (i % 8) = z
      rw [UInt8.or_assoc, UInt8.or_comm z, ← UInt8.or_assoc]
    · simp only [if_neg e]
theorem or_addL (n : Int) (s : ByteArray) (l m : List UInt8) (h : ∀ k, plN n s k / 8 < l.length) (hm : m.length = l.length) : List.zipWith (· ||| ·) (addL n s l) m = addL n s (List.zipWith (· ||| ·) l m) := by
  unfold addL
  have e1 : (setL l (plN n s 0)).length = l.length := setL_length _ _
  have e2 : (setL (setL l (plN n s 0)) (plN n s 1)).length = l.length := by rw [setL_length, e1]
  rw [or_setL _ _ _ (by rw [e2]; exact h 2) (by rw [e2]; exact hm), or_setL _ _ _ (by rw [e1]; exact h 1) (by rw [e1]; exact hm), or_setL _ _ _ (h 0) hm]
theorem or_ofL (n : Int) (rs : List RowV) (l m : List UInt8) (k : Nat) (h0 : 8 ≤ n) (h8 : n % 8 = 0) (hk : (k : Int) = n / 8) (hl : l.length = k) (hm : m.length = k) : List.zipWith (· ||| ·) (ofL n rs l) m = ofL n rs (List.zipWith (· ||| ·) l m) := by
  unfold ofL
  induction rs generalizing l with
  | nil => rfl
  | cons r rs ih =>
    rw [List.foldl_cons, List.foldl_cons, ih (addL n r.key l) (by rw [addL_length]; exact hl), or_addL n r.key l m (by rw [hl]; exact plN_lt n r.key k h0 h8 hk) (by omega)]
theorem zero_or (m : List UInt8) : List.zipWith (· ||| ·) (List.replicate m.length (0 : UInt8)) m = m := by
  apply List.ext_getElem
  · simp
  · intro q h1 h2; simp
theorem or_both (n : Int) (a b : List RowV) (h0 : 8 ≤ n) (h8 : n % 8 = 0) : List.zipWith (· ||| ·) (ofL n a (zeroL n)) (ofL n b (zeroL n)) = ofL n a (ofL n b (zeroL n)) := by
  have e : (ofL n b (zeroL n)).length = (n / 8).toNat := by rw [ofL_length]; simp [zeroL]
  rw [or_ofL n a (zeroL n) _ (n / 8).toNat h0 h8 (by omega) (by simp [zeroL]) e]
  congr 1
  have := zero_or (ofL n b (zeroL n))
  rw [e] at this
  exact this
theorem ofS_size (rs : List RowV) (n : Int) (h0 : 8 ≤ n) : ((ofS rs n).size : Int) = n / 8 := by
  have : (ofS rs n).size = (n / 8).toNat := by simp [ofS, ByteArray.size, ofL_length, zeroL]
  omega
theorem ofS_or (n : Int) (a b : List RowV) (h0 : 8 ≤ n) (h8 : n % 8 = 0) : orS (ofS a n) (ofS b n) = ofS (a ++ b) n := by
  have s1 := ofS_size a n h0
  have s2 := ofS_size b n h0
  apply ba_ext
  rw [orS_data (by omega)]
  show List.zipWith (· ||| ·) (ofL n a (zeroL n)) (ofL n b (zeroL n)) = ofL n (a ++ b) (zeroL n)
  rw [List.zipWith_comm]
  have e : (fun (x y : UInt8) => y ||| x) = (fun x y => x ||| y) := by funext x y; exact UInt8.or_comm _ _
  rw [e, or_both n b a h0 h8]
  unfold ofL
  rw [List.foldl_append]
theorem leB_addL (n : Int) (s : ByteArray) (l : List UInt8) (h : ∀ k, plN n s k / 8 < l.length) : LeB l (addL n s l) := by
  unfold addL
  have e1 : (setL l (plN n s 0)).length = l.length := setL_length _ _
  have e2 : (setL (setL l (plN n s 0)) (plN n s 1)).length = l.length := by rw [setL_length, e1]
  exact ((LeB.setL _ _ (h 0)).trans (LeB.setL _ _ (by rw [e1]; exact h 1))).trans (LeB.setL _ _ (by rw [e2]; exact h 2))
theorem hasK_addL (n : Int) (s : ByteArray) (l : List UInt8) (h : ∀ k, plN n s k / 8 < l.length) : hasK n s (addL n s l) = true := by
  have e1 : (setL l (plN n s 0)).length = l.length := setL_length _ _
  have e2 : (setL (setL l (plN n s 0)) (plN n s 1)).length = l.length := by rw [setL_length, e1]
  have g2 := hasL_setL (setL (setL l (plN n s 0)) (plN n s 1)) (plN n s 2) (by rw [e2]; exact h 2)
  have u2 := LeB.setL (setL (setL l (plN n s 0)) (plN n s 1)) (plN n s 2) (by rw [e2]; exact h 2)
  have u1 := LeB.setL (setL l (plN n s 0)) (plN n s 1) (by rw [e1]; exact h 1)
  have g1 := hasL_mono u2 (hasL_setL (setL l (plN n s 0)) (plN n s 1) (by rw [e1]; exact h 1))
  have g0 := hasL_mono (u1.trans u2) (hasL_setL l (plN n s 0) (h 0))
  unfold hasK
  unfold addL
  rw [g0, g1, g2]; rfl
theorem leB_ofL (n : Int) (rs : List RowV) (l : List UInt8) (k : Nat) (h0 : 8 ≤ n) (h8 : n % 8 = 0) (hk : (k : Int) = n / 8) (hl : l.length = k) : LeB l (ofL n rs l) := by
  unfold ofL
  induction rs generalizing l with
  | nil => exact LeB.refl _
  | cons r rs ih =>
    rw [List.foldl_cons]
    exact (leB_addL n r.key l (by rw [hl]; exact plN_lt n r.key k h0 h8 hk)).trans (ih (addL n r.key l) (by rw [addL_length]; exact hl))
theorem ofS_has (n : Int) (rs : List RowV) (i : Nat) (r : RowV) (hr : rs[i]? = some r) (h0 : 8 ≤ n) (h1 : n ≤ 256) (h8 : n % 8 = 0) (hs : r.key.size ≤ 12) : hasB n (ofS rs n) r.key = true := by
  have s1 := ofS_size rs n h0
  have hf : filB n (ofS rs n) = true := decide_eq_true ⟨h0, h1, h8, s1⟩
  rw [hasB_eq hf hs]
  obtain ⟨hi, e⟩ := List.getElem?_eq_some_iff.1 hr
  have e1 : rs = rs.take i ++ r :: rs.drop (i + 1) := by rw [← e, ← List.drop_eq_getElem_cons hi, List.take_append_drop]
  show hasK n r.key (ofL n rs (zeroL n)) = true
  have hk : (((n / 8).toNat : Nat) : Int) = n / 8 := by omega
  have e2 : ofL n rs (zeroL n) = ofL n (rs.drop (i + 1)) (addL n r.key (ofL n (rs.take i) (zeroL n))) := by
    conv => lhs; rw [e1]
    unfold ofL
    rw [List.foldl_append, List.foldl_cons]
  have hl : (ofL n (rs.take i) (zeroL n)).length = (n / 8).toNat := by rw [ofL_length]; simp [zeroL]
  have u := leB_ofL n (rs.drop (i + 1)) (addL n r.key (ofL n (rs.take i) (zeroL n))) _ h0 h8 hk (by rw [addL_length]; exact hl)
  have g := hasK_addL n r.key (ofL n (rs.take i) (zeroL n)) (by rw [hl]; exact plN_lt n r.key _ h0 h8 hk)
  rw [e2]
  unfold hasK at *
  simp only [Bool.and_eq_true] at *
  exact ⟨⟨hasL_mono u g.1.1, hasL_mono u g.1.2⟩, hasL_mono u g.2⟩
end Go.Proofs.Ytohiecppakiliaa

namespace Go.Proofs.Ytohiecppakiliaa
open Go.RowKit

theorem own_slice2 {w : World} {base e s n : Nat} {v : Value} {xs : List Value} (h : w.ownsRow base e s v n xs) : ∃ a cap, v = .slice a n cap ∧ n ≤ cap := by
  rcases h.2 with ⟨rfl, rfl⟩ | ⟨g, c, cur, rfl, _, _, h1, _⟩
  · exact ⟨_, _, rfl, Nat.le_refl _⟩
  · exact ⟨_, _, rfl, h1⟩
theorem run_append_none {P : Program} (w : World) (t ty e : TypeId) (i : TypeInfo) (ht : P.underlying t = some (.slice e)) (hi : P.info? e = some i) (b : Option Addr) (n cap c : Nat) (h : n ≤ cap) : (Builtin.append_ #[t, t] ty #[.slice b n cap, .slice none 0 c]).run P w = .ok (.slice b n cap) w := by
  cases b <;> simp [Builtin.append_, run_underlying ht, sizeOf, typeInfo, hi, Builtin.lenOf, Builtin.firstCells, h, storeCells]
/-- append of a slice that can be read. -/
theorem run_append_rd {P : Program} (w : World) (base : Nat) (t ty e : TypeId) (i : TypeInfo) (z : Value) (size bytes : Nat) (ht : P.underlying t = some (.slice e)) (hi : P.info? e = some i) (hz : i.zero = some z)
    (hsize : i.size = size) (hby : i.bytes = bytes) (hzs : z.cells.size = size) (hsz : 0 < size)
    (v : Value) (n : Nat) (xs : List Value) (hown : w.ownsRow base e size v n xs)
    (ao : Option Addr) (B m c : Nat) (news : List Value) (hR : Rd w B size ao m news) (h1 : ∀ u ∈ news, u.oneCell' = true)
    (h63 : n + m ≤ maxLen) (hbytes : (n + m) * bytes ≤ 140737488355328) (hbase : base ≤ w.heap.size) :
    ∃ v' w', (Builtin.append_ #[t, t] ty #[v, .slice ao m c]).run P w = .ok v' w' ∧ w'.ownsRow base e size v' (n + m) (xs ++ news) ∧ w.grownBy w' v.ownBlock ∧ (v'.ownBlock = v.ownBlock ∨ v'.ownBlock = some w.heap.size) := by
  cases ao with
  | none =>
    obtain rfl : m = 0 := by
      rcases Nat.eq_zero_or_pos m with h | h
      · exact h
      · obtain ⟨b, off, e, _⟩ := hR.2 h; cases e
    have hn : news = [] := List.eq_nil_of_length_eq_zero (by have := hR.1; omega)
    subst hn
    obtain ⟨b, cap, rfl, hc⟩ := own_slice2 hown
    refine ⟨_, w, run_append_none w t ty e i ht hi b n cap c hc, by simpa using hown, World.grownBy.refl _ _, .inl rfl⟩
  | some x =>
    obtain ⟨v', w', r1, r2, r3, _, r5⟩ := run_append_own_at (P := P) w base t ty e i z size bytes ht hi hz hsize hby hzs hsz v n xs hown x m c news hR.1 (fun j u hu => by
      have hj := (List.getElem?_eq_some_iff.1 hu).1
      have hm : 0 < m := by
        rcases Nat.eq_zero_or_pos m with h | h
        · subst h; have := hR.1; omega
        · exact h
      obtain ⟨b, off, e, _, hc⟩ := hR.2 hm
      obtain rfl : x = ⟨b, off, none⟩ := by injection e
      have : (⟨b, off, none⟩ : Addr).add j = ⟨b, off + j, none⟩ := by unfold Addr.add; split <;> simp_all
      rw [this]; exact hc j u hu) h1 h63 hbytes hbase
    exact ⟨v', w', r1, r2, r3, r5⟩
theorem wpList_append_rd {P : Program} {w : World} {ops : Array Oper} {rest : List Oper} {o : Oper} {a : Act} {Q : Exit → Act → World → Prop} (hgd : o.guard = none) (s x : Operand) (t : TypeId)
    (ho : o.op = .call { callee := .builtin .append, args := #[s, x], argTypes := #[t, t] })
    (base : Nat) (e : TypeId) (i : TypeInfo) (z : Value) (size bytes : Nat) (ht : P.underlying t = some (.slice e)) (hi : P.info? e = some i) (hz : i.zero = some z)
    (hsize : i.size = size) (hby : i.bytes = bytes) (hzs : z.cells.size = size) (hsz : 0 < size)
    (v : Value) (n : Nat) (xs : List Value) (hs : a.eval s = v) (hown : w.ownsRow base e size v n xs)
    (ao : Option Addr) (B m c : Nat) (news : List Value) (hx : a.eval x = .slice ao m c) (hR : Rd w B size ao m news) (h1 : ∀ u ∈ news, u.oneCell' = true)
    (h63 : n + m ≤ maxLen) (hbytes : (n + m) * bytes ≤ 140737488355328) (hbase : base ≤ w.heap.size)
    (h : ∀ v' w', w'.ownsRow base e size v' (n + m) (xs ++ news) → w.grownBy w' v.ownBlock → (v'.ownBlock = v.ownBlock ∨ v'.ownBlock = some w.heap.size) → wpList P ops Q rest (a.put o.dst v') w') :
    wpList P ops Q (o :: rest) a w := by
  refine wpList_plain hgd fun K hK => ?_
  obtain ⟨v', w', hr, h2, h3, h5⟩ := run_append_rd (P := P) w base t o.type e i z size bytes ht hi hz hsize hby hzs hsz v n xs hown ao B m c news hR h1 h63 hbytes hbase
  unfold Oper.wp execOp
  simp only [ho, resolve, invoke, builtin, Sem.run_bind, Sem.run_pure, Result.andThen_ok, List.map_toArray, List.map_cons, List.map_nil, hs, hx, hr]
  exact hK _ _ (h v' w' h2 h3 h5)
theorem step_append_rd {P : Program} {ops : Array Oper} {o : Oper} {a : Act} {w : World} {K : Act → World → Prop} {Q : Exit → Act → World → Prop} {E : Prop}
    (hgd : o.guard = none) (s x : Operand) (t : TypeId) (hop : o.op = Op.call { callee := Callee.builtin Builtin.append, args := #[s, x], argTypes := #[t, t] })
    (base : Nat) (e : TypeId) (i : TypeInfo) (z : Value) (size bytes : Nat) (ht : P.underlying t = some (.slice e)) (hi : P.info? e = some i) (hz : i.zero = some z)
    (hsize : i.size = size) (hby : i.bytes = bytes) (hzs : z.cells.size = size) (hsz : 0 < size)
    (v : Value) (n : Nat) (xs : List Value) (hs : a.eval s = v) (hown : w.ownsRow base e size v n xs)
    (ao : Option Addr) (B m c : Nat) (news : List Value) (hx : a.eval x = .slice ao m c) (hR : Rd w B size ao m news) (h1 : ∀ u ∈ news, u.oneCell' = true)
    (h63 : n + m ≤ maxLen) (hbytes : (n + m) * bytes ≤ 140737488355328) (hbase : base ≤ w.heap.size)
    (h : ∀ v' w', w'.ownsRow base e size v' (n + m) (xs ++ news) → w.grownBy w' v.ownBlock → (v'.ownBlock = v.ownBlock ∨ v'.ownBlock = some w.heap.size) → K (a.put o.dst v') w') :
    if Region.wanted o (yielded ops a.tmps) = true then Oper.wp P o a w K Q else E := by
  have hw : Region.wanted o (yielded ops a.tmps) = true := by simp [Region.wanted, hgd]
  rw [if_pos hw]
  obtain ⟨v', w', hr, h2, h3, h5⟩ := run_append_rd (P := P) w base t o.type e i z size bytes ht hi hz hsize hby hzs hsz v n xs hown ao B m c news hR h1 h63 hbytes hbase
  unfold Oper.wp
  simp [execOp, hop, resolve, invoke, builtin, hs, hx, hr, Result.andThen]
  exact h v' w' h2 h3 h5
end Go.Proofs.Ytohiecppakiliaa

namespace Go.Proofs.Ytohiecppakiliaa
open Go.RowKit

set_option maxRecDepth 100000 in
theorem step_sorted {ops : Array Oper} {o : Oper} {a : Act} {w : World} {K : Act → World → Prop} {Q : Exit → Act → World → Prop} {E : Prop}
    (hgd : o.guard = none) (x : Nat) (t : TypeId) (hop : o.op = Op.call { callee := .value (.func 40), args := #[.tmp x], argTypes := #[t] })
    (v : Value) (hv : a.tmps[x]?.getD undef = v) (R : Ending → World → Prop) (hc : Calls Try.prog 40 #[v] w R) (h : ∀ e w', R e w' → ∃ v, e = .returned v ∧ K (a.put o.dst v) w') :
    if Region.wanted o (yielded ops a.tmps) = true then Oper.wp Try.prog o a w K Q else E := by
  have hw : Region.wanted o (yielded ops a.tmps) = true := by simp [Region.wanted, hgd]
  rw [if_pos hw]
  unfold Oper.wp
  simp only [execOp, hop, resolve, invoke]
  have he : a.eval (Operand.func 40) = .func (.func 40) #[] #[] := rfl
  rw [he]
  go_simp
  refine hc.mono ?_
  intro e w' hr
  obtain ⟨v', rfl, hk⟩ := h e w' hr
  exact hk
end Go.Proofs.Ytohiecppakiliaa

namespace Go.Proofs.Ytohiecppakiliaa
open Go.RowKit

theorem rowsOk_sub {l : List RowV} (h : rowsOk l = true) {m : List RowV} (hs : m.Sublist l) : rowsOk m = true := by
  unfold rowsOk at h ⊢
  rw [Bool.and_eq_true] at h ⊢
  refine ⟨decide_eq_true ?_, List.all_eq_true.2 fun x hx => List.all_eq_true.1 h.2 x (hs.subset hx)⟩
  have := of_decide_eq_true h.1
  have := hs.length_le
  omega
theorem pieces_perm (l : List RowV) (k : Nat) : (sortL (l.take k) ++ l.drop k).Perm l := by
  have := (sortL_perm' (l.take k)).append_right (l.drop k)
  rwa [List.take_append_drop] at this
/-- The first k rows, and the others, of rows that can be read. -/
theorem Rd.take {w : World} {B n k : Nat} {a : Option Addr} {rs : List RowV} (h : Rd w B 3 a n (flat rs)) (hk : k ≤ n) : Rd w B 3 a k (flat (rs.take k)) := by
  have hl := h.rows_length
  refine ⟨by rw [flat_length, List.length_take, hl, Nat.min_eq_left hk], fun hp => ?_⟩
  obtain ⟨b, off, e, hb, hc⟩ := h.2 (by omega)
  exact ⟨b, off, e, hb, fun j u hu => hc j u (flat_get_take hu)⟩
theorem Rd.drop {w : World} {B n k g o : Nat} {rs : List RowV} (h : Rd w B 3 (some ⟨g, o, none⟩) n (flat rs)) (hk : k ≤ n) : Rd w B 3 (some ⟨g, o + k * 3, none⟩) (n - k) (flat (rs.drop k)) := by
  have hl := h.rows_length
  refine ⟨by rw [flat_length, List.length_drop, hl], fun hp => ?_⟩
  obtain ⟨b, off, e, hb, hc⟩ := h.2 (by omega)
  obtain ⟨rfl, rfl⟩ : g = b ∧ o = off := by injection e with e; injection e with e1 e2; exact ⟨e1, e2⟩
  refine ⟨g, o + k * 3, rfl, hb, fun j u hu => ?_⟩
  have := hc (k * 3 + j) u (flat_get_drop (by rw [hl]; exact hk) hu)
  rwa [← Nat.add_assoc] at this
theorem Rd.drop_if {w : World} {B n k cap g : Nat} {rs : List RowV} (h : Rd w B 3 (some ⟨g, 0, none⟩) n (flat rs)) (hk : k ≤ n) (hn : n ≤ cap) : Rd w B 3 (if cap = k then some ⟨g, 0, none⟩ else some ⟨g, k * 3, none⟩) (n - k) (flat (rs.drop k)) := by
  have h1 := h.drop hk
  rw [Nat.zero_add] at h1
  split
  · refine ⟨h1.1, fun hp => ?_⟩
    omega
  · exact h1
end Go.Proofs.Ytohiecppakiliaa

namespace Go.Proofs.Ytohiecppakiliaa
open Go.RowKit
set_option maxRecDepth 100000 in
theorem drawFilterOf_any (a : Option Addr) (len cap : Nat) (w : World) (hl : len ≤ 1048576) (h : IsBy w w.heap.size a len) :
    Calls Try.prog 24 #[.slice a len cap] w fun e w' => ∃ (l : List RowV) (t : Int) (b c : Nat), l.length ≤ 6 ∧ (∀ r ∈ l, r.Ok) ∧ l.length ≤ c ∧ e = .returned (.tuple #[.slice (some ⟨b, 0, none⟩) l.length c, .int .i64 t]) ∧ Rd w' w'.heap.size 3 (some ⟨b, 0, none⟩) l.length (flat l) ∧ Below w.heap.size w w' := by
  go_enter Try.func24, Try.ntmps24
  go_wp2_with fail
  refine (l1Open_any a len cap w hl h).mono ?_
  rintro e w1 ⟨rfl, hR1, hb1⟩
  go_wp2_with fail
  refine (rows_lit w.heap.size len 6 _ _ hR1 (by omega) (by omega) (by omega)).mono ?_
  rintro e w2 ⟨l, b, c, hll, hok, rfl, hO, hD⟩
  have hlt := hR1.lt
  have hcap := own_cap hO
  go_wp2_with fail
  refine (below_lit w.heap.size len 12 _ _ hD.rdr (by omega) (by omega) (by omega)).mono ?_
  rintro e w3 ⟨z, hz, rfl, hD3⟩
  have hO3 := Rd.of_own (hD3.own hO hlt)
  have hb3 := below_drew hb1 (hD.trans hD3)
  clear hO
  go_wp2_with fail
  go_ret2
  exact ⟨l, _, b, c, hll, hok, hcap, rfl, hO3, hb3⟩
theorem IsBy.on {w w' : World} {a : Option Addr} {n : Nat} (h : IsBy w w.heap.size a n) (hb : Below w.heap.size w w') : IsBy w' w'.heap.size a n := by
  obtain ⟨xs, h1, h2⟩ := h
  exact ⟨xs, (h1.below hb (Nat.le_refl _)).more hb.size, h2⟩
theorem ofV_of {rs : List RowV} {n : Int} (h1 : rowsOk rs = true) (h2 : sizeB n = true) : ofV rs n = .tuple #[.agg #[.int .i64 n, .string (ofS rs n)], .bool true] := ofV_yes (by simp [ofOk, h1, h2])
set_option maxRecDepth 100000 in
set_option maxHeartbeats 4000000 in
theorem walk_FilterOf (a : Option Addr) (len cap : Nat) (xs : List Value) (w : World) (hI : IsCode w a len cap xs) :
    Calls Try.prog 5 #[.slice a len cap] w fun e w' => e = .returned (.bool true) ∧ Below w.heap.size w w' := by
  have hI0 := hI.by_
  obtain ⟨hlc, hcm, _, _⟩ := hI
  go_enter Try.func5, Try.ntmps5
  go_wp2_with fail
  refine (big_any a len cap w (by omega)).mono ?_
  rintro e w0 ⟨rfl, rfl⟩
  by_cases hbig : 1048576 < len
  · have hd : decide (1048576 < len) = true := by simpa using hbig
    rw [hd]
    go_wp2_with fail
    go_ret
    exact ⟨rfl, Below.refl _ _⟩
  have hd : decide (1048576 < len) = false := by simpa using hbig
  rw [hd]
  go_wp2_with fail
  refine (drawFilterOf_any a len cap w (by omega) hI0).mono ?_
  rintro e w1 ⟨l, n, lb, lc, hll, hok, hlcap, rfl, L, B⟩
  obtain ⟨fn, ft, fb, e1⟩ : ∃ rn rt rb, ofV l n = .tuple #[.agg #[.int .i64 rn, .string rt], .bool rb] := ⟨_, _, _, rfl⟩
  have CI := fun w h => implFilterOf_any (some ⟨lb, 0, none⟩) l.length lc l n w (by omega) hok h
  have CS := fun w h => specFilterOf_any (some ⟨lb, 0, none⟩) l.length lc l n w (by omega) hok h
  rw [e1] at CI CS
  have HE := Lib.hid e1
  clear e1
  go_wp2_with fail
  refine (CI _ L).mono ?_
  rintro e w2 ⟨rfl, hb⟩
  replace B := B.trans (hb.mono B.size)
  replace L := (L.below hb (Nat.le_refl _)).more hb.size
  clear hb
  clear CI
  have FF := FVar.new w2 fn ft 25
  have hb := bl1 w2 (.cells #[.int .i64 fn, .string ft] 25)
  replace B := B.trans (hb.mono B.size)
  replace L := (L.below hb (Nat.le_refl _)).more hb.size
  clear hb
  go_wp2_with fail
  generalize w2.alloc (.cells #[.int .i64 fn, .string ft] 25) = w3 at *
  generalize w2.heap.size = F0 at *
  refine (CS _ L).mono ?_
  rintro e w4 ⟨rfl, hb⟩
  replace B := B.trans (hb.mono B.size)
  replace L := (L.below hb (Nat.le_refl _)).more hb.size
  replace FF := FF.below hb FF.2.2
  clear hb
  clear CS
  have FW := FVar.new w4 fn ft 25
  have hb := bl1 w4 (.cells #[.int .i64 fn, .string ft] 25)
  replace B := B.trans (hb.mono B.size)
  replace L := (L.below hb (Nat.le_refl _)).more hb.size
  replace FF := FF.below hb FF.2.2
  clear hb
  go_wp2_with fail
  generalize w4.alloc (.cells #[.int .i64 fn, .string ft] 25) = w5 at *
  generalize w4.heap.size = W0 at *
  refine (drawFilterBoth_any a len cap w5 (by omega) (hI0.on B)).mono ?_
  rintro e w6 ⟨n1, x, n2, x2, hx, hx2, rfl, hb⟩
  replace B := B.trans (hb.mono B.size)
  replace L := (L.below hb (Nat.le_refl _)).more hb.size
  replace FF := FF.below hb FF.2.2
  replace FW := FW.below hb FW.2.2
  clear hb
  have hxm : x.size ≤ maxLen := by unfold maxLen; omega
  have hx2m : x2.size ≤ maxLen := by unfold maxLen; omega
  have hb := bl2 w6 (.cells #[.int .i64 n1, .string x] 25) (.cells #[.int .i64 n2, .string x2] 25)
  replace B := B.trans (hb.mono B.size)
  replace L := (L.below hb (Nat.le_refl _)).more hb.size
  replace FF := FF.below hb FF.2.2
  replace FW := FW.below hb FW.2.2
  clear hb
  have FA := (FVar.new w6 n1 x 25).below (bl1 _ (.cells #[.int .i64 n2, .string x2] 25)) (by simp)
  have FB := FVar.new (w6.alloc (.cells #[.int .i64 n1, .string x] 25)) n2 x2 25
  simp only [World.size_alloc] at FB
  go_wp2_with fail
  generalize (w6.alloc (.cells #[.int .i64 n1, .string x] 25)).alloc (.cells #[.int .i64 n2, .string x2] 25) = w7 at *
  generalize w6.heap.size = A0 at *
  obtain ⟨cn, ct, cb, e1⟩ : ∃ cn ct cb, bothN n1 x n2 x2 = cn ∧ bothT n1 x n2 x2 = ct ∧ bothB n1 x n2 x2 = cb := ⟨_, _, _, rfl, rfl, rfl⟩
  have CI := fun w => implBoth_any n1 x n2 x2 w hxm hx2m
  have CS := fun w => specBoth_any n1 x n2 x2 w hxm hx2m
  rw [e1.1, e1.2.1, e1.2.2] at CI CS
  clear e1
  refine (CI _).mono ?_
  rintro e w8 ⟨rfl, hb⟩
  replace B := B.trans (hb.mono B.size)
  replace L := (L.below hb (Nat.le_refl _)).more hb.size
  replace FF := FF.below hb FF.2.2
  replace FW := FW.below hb FW.2.2
  replace FA := FA.below hb FA.2.2
  replace FB := FB.below hb FB.2.2
  clear hb
  clear CI
  have FC := FVar.new w8 cn ct 25
  have hb := bl1 w8 (.cells #[.int .i64 cn, .string ct] 25)
  replace B := B.trans (hb.mono B.size)
  replace L := (L.below hb (Nat.le_refl _)).more hb.size
  replace FF := FF.below hb FF.2.2
  replace FW := FW.below hb FW.2.2
  replace FA := FA.below hb FA.2.2
  replace FB := FB.below hb FB.2.2
  clear hb
  have ⟨fa0, fa1⟩ := FA.1
  have ⟨fb0, fb1⟩ := FB.1
  go_wp2_with fail
  clear fa0 fa1 fb0 fb1
  generalize w8.alloc (.cells #[.int .i64 cn, .string ct] 25) = w9 at *
  generalize w8.heap.size = C0 at *
  refine (CS _).mono ?_
  rintro e w10 ⟨rfl, hb⟩
  replace B := B.trans (hb.mono B.size)
  replace L := (L.below hb (Nat.le_refl _)).more hb.size
  replace FF := FF.below hb FF.2.2
  replace FW := FW.below hb FW.2.2
  replace FA := FA.below hb FA.2.2
  replace FB := FB.below hb FB.2.2
  replace FC := FC.below hb FC.2.2
  clear hb
  clear CS
  have FD := FVar.new w10 cn ct 25
  have hb := bl1 w10 (.cells #[.int .i64 cn, .string ct] 25)
  replace B := B.trans (hb.mono B.size)
  replace L := (L.below hb (Nat.le_refl _)).more hb.size
  replace FF := FF.below hb FF.2.2
  replace FW := FW.below hb FW.2.2
  replace FA := FA.below hb FA.2.2
  replace FB := FB.below hb FB.2.2
  replace FC := FC.below hb FC.2.2
  clear hb
  have hne : (fb != fb) = false := by simp
  have hne2 : (cb != cb) = false := by simp
  have heq : (fb == fb) = true := by simp
  have heq2 : (cb == cb) = true := by simp
  cases fb
  · have ⟨ff0, ff1⟩ := FF.1
    have ⟨fw0, fw1⟩ := FW.1
    have ⟨fc0, fc1⟩ := FC.1
    have ⟨fd0, fd1⟩ := FD.1
    go_wp2_with fail
    go_ret
    exact ⟨rfl, B⟩
  have hok2 : rowsOk l = true ∧ sizeB n = true := by
    have h := HE.out
    unfold ofV at h
    have : ofOk l n = true := by injection h with h; simp at h; exact h.2
    unfold ofOk at this
    simpa using this
  have E := ofV_of hok2.1 hok2.2
  rw [HE.out] at E
  obtain ⟨rfl, rfl⟩ : fn = n ∧ ft = ofS l fn := by
    injection E with E
    simp at E
    obtain ⟨rfl, e⟩ := E
    exact ⟨rfl, e⟩
  clear E HE
  obtain ⟨q0, q1, q8⟩ := sizeB_all hok2.2
  obtain ⟨k, hk1, hk2⟩ : ∃ k : Nat, k ≤ l.length ∧ (k : Int) = (len : Int) % ((l.length : Int) + 1) := ⟨len % (l.length + 1), by have := Nat.mod_lt len (show 0 < l.length + 1 by omega); omega, by simp⟩
  have Hk := Lib.hid hk2
  have Hkn := Lib.hid (show len % (l.length + 1) = k by have h := hk2; exact (Int.ofNat.inj (by simpa using h)).symm)
  have hokA : ∀ r ∈ l.take k, r.Ok := fun r hr => hok r (List.mem_of_mem_take hr)
  have hokD : ∀ r ∈ l.drop k, r.Ok := fun r hr => hok r (List.mem_of_mem_drop hr)
  have HA := Lib.hid (ofV_of (rowsOk_sub hok2.1 (List.take_sublist k l)) hok2.2)
  have HD := Lib.hid (ofV_of (rowsOk_sub hok2.1 (List.drop_sublist k l)) hok2.2)
  have hfA : filB fn (ofS (l.take k) fn) = true := decide_eq_true ⟨q0, q1, q8, ofS_size _ fn q0⟩
  have hfD : filB fn (ofS (l.drop k) fn) = true := decide_eq_true ⟨q0, q1, q8, ofS_size _ fn q0⟩
  obtain ⟨y3, y1, y2⟩ := both_yes hfA hfD
  have CB := fun w => implBoth_any fn (ofS (l.take k) fn) fn (ofS (l.drop k) fn) w (by have := (filB_facts hfA).2.2; unfold maxLen; omega) (by have := (filB_facts hfD).2.2; unfold maxLen; omega)
  rw [y3, y1, y2, ofS_or fn _ _ q0 q8, List.take_append_drop] at CB
  clear y1 y2 y3
  have hfs : (ofS l fn).size ≤ maxLen := by have := ofS_size l fn q0; unfold maxLen; omega
  have HH := Lib.hid (show ∀ (i : Nat) (r : RowV), l[i]? = some r → hasB fn (ofS l fn) r.key = true from fun i r hr => ofS_has fn l i r hr q0 q1 q8 (rowOk_key hok2.1 hr))
  have HKs := Lib.hid (show ∀ (i : Nat) (r : RowV), l[i]? = some r → r.key.size ≤ 12 from fun i r hr => rowOk_key hok2.1 hr)
  clear hk2 hok2 hfA hfD
  obtain ⟨ta, hta⟩ : ∃ x, ofS (l.take k) fn = x := ⟨_, rfl⟩
  obtain ⟨td, htd⟩ : ∃ x, ofS (l.drop k) fn = x := ⟨_, rfl⟩
  obtain ⟨tf, htf⟩ : ∃ x, ofS l fn = x := ⟨_, rfl⟩
  rw [hta, htd, htf] at CB
  rw [htf] at HH hfs FF FW
  have HTA := Lib.hid hta
  have HTD := Lib.hid htd
  rw [htf]
  clear hta htd htf
  have ⟨ff0, ff1⟩ := FF.1
  have ⟨fw0, fw1⟩ := FW.1
  have ⟨fc0, fc1⟩ := FC.1
  have ⟨fd0, fd1⟩ := FD.1
  go_wp2_with fail
  clear ff0 ff1 fw0 fw1 fc0 fc1 fd0 fd1
  generalize w10.alloc (.cells #[.int .i64 cn, .string ct] 25) = w11 at *
  generalize w10.heap.size = D0 at *
  go_loopw [15] (fun i wr => ∃ j : Nat, j ≤ l.length ∧ i = .int .i64 j ∧ Below w11.heap.size w11 wr) (fun i _ => l.length - (intOf i).toNat)
  case atStart => exact ⟨0, Nat.zero_le _, rfl, Below.refl _ _⟩
  case round =>
    obtain ⟨j, hj, rfl, hb⟩ := hrel
    by_cases hlt : j < l.length
    · obtain ⟨b1, o1, r, e1, hB1, hr, c0, c1, c2⟩ := (L.below hb (Nat.le_refl _)).row hlt
      cases e1
      simp only [Nat.zero_add] at c0 c1 c2
      have hs := HKs.out j r hr
      have hh := HH.out j r hr
      clear hr
      obtain ⟨key, tag, val⟩ := r
      replace hs : key.size ≤ 12 := hs
      have ⟨f0, f1⟩ := (FF.below hb FF.2.2).1
      have C := fun w => implFilterHas_any fn tf key w hfs (by unfold maxLen; omega)
      rw [hh] at C
      clear hh
      go_wp2_with fail
      refine wp_region_still_tail 6 (by kernel_rfl) (by kernel_rfl) ?_
      simp only [List.take_succ_cons, List.take_zero, List.drop_succ_cons, List.drop_zero]
      change wpStill _ _ wr.drew _ _ _
      repeat still_step
      refine wpStill_nil ?_
      change wpList _ _ _ _ _ wr.drew
      go_wp2_with fail
      refine (C _).mono ?_
      rintro e w20 ⟨rfl, hb1⟩
      have b9 : Below w11.heap.size w11 w20 := hb.trans (((Below.refl wr.heap.size wr).drew.trans hb1).mono hb.size)
      clear c0 c1 c2 f0 f1 C hb1
      go_wp2_with fail
      go_roundw
      case rel => exact ⟨j + 1, by omega, by go_num, b9⟩
      case measure => simp [intOf]; omega
    · obtain rfl : j = l.length := by omega
      replace L := (L.below hb (Nat.le_refl _)).more hb.size
      replace FF := FF.below hb FF.2.2
      replace B := B.trans (hb.mono B.size)
      clear hb FW FC FD HH HKs
      have C := implFilterOf_any (some ⟨lb, 0, none⟩) k lc (l.take k) fn wr (by omega) hokA (L.take hk1)
      rw [HA.out, HTA.out] at C
      have hr1 : 0 ≤ (len : Int) % ((l.length : Int) + 1) ∧ (len : Int) % ((l.length : Int) + 1) ≤ (lc : Int) := by rw [← Hk.out]; omega
      go_wp2_with fail
      rw [← Hk.out]
      rw [Hkn.out]
      refine C.mono ?_
      clear C hr1
      rintro e w21 ⟨rfl, hb⟩
      replace L := (L.below hb (Nat.le_refl _)).more hb.size
      replace FF := FF.below hb FF.2.2
      replace B := B.trans (hb.mono B.size)
      clear hb
      have XA := FVar.new w21 fn ta 25
      have hb := bl1 w21 (.cells #[.int .i64 fn, .string ta] 25)
      replace L := (L.below hb (Nat.le_refl _)).more hb.size
      replace FF := FF.below hb FF.2.2
      replace B := B.trans (hb.mono B.size)
      clear hb
      have hkl : (k : Int) ≤ (l.length : Int) := by omega
      have C := implFilterOf_any _ (l.length - k) (lc - k) (l.drop k) fn (w21.alloc (.cells #[.int .i64 fn, .string ta] 25)) (by omega) hokD (L.drop_if hk1 hlcap)
      rw [HD.out, HTD.out] at C
      go_wp2_with fail
      all_goals
        first
          | rw [if_pos (by assumption), show lc - k = 0 by omega] at C
          | rw [if_neg (by assumption)] at C
        refine C.mono ?_
        clear C L
        rintro e w23 ⟨rfl, hb⟩
        replace XA := XA.below hb XA.2.2
        replace FF := FF.below hb FF.2.2
        replace B := B.trans (hb.mono B.size)
        clear hb
        have XD := FVar.new w23 fn td 25
        have hb := bl1 w23 (.cells #[.int .i64 fn, .string td] 25)
        replace XA := XA.below hb XA.2.2
        replace FF := FF.below hb FF.2.2
        replace B := B.trans (hb.mono B.size)
        clear hb
        have ⟨p0, p1⟩ := XA.1
        have ⟨d0, d1⟩ := XD.1
        go_wp2_with fail
        clear p0 p1 d0 d1
        refine (CB _).mono ?_
        rintro e w24 ⟨rfl, hb⟩
        replace FF := FF.below hb FF.2.2
        replace B := B.trans (hb.mono B.size)
        clear hb XA XD
        have hb := bl1 w24 (.cells #[.int .i64 fn, .string tf] 25)
        replace FF := FF.below hb FF.2.2
        replace B := B.trans (hb.mono B.size)
        clear hb
        have ⟨f0, f1⟩ := FF.1
        go_wp2_with fail
        go_ret
        exact ⟨rfl, B⟩
end Go.Proofs.Ytohiecppakiliaa

namespace Go.Proofs.Ytohiecppakiliaa
open Go.ChangeShapes Go.WideShapes Go.ChangeAt Go.RowKit Go.Joins
open Go.ChangeMaps (open_string shut_string)
namespace FilterOf

set_option maxRecDepth 100000 in
theorem lifted (os : Os) (started : os.Started) (H : Type) (enc : TypeId × Value → H) :
    ReturnsInHanded {} Try.checked os 5 .any (Rows.fnFilterOfSpec.pre6 enc Try.prog Try.f5 Rows.fnFilterOfRow.domain false) (Rows.fnFilterOfSpec.post enc Try.prog Try.f5 false true false false) := by
  refine returnsInHanded_of_change (C := Try.checked) own started (by kernel_rfl) Try.func5
    (ChangeSpec.witness6 (enc := enc) (C := Try.checked) false ⟨#[], #[.slice none 0 0], []⟩ 8 (by kernel_rfl) (by kernel_rfl) (by kernel_rfl) (by kernel_rfl)) ?_
  intro W base args ds gs before hval0 hW _ _
  have hval : ∀ (j : Nat) t v, Try.f5.params[j]? = some t → args[j]? = some v → Value.okWide Try.prog W .any base t v := hval0
  have hW' := hW
  obtain ⟨p, q, hA0, hV, rfl, _, _⟩ := hW
  have hA : DataW.TrodAll enc Try.prog W 0 (fun _ => true) true Try.f5.params.toList args.toList ds p := hA0
  rw [Try.params5] at hA hval
  obtain ⟨v0, vs0, d0, ds0, p0, q0, hargs, rfl, rfl, h0, r0⟩ := trodAll_cons hA
  obtain ⟨rfl, rfl, rfl⟩ := trodAll_nil r0
  obtain rfl : args = #[v0] := by cases args; simp_all
  obtain ⟨rfl, rfl⟩ := trodVars_none hV
  have k0 := h0
  have lt0 : ∀ x ∈ p0, x.block < W.heap.size := by obtain ⟨m, hm⟩ := k0; exact DataW.trod_lt m _ _ _ hm
  obtain ⟨a0, len0, cap0, z0, rfl, w0⟩ := open_Bytes (hval 0 22 v0 rfl rfl) h0
  clear hA0 hval0
  refine (walk_FilterOf a0 len0 cap0 z0 W w0).mono fun e W' ⟨he, bel⟩ => ?_
  subst he
  exact ⟨_, rfl, _, _, _, [], _, [], hW', trodAll_mk1 (shut_bool Try.underlying4 _), (trodAll_cons_mk (Below.trod laidOut (by kernel_rfl) (of_decide_eq_true (by kernel_rfl)) k0 bel lt0) trodAll_mk0), rfl, bel.frame _, fun h => by cases h⟩

theorem over : Rows.fnFilterOfRow.holds Try.pinned (OpenSpec.ofChange Rows.fnFilterOfSpec) :=
  OpenClaim.holds_of_wide 5 Try.f5 rfl rfl rfl rfl rfl rfl rfl ⟨rfl, rfl, rfl, rfl, rfl⟩ rfl rfl rfl rfl rfl (by kernel_rfl) Try.func5 (by kernel_rfl)
    (of_decide_eq_true (by kernel_rfl)) (by unfold Func.isWrapper; first | (rw [if_pos (by decide +kernel)]; kernel_rfl) | (rw [if_neg (by decide +kernel)]; exact ⟨rfl, rfl⟩))
    (fun os started H enc _ => lifted os started H enc)
end FilterOf
theorem fnFilterOf_holds : Rows.FnFilterOfSaid := FilterOf.over
end Go.Proofs.Ytohiecppakiliaa
