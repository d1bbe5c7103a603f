/-
  Rows.FnBothFiltersSaid: laws.FnBothFilters returns true for every input, and each argument reads afterwards as it read before. No conditions.
-/
import Derived.Test.YtohiecppakiliaaDrawRows
import Derived.Test.YtohiecppakiliaaFilterOfSpec
import Derived.Deep.RegionHeld3
import Derived.Test.YtohiecppakiliaaBothSpec
import Derived.Test.YtohiecppakiliaaResVar
import Derived.Test.YtohiecppakiliaaOpenBytes
import Derived.Test.YtohiecppakiliaaFilterAddImpl
import Derived.Test.YtohiecppakiliaaSame
import Derived.Deep.RegionWith
import Derived.Deep.DrawnRows
import Derived.Laws.StructEq
import Derived.Test.YtohiecppakiliaaOpen
namespace Go.Proofs.Ytohiecppakiliaa
open Go.RowKit
theorem ofT_size (rs : List RowV) (n : Int) : (ofT rs n).size ≤ 32 := by
  unfold ofT
  split
  · rename_i h
    unfold ofOk at h
    have := sizeB_all (Bool.and_eq_true _ _ ▸ h).2
    have e : (ofS rs n).size = (n / 8).toNat := by simp [ofS, ByteArray.size, ofL_length, zeroL]
    omega
  · decide
/-- A variable of type impl.Filter in a new block: its two cells, which may be written. -/
def FVar (w : World) (b : Nat) (N : Int) (x : ByteArray) : Prop := At2 w b (.int .i64 N) (.string x) ∧ FV w b
theorem FVar.new (w : World) (N : Int) (x : ByteArray) (t : TypeId) : FVar (w.alloc (.cells #[.int .i64 N, .string x] t)) w.heap.size N x := ⟨At2.new _ _ _ _, FV.new _ _ _ _⟩
theorem FVar.below {w w' : World} {B b : Nat} {N : Int} {x : ByteArray} (h : FVar w b N x) (hb : Below B w w') (hB : b < B) : FVar w' b N x := ⟨h.1.below hb hB, h.2.below hb hB⟩
theorem FVar.drew {w w' : World} {b g n : Nat} {N : Int} {x : ByteArray} (h : FVar w b N x) (hd : Drew w w' g n) (hne : b ≠ g) : FVar w' b N x := by
  have e : w'.heap[b]? = w.heap[b]? := hd.2.block b h.2.2 (fun e => hne (by injection e))
  refine ⟨⟨(World.cell?_of_block (a := ⟨b, 0, none⟩) e).trans h.1.1, (World.cell?_of_block (a := ⟨b, 1, none⟩) e).trans h.1.2⟩, fun j hj => ?_, Nat.lt_of_lt_of_le h.2.2 hd.size⟩
  rw [World.cell?_of_block (a := ⟨b, 0 + j, none⟩) e, World.frozen?_of_block (a := ⟨b, 0 + j, none⟩) e]
  exact h.2.1 j hj
theorem FVar.put {w : World} {b c : Nat} {N : Int} {x : ByteArray} (h : FVar w b N x) (hne : b ≠ c) (u v : Value) : FVar ((w.setCell ⟨c, 0, none⟩ u).setCell ⟨c, 1, none⟩ v) b N x := by
  have hg : w.grownBy ((w.setCell ⟨c, 0, none⟩ u).setCell ⟨c, 1, none⟩ v) (some c) := gb_store (gb_store (World.grownBy.refl w (some c)) 0 u) 1 v
  have e := hg.block b h.2.2 (fun e => hne (by injection e))
  refine ⟨⟨(World.cell?_of_block (a := ⟨b, 0, none⟩) e).trans h.1.1, (World.cell?_of_block (a := ⟨b, 1, none⟩) e).trans h.1.2⟩, fun j hj => ?_, Nat.lt_of_lt_of_le h.2.2 hg.size⟩
  rw [World.cell?_of_block (a := ⟨b, 0 + j, none⟩) e, World.frozen?_of_block (a := ⟨b, 0 + j, none⟩) e]
  exact h.2.1 j hj
theorem Drew.over {w w' w2 : World} {g n : Nat} (h : Drew w w' g n) (hg0 : g < w.heap.size) (hb : Below w.heap.size w' w2) : Drew w w2 g n := by
  refine ⟨?_, ⟨hb.os.trans h.2.os, hb.tape.trans h.2.tape, hb.output.trans h.2.output, Nat.le_trans h.2.size hb.size, fun k hk hne => (hb.block k hk).trans (h.2.block k hk hne)⟩⟩
  obtain ⟨h1, a2, c2, p2, h2, h3, h4⟩ := h.1
  refine ⟨h1, a2, c2, p2, h2.keep (fun b o hb' => hb.cell (p := ⟨b, o, none⟩) (show b < w.heap.size by omega)), h3, h4.1, ?_⟩
  rcases h4.2 with h0 | ⟨g', c, cur, hv, hg, hh, q1, q2, q3, q4⟩
  · exact .inl h0
  · have : g' = g := by injection hv with e; injection e with e; injection e with e1 _; exact e1.symm
    subst this
    exact .inr ⟨g', c, cur, hv, hg, (hb.block g' hg0).trans hh, q1, q2, q3, q4⟩
set_option maxRecDepth 100000 in
set_option maxHeartbeats 1000000 in
theorem filter_any (g n : Nat) (w : World) (h : Rdr w g n) :
    Calls Try.prog 43 #[.pointer (some ⟨g, 0, none⟩)] w fun e w' => ∃ (N : Int) (x : ByteArray), x.size ≤ 32 ∧ e = .returned (.agg #[.int .i64 N, .string x]) ∧ Drew w w' g n := by
  have hg0 := h.lt
  have V := FVar.new w 0 ⟨#[]⟩ 25
  have D := (Drew.refl h).alloc (.cells #[.int .i64 0, .string ⟨#[]⟩] 25)
  go_enter Try.func43, Try.ntmps43
  go_wp2_with fail
  generalize w.alloc (.cells #[.int .i64 0, .string ⟨#[]⟩] 25) = w1 at *
  refine (rows_lit g n 5 _ _ D.rdr (by omega) (by omega) (by omega)).mono ?_
  rintro e w2 ⟨l, b, c, hll, hok, rfl, hO, hD⟩
  have hlt1 : g < w1.heap.size := D.rdr.lt
  replace V := V.drew hD (by omega)
  replace D := D.trans hD
  clear hD
  go_wp2_with fail
  refine (below_lit g n 6 _ _ D.rdr (by omega) (by omega) (by omega)).mono ?_
  rintro e w3 ⟨k, hk, rfl, hD⟩
  replace V := V.drew hD (by omega)
  have hO3 := hD.own hO hlt1
  replace D := D.trans hD
  clear hD hO
  obtain ⟨rn, rt, rb, e1⟩ : ∃ rn rt rb, ofV l (8 * (1 + (k : Int))) = .tuple #[.agg #[.int .i64 rn, .string rt], .bool rb] ∧ rt.size ≤ 32 := ⟨_, _, _, rfl, ofT_size _ _⟩
  obtain ⟨e1, hrt⟩ := e1
  have C := specFilterOf_any _ l.length c l (8 * (1 + (k : Int))) w3 (by omega) hok (Rd.of_own hO3)
  rw [e1] at C
  clear e1 hO3
  go_wp2_with fail
  refine C.mono ?_
  clear C
  rintro e w4 ⟨rfl, hb⟩
  replace V := V.below hb V.2.2
  replace D := D.and hb
  clear hb
  have F := FVar.new w4 rn rt 25
  have hb := bl1 w4 (.cells #[.int .i64 rn, .string rt] 25)
  have hFw : w.heap.size < w4.heap.size := V.2.2
  replace V := V.below hb V.2.2
  replace D := D.and hb
  clear hb
  go_wp2_with fail
  generalize w4.alloc (.cells #[.int .i64 rn, .string rt] 25) = w5 at *
  generalize w4.heap.size = F0 at *
  refine (once_lit g n 20 _ _ D.rdr (by omega) (by omega) (by omega)).mono ?_
  rintro e w6 ⟨q, rfl, hD⟩
  replace V := V.drew hD (by omega)
  replace F := F.drew hD (by omega)
  replace D := D.trans hD
  clear hD
  cases q
  · have ⟨x0, x1⟩ := F.1
    go_wp2_with (refine wpList_store_fil rfl _ _ rfl w.heap.size rn rt (by rfl) (by rfl) V.2 fun w7 hR hk => stop ?_)
    refine unstop ?_
    have hld := load_fil hR
    have D7 := D.over hg0 (hk w.heap.size w6 (Nat.le_refl _) (Below.refl _ _))
    go_wp2_with fail
    refine bodyPost_ret (v := .agg #[.int .i64 rn, .string rt]) ?_ rfl ⟨rn, rt, hrt, rfl, D7⟩
    simp [results, Try.results43, asAddr, hld]
  · go_wp2_with fail
    refine (off_any g n 8 256 _ D.rdr (by omega) (by omega) (by omega)).mono ?_
    rintro e w7 ⟨z, hz0, hz1, rfl, hD⟩
    replace V := V.drew hD (by omega)
    replace F := F.drew hD (by omega)
    replace D := D.trans hD
    clear hD
    have ⟨x0, x1⟩ := F.1
    have f0 := (F.2.1 0 (by omega)).2
    rw [Nat.zero_add] at f0
    have V' := V.below ((Below.refl F0 w7).setCell (p := ⟨F0, 0, none⟩) (Nat.le_refl _) (.int .i64 z)) hFw
    have D' := D.set (o := 0) (b := F0) hg0 (by omega) (.int .i64 z)
    go_wp2_with (refine wpList_store_fil rfl _ _ rfl w.heap.size z rt (by rfl) (by rfl) V'.2 fun w8 hR hk => stop ?_)
    refine unstop ?_
    have hld := load_fil hR
    have D8 := D'.over hg0 (hk w.heap.size _ (Nat.le_refl _) (Below.refl _ _))
    go_wp2_with fail
    refine bodyPost_ret (v := .agg #[.int .i64 z, .string rt]) ?_ rfl ⟨z, rt, hrt, rfl, D8⟩
    simp [results, Try.results43, asAddr, hld]
set_option maxRecDepth 100000 in
theorem drawFilterAdd_any (a : Option Addr) (len cap : Nat) (w : World) (hl : len ≤ 1048576) (h : IsBy w w.heap.size a len) :
    Calls Try.prog 9 #[.slice a len cap] w fun e w' => ∃ (N : Int) (x s : ByteArray), x.size ≤ 32 ∧ s.size ≤ 5 ∧ e = .returned (.tuple #[.agg #[.int .i64 N, .string x], .string s]) ∧ Below w.heap.size w w' := by
  have hb0 := bl1 w (.cells #[.int .i64 0, .string ⟨#[]⟩] 25)
  have V := FVar.new w 0 ⟨#[]⟩ 25
  obtain ⟨bx, hx1, hx2⟩ := h
  have h' : IsBy (w.alloc (.cells #[.int .i64 0, .string ⟨#[]⟩] 25)) (w.alloc (.cells #[.int .i64 0, .string ⟨#[]⟩] 25)).heap.size a len := ⟨bx, (hx1.below hb0 (Nat.le_refl _)).more hb0.size, hx2⟩
  go_enter Try.func9, Try.ntmps9
  go_wp2_with fail
  generalize w.alloc (.cells #[.int .i64 0, .string ⟨#[]⟩] 25) = w0 at *
  refine (l1Open_any a len cap w0 hl h').mono ?_
  rintro e w1 ⟨rfl, hR1, hb1⟩
  have hlt := hR1.lt
  have hg : w.heap.size < w0.heap.size := V.2.2
  replace V := V.below hb1 hg
  have D := Drew.refl hR1
  go_wp2_with fail
  refine (filter_any _ len _ hR1).mono ?_
  rintro e w2 ⟨N, x, hx, rfl, hD⟩
  replace V := V.drew hD (by omega)
  replace D := D.trans hD
  clear hD
  have F := FVar.new w2 N x 25
  have hb2 := bl1 w2 (.cells #[.int .i64 N, .string x] 25)
  have hF0 : w1.heap.size ≤ w2.heap.size := D.size
  replace V := V.below hb2 V.2.2
  replace D := D.and hb2
  clear hb2
  go_wp2_with fail
  generalize w2.alloc (.cells #[.int .i64 N, .string x] 25) = w3 at *
  generalize w2.heap.size = F0 at *
  have ⟨x0, x1⟩ := F.1
  have D3 : Drew w1 w3.drew w0.heap.size len := D.over hlt ((Below.refl w1.heap.size w3).drew)
  have V3 : FVar w3.drew w.heap.size 0 ⟨#[]⟩ := V
  have F3 : FVar w3.drew F0 N x := F
  have HD3 := Lib.hid D3
  have HV3 := Lib.hid V3
  have HF3 := Lib.hid F3
  have hne : F0 ≠ w.heap.size := by omega
  have hne2 : w.heap.size ≠ w0.heap.size := by omega
  have hne3 : F0 ≠ w0.heap.size := by omega
  clear D3 V3 F3 V D F
  go_region_held3 (fun w' => (w'.cell? ⟨F0, 0, none⟩ = some (.int .i64 N) ∧ w'.cell? ⟨F0, 1, none⟩ = some (.string x)) ∧ FVar w' F0 N x) (first | exact ⟨HF3.out.1, HF3.out⟩ | exact ⟨hF'.1, hF'⟩ | exact ⟨(FVar.put (by assumption) hne _ _).1, FVar.put (by assumption) hne _ _⟩ | exact ⟨((And.right (by assumption : _ ∧ FVar _ F0 N x)).put hne _ _).1, (And.right (by assumption : _ ∧ FVar _ F0 N x)).put hne _ _⟩)
    ((go_at_call 44; refine (key_any _ len _ HD3.out.rdr).mono ?_; rintro e w4 ⟨s, hs, rfl, hD⟩; have hV4 := HV3.out.drew hD hne2; have hF' := HF3.out.drew hD hne3; have D4 := Lib.hid (HD3.out.trans hD); have ⟨v0, v1⟩ := hV4.1; have g0 := (hV4.2.1 0 (by omega)).2; have g1 := (hV4.2.1 1 (by omega)).2; rw [Nat.zero_add] at g0 g1))
  have hR : ((w4.setCell ⟨w.heap.size, 0, none⟩ (.int .i64 N)).setCell ⟨w.heap.size, 1, none⟩ (.string x)).rangeAt w.heap.size 0 [.int .i64 N, .string x] := World.rangeAt_setCells_same w4 w.heap.size 0 [.int .i64 N, .string x] hV4.2.1
  have hb4 := hb0.trans ((below_drew hb1 D4.out).mono (Nat.le_of_lt hg))
  have hb5 := (hb4.setCell (p := ⟨w.heap.size, 0, none⟩) (Nat.le_refl _) (.int .i64 N)).setCell (p := ⟨w.heap.size, 1, none⟩) (Nat.le_refl _) (.string x)
  have hld := load_fil hR
  clear v0 v1 g0 g1 hV4 hF' hD x0 x1 hb4 hR
  generalize (w4.setCell ⟨w.heap.size, 0, none⟩ (.int .i64 N)).setCell ⟨w.heap.size, 1, none⟩ (.string x) = w5 at *
  go_wp2_with fail
  refine bodyPost_ret (v := .tuple #[.agg #[.int .i64 N, .string x], .string s]) ?_ rfl ⟨N, x, s, hx, hs, rfl, hb5⟩
  first
    | (rw [results_cell_tmp rfl]; simp [asAddr, Result.andThen, hld])
    | simp [results, Try.results9, asAddr, hld]
end Go.Proofs.Ytohiecppakiliaa

namespace Go.Proofs.Ytohiecppakiliaa
open Go.RowKit
theorem twoPut {W : World} {F1 G1 c : Nat} {n1 n2 : Int} {t1 t2 : ByteArray} {u v : Value}
    (h : (W.cell? ⟨F1, 0, none⟩ = some (.int .i64 n1) ∧ W.cell? ⟨F1, 1, none⟩ = some (.string t1) ∧ W.cell? ⟨G1, 0, none⟩ = some (.int .i64 n2) ∧ W.cell? ⟨G1, 1, none⟩ = some (.string t2)) ∧ FVar W F1 n1 t1 ∧ FVar W G1 n2 t2) (h1 : F1 ≠ c) (h2 : G1 ≠ c) :
    (((W.setCell ⟨c, 0, none⟩ u).setCell ⟨c, 1, none⟩ v).cell? ⟨F1, 0, none⟩ = some (.int .i64 n1) ∧ ((W.setCell ⟨c, 0, none⟩ u).setCell ⟨c, 1, none⟩ v).cell? ⟨F1, 1, none⟩ = some (.string t1) ∧ ((W.setCell ⟨c, 0, none⟩ u).setCell ⟨c, 1, none⟩ v).cell? ⟨G1, 0, none⟩ = some (.int .i64 n2) ∧ ((W.setCell ⟨c, 0, none⟩ u).setCell ⟨c, 1, none⟩ v).cell? ⟨G1, 1, none⟩ = some (.string t2)) ∧ FVar ((W.setCell ⟨c, 0, none⟩ u).setCell ⟨c, 1, none⟩ v) F1 n1 t1 ∧ FVar ((W.setCell ⟨c, 0, none⟩ u).setCell ⟨c, 1, none⟩ v) G1 n2 t2 := by
  have a := h.2.1.put h1 u v
  have b := h.2.2.put h2 u v
  exact ⟨⟨a.1.1, a.1.2, b.1.1, b.1.2⟩, a, b⟩
theorem below_drew2 {w w1 w2 : World} {B g n : Nat} (hb : Below g w w1) (hD : Drew w1 w2 g n) (hB : B + 1 < g) (hlt : g < w1.heap.size) : Below B w w2 :=
  (hb.mono (by omega)).trans ⟨hD.2.os, hD.2.tape, hD.2.output, hD.2.size, fun k hk => hD.2.block k (by omega) (fun e => by injection e with e; omega)⟩
theorem setCells_two (W : World) (b : Nat) (x y : Value) : W.setCells b 0 [x, y] = (W.setCell ⟨b, 0, none⟩ x).setCell ⟨b, 1, none⟩ y := rfl
theorem twoEnd {w W : World} (hb : Below w.heap.size w W) (V : FV W w.heap.size) (U : FV W (w.heap.size + 1)) (n1 : Int) (t1 : ByteArray) (n2 : Int) (t2 : ByteArray) :
    (loadVar 25 ⟨w.heap.size, 0, none⟩).run Try.prog ((((W.setCell ⟨w.heap.size, 0, none⟩ (.int .i64 n1)).setCell ⟨w.heap.size, 1, none⟩ (.string t1)).setCell ⟨w.heap.size + 1, 0, none⟩ (.int .i64 n2)).setCell ⟨w.heap.size + 1, 1, none⟩ (.string t2)).drew = .ok (.agg #[.int .i64 n1, .string t1]) ((((W.setCell ⟨w.heap.size, 0, none⟩ (.int .i64 n1)).setCell ⟨w.heap.size, 1, none⟩ (.string t1)).setCell ⟨w.heap.size + 1, 0, none⟩ (.int .i64 n2)).setCell ⟨w.heap.size + 1, 1, none⟩ (.string t2)).drew ∧
    (loadVar 25 ⟨w.heap.size + 1, 0, none⟩).run Try.prog ((((W.setCell ⟨w.heap.size, 0, none⟩ (.int .i64 n1)).setCell ⟨w.heap.size, 1, none⟩ (.string t1)).setCell ⟨w.heap.size + 1, 0, none⟩ (.int .i64 n2)).setCell ⟨w.heap.size + 1, 1, none⟩ (.string t2)).drew = .ok (.agg #[.int .i64 n2, .string t2]) ((((W.setCell ⟨w.heap.size, 0, none⟩ (.int .i64 n1)).setCell ⟨w.heap.size, 1, none⟩ (.string t1)).setCell ⟨w.heap.size + 1, 0, none⟩ (.int .i64 n2)).setCell ⟨w.heap.size + 1, 1, none⟩ (.string t2)).drew ∧
    Below w.heap.size w ((((W.setCell ⟨w.heap.size, 0, none⟩ (.int .i64 n1)).setCell ⟨w.heap.size, 1, none⟩ (.string t1)).setCell ⟨w.heap.size + 1, 0, none⟩ (.int .i64 n2)).setCell ⟨w.heap.size + 1, 1, none⟩ (.string t2)).drew := by
  have r1 := World.rangeAt_setCells_same W w.heap.size 0 [.int .i64 n1, .string t1] V.1
  have r2 := World.rangeAt_setCells_apart r1 (w.heap.size + 1) 0 [.int .i64 n2, .string t2] (Or.inl (by omega))
  have r3 := World.rangeAt_setCells_same (W.setCells w.heap.size 0 [.int .i64 n1, .string t1]) (w.heap.size + 1) 0 [.int .i64 n2, .string t2] (World.there_setCells U.1 _ _ _)
  have h4 := below_setCells (Nat.le_succ _) [.int .i64 n2, .string t2] 0 _ (below_setCells (Nat.le_refl _) [.int .i64 n1, .string t1] 0 _ hb)
  rw [setCells_two, setCells_two] at r2 r3 h4
  generalize (((W.setCell ⟨w.heap.size, 0, none⟩ (.int .i64 n1)).setCell ⟨w.heap.size, 1, none⟩ (.string t1)).setCell ⟨w.heap.size + 1, 0, none⟩ (.int .i64 n2)).setCell ⟨w.heap.size + 1, 1, none⟩ (.string t2) = Z at *
  have r2' : Z.drew.rangeAt w.heap.size 0 [.int .i64 n1, .string t1] := fun j v hv => r2 j v hv
  have r3' : Z.drew.rangeAt (w.heap.size + 1) 0 [.int .i64 n2, .string t2] := fun j v hv => r3 j v hv
  exact ⟨load_fil r2', load_fil r3', h4.drew⟩
set_option maxRecDepth 100000 in
set_option maxHeartbeats 1000000 in
theorem drawFilterBoth_any (a : Option Addr) (len cap : Nat) (w : World) (hl : len ≤ 1048576) (h : IsBy w w.heap.size a len) :
    Calls Try.prog 21 #[.slice a len cap] w fun e w' => ∃ (N : Int) (x : ByteArray) (N2 : Int) (x2 : ByteArray), x.size ≤ 32 ∧ x2.size ≤ 32 ∧ e = .returned (.tuple #[.agg #[.int .i64 N, .string x], .agg #[.int .i64 N2, .string x2]]) ∧ Below w.heap.size w w' := by
  have hb0 := bl2 w (.cells #[.int .i64 0, .string ⟨#[]⟩] 25) (.cells #[.int .i64 0, .string ⟨#[]⟩] 25)
  have V := (FVar.new w 0 ⟨#[]⟩ 25).below (bl1 _ (.cells #[.int .i64 0, .string ⟨#[]⟩] 25)) (by simp)
  have U := FVar.new (w.alloc (.cells #[.int .i64 0, .string ⟨#[]⟩] 25)) 0 ⟨#[]⟩ 25
  simp only [World.size_alloc] at U
  obtain ⟨bx, hx1, hx2⟩ := h
  have h' : IsBy ((w.alloc (.cells #[.int .i64 0, .string ⟨#[]⟩] 25)).alloc (.cells #[.int .i64 0, .string ⟨#[]⟩] 25)) ((w.alloc (.cells #[.int .i64 0, .string ⟨#[]⟩] 25)).alloc (.cells #[.int .i64 0, .string ⟨#[]⟩] 25)).heap.size a len := ⟨bx, (hx1.below hb0 (Nat.le_refl _)).more hb0.size, hx2⟩
  go_enter Try.func21, Try.ntmps21
  go_wp2_with fail
  generalize (w.alloc (.cells #[.int .i64 0, .string ⟨#[]⟩] 25)).alloc (.cells #[.int .i64 0, .string ⟨#[]⟩] 25) = w0 at *
  refine (l1Open_any a len cap w0 hl h').mono ?_
  rintro e w1 ⟨rfl, hR1, hb1⟩
  have hlt := hR1.lt
  have hg : w.heap.size + 1 < w0.heap.size := U.2.2
  replace V := V.below hb1 (by omega)
  replace U := U.below hb1 (by omega)
  have D := Drew.refl hR1
  clear hx1 hx2 h' hR1
  generalize w0.heap.size = g at *
  go_wp2_with fail
  refine (below_lit g len 5 _ _ D.rdr (by omega) (by omega) (by omega)).mono ?_
  rintro e w2 ⟨k, hk, rfl, hD⟩
  replace V := V.drew hD (by omega)
  replace U := U.drew hD (by omega)
  replace D := D.trans hD
  clear hD
  go_wp2_with fail
  refine (rows_lit g len 4 _ _ D.rdr (by omega) (by omega) (by omega)).mono ?_
  rintro e w3 ⟨l, b, c, hll, hok, rfl, hO, hD⟩
  replace V := V.drew hD (by omega)
  replace U := U.drew hD (by omega)
  replace D := D.trans hD
  clear hD
  obtain ⟨n1, t1, q1, e1⟩ : ∃ rn rt rb, ofV l (8 * (1 + (k : Int))) = .tuple #[.agg #[.int .i64 rn, .string rt], .bool rb] ∧ rt.size ≤ 32 := ⟨_, _, _, rfl, ofT_size _ _⟩
  obtain ⟨e1, ht1⟩ := e1
  have C := specFilterOf_any _ l.length c l (8 * (1 + (k : Int))) w3 (by omega) hok (Rd.of_own hO)
  rw [e1] at C
  clear e1 hO
  go_wp2_with fail
  refine C.mono ?_
  clear C
  rintro e w4 ⟨rfl, hb⟩
  replace V := V.below hb V.2.2
  replace U := U.below hb U.2.2
  replace D := D.and hb
  clear hb
  have F := FVar.new w4 n1 t1 25
  have hb := bl1 w4 (.cells #[.int .i64 n1, .string t1] 25)
  have hF : w1.heap.size ≤ w4.heap.size := D.size
  replace V := V.below hb V.2.2
  replace U := U.below hb U.2.2
  replace D := D.and hb
  clear hb
  go_wp2_with fail
  generalize w4.alloc (.cells #[.int .i64 n1, .string t1] 25) = w5 at *
  generalize w4.heap.size = F1 at *
  refine (rows_lit g len 4 _ _ D.rdr (by omega) (by omega) (by omega)).mono ?_
  rintro e w6 ⟨l2, b2, c2, hll2, hok2, rfl, hO, hD⟩
  replace V := V.drew hD (by omega)
  replace U := U.drew hD (by omega)
  replace F := F.drew hD (by omega)
  replace D := D.trans hD
  clear hD
  obtain ⟨n2, t2, q2, e1⟩ : ∃ rn rt rb, ofV l2 (8 * (1 + (k : Int))) = .tuple #[.agg #[.int .i64 rn, .string rt], .bool rb] ∧ rt.size ≤ 32 := ⟨_, _, _, rfl, ofT_size _ _⟩
  obtain ⟨e1, ht2⟩ := e1
  have C := specFilterOf_any _ l2.length c2 l2 (8 * (1 + (k : Int))) w6 (by omega) hok2 (Rd.of_own hO)
  rw [e1] at C
  clear e1 hO
  go_wp2_with fail
  refine C.mono ?_
  clear C
  rintro e w7 ⟨rfl, hb⟩
  replace V := V.below hb V.2.2
  replace U := U.below hb U.2.2
  replace F := F.below hb F.2.2
  replace D := D.and hb
  clear hb
  have G := FVar.new w7 n2 t2 25
  have hb := bl1 w7 (.cells #[.int .i64 n2, .string t2] 25)
  have hG : F1 < w7.heap.size := F.2.2
  replace V := V.below hb V.2.2
  replace U := U.below hb U.2.2
  replace F := F.below hb F.2.2
  replace D := D.and hb
  clear hb
  go_wp2_with fail
  generalize w7.alloc (.cells #[.int .i64 n2, .string t2] 25) = w8 at *
  generalize w7.heap.size = G1 at *
  refine (once_lit g len 12 _ _ D.rdr (by omega) (by omega) (by omega)).mono ?_
  rintro e w9 ⟨q, rfl, hD⟩
  replace V := V.drew hD (by omega)
  replace U := U.drew hD (by omega)
  replace F := F.drew hD (by omega)
  replace G := G.drew hD (by omega)
  replace D := D.trans hD
  clear hD
  cases q
  · have ⟨x0, x1⟩ := F.1
    have ⟨y0, y1⟩ := G.1
    have ⟨v0, v1⟩ := V.1
    have ⟨u0, u1⟩ := U.1
    have hv0 := (V.2.1 0 (by omega)).2
    have hv1 := (V.2.1 1 (by omega)).2
    have hu0 := (U.2.1 0 (by omega)).2
    have hu1 := (U.2.1 1 (by omega)).2
    rw [Nat.zero_add] at hv0 hv1 hu0 hu1
    have hn1 : F1 ≠ w.heap.size := by omega
    have hn2 : G1 ≠ w.heap.size := by omega
    have HZ := Lib.hid (twoEnd (show Below w.heap.size w w9 from hb0.trans ((below_drew2 hb1 D hg hlt).mono (Nat.le_refl _))) V.2 U.2 n1 t1 n2 t2)
    clear F G V U D
    go_wp2_with fail
    have hn3 : ¬ F1 = w.heap.size + 1 := by omega
    have hn4 : ¬ G1 = w.heap.size + 1 := by omega
    have hn5 : ¬ w.heap.size = F1 := by omega
    have hn6 : ¬ w.heap.size = G1 := by omega
    go_region
    obtain ⟨hld1, hld2, hbe⟩ := HZ.out
    clear HZ x0 x1 y0 y1 v0 v1 u0 u1 hv0 hv1 hu0 hu1
    generalize ((((w9.setCell ⟨w.heap.size, 0, none⟩ (.int .i64 n1)).setCell ⟨w.heap.size, 1, none⟩ (.string t1)).setCell ⟨w.heap.size + 1, 0, none⟩ (.int .i64 n2)).setCell ⟨w.heap.size + 1, 1, none⟩ (.string t2)).drew = w10 at *
    go_wp2_with fail
    refine bodyPost_ret (v := .tuple #[.agg #[.int .i64 n1, .string t1], .agg #[.int .i64 n2, .string t2]]) ?_ rfl ⟨n1, t1, n2, t2, ht1, ht2, rfl, hbe⟩
    simp [results, Try.results21, asAddr, hld1, hld2]
  · go_wp2_with fail
    refine (filter_any g len _ D.rdr).mono ?_
    rintro e w10 ⟨n3, t3, ht3, rfl, hD⟩
    replace V := V.drew hD (by omega)
    replace U := U.drew hD (by omega)
    replace F := F.drew hD (by omega)
    replace G := G.drew hD (by omega)
    replace D := D.trans hD
    clear hD
    go_wp2_with (refine wpList_store_fil2 rfl _ _ rfl G1 n3 t3 (by rfl) (by rfl) G.2 fun w11 g1 g2 hb => stop ?_)
    refine unstop ?_
    replace V := V.below hb (by omega)
    replace U := U.below hb (by omega)
    replace F := F.below hb (by omega)
    replace D := D.over hlt (hb.mono (by omega))
    replace G : FVar w11 G1 n3 t3 := ⟨g1, g2⟩
    clear hb g1 g2
    have ⟨x0, x1⟩ := F.1
    have ⟨y0, y1⟩ := G.1
    have ⟨v0, v1⟩ := V.1
    have ⟨u0, u1⟩ := U.1
    have hv0 := (V.2.1 0 (by omega)).2
    have hv1 := (V.2.1 1 (by omega)).2
    have hu0 := (U.2.1 0 (by omega)).2
    have hu1 := (U.2.1 1 (by omega)).2
    rw [Nat.zero_add] at hv0 hv1 hu0 hu1
    have hn1 : F1 ≠ w.heap.size := by omega
    have hn2 : G1 ≠ w.heap.size := by omega
    have HZ := Lib.hid (twoEnd (show Below w.heap.size w w11 from hb0.trans ((below_drew2 hb1 D hg hlt).mono (Nat.le_refl _))) V.2 U.2 n1 t1 n3 t3)
    clear F G V U D
    go_wp2_with fail
    have hn3 : ¬ F1 = w.heap.size + 1 := by omega
    have hn4 : ¬ G1 = w.heap.size + 1 := by omega
    have hn5 : ¬ w.heap.size = F1 := by omega
    have hn6 : ¬ w.heap.size = G1 := by omega
    go_region
    obtain ⟨hld1, hld2, hbe⟩ := HZ.out
    clear HZ x0 x1 y0 y1 v0 v1 u0 u1 hv0 hv1 hu0 hu1
    generalize ((((w11.setCell ⟨w.heap.size, 0, none⟩ (.int .i64 n1)).setCell ⟨w.heap.size, 1, none⟩ (.string t1)).setCell ⟨w.heap.size + 1, 0, none⟩ (.int .i64 n3)).setCell ⟨w.heap.size + 1, 1, none⟩ (.string t3)).drew = w10 at *
    go_wp2_with fail
    refine bodyPost_ret (v := .tuple #[.agg #[.int .i64 n1, .string t1], .agg #[.int .i64 n3, .string t3]]) ?_ rfl ⟨n1, t1, n3, t3, ht1, ht3, rfl, hbe⟩
    simp [results, Try.results21, asAddr, hld1, hld2]
end Go.Proofs.Ytohiecppakiliaa

namespace Go.Proofs.Ytohiecppakiliaa
open Go.RowKit

theorem both_same (n : Int) (x : ByteArray) (n2 : Int) (x2 : ByteArray) : bothV n x n2 x2 = bothS n x n2 x2 := by
  unfold bothV bothS
  cases h : bothB n x n2 x2
  · rfl
  simp only [bothB, Bool.and_eq_true, beq_iff_eq] at h
  obtain ⟨⟨h1, h2⟩, rfl⟩ := h
  have e1 := filB_size h1
  have e2 := filB_size h2
  have f1 := filB_facts h1
  have l1 : x.data.toList.length = x.size := by simp
  have l2 : x2.data.toList.length = x2.size := by simp
  have p1 := padL_length x f1.2.2
  have p2 := padL_length x2 (by omega)
  have hm : (n / 8).toNat = x.size := by omega
  have E : bytesOf n (orBytes 32 (padL x) (padL x2)) = orS x x2 := by
    unfold bytesOf orS orBytes
    rw [hm, List.take_of_length_le (l := padL x) (by omega), List.take_of_length_le (l := padL x2) (by omega), show (padL x).drop 32 = [] from List.drop_eq_nil_of_le (by omega), List.append_nil, List.take_zipWith, show x.data.toList.drop x.size = [] from List.drop_eq_nil_of_le (by omega), List.append_nil]
    have g1 : (padL x).take x.size = x.data.toList.take x.size := by unfold padL; rw [List.take_append_of_le_length (by omega)]
    have g2 : (padL x2).take x.size = x2.data.toList.take x.size := by unfold padL; rw [List.take_append_of_le_length (by omega)]
    rw [g1, g2]
  simp only [E, if_true]
def bothN (n : Int) (x : ByteArray) (n2 : Int) (x2 : ByteArray) : Int := if bothB n x n2 x2 then n else 0
def bothT (n : Int) (x : ByteArray) (n2 : Int) (x2 : ByteArray) : ByteArray := if bothB n x n2 x2 then orS x x2 else ⟨#[]⟩
theorem both_form (n : Int) (x : ByteArray) (n2 : Int) (x2 : ByteArray) : bothS n x n2 x2 = .tuple #[.agg #[.int .i64 (bothN n x n2 x2), .string (bothT n x n2 x2)], .bool (bothB n x n2 x2)] := by
  unfold bothS bothN bothT
  cases bothB n x n2 x2 <;> rfl
theorem specBoth_any (n : Int) (x : ByteArray) (n2 : Int) (x2 : ByteArray) (w : World) (hx : x.size ≤ maxLen) (hx2 : x2.size ≤ maxLen) :
    Calls Try.prog 23 #[.agg #[.int .i64 n, .string x], .agg #[.int .i64 n2, .string x2]] w fun e w' => e = .returned (.tuple #[.agg #[.int .i64 (bothN n x n2 x2), .string (bothT n x n2 x2)], .bool (bothB n x n2 x2)]) ∧ Below w.heap.size w w' :=
  both_form n x n2 x2 ▸ specFilterBoth_any n x n2 x2 w hx hx2
theorem implBoth_any (n : Int) (x : ByteArray) (n2 : Int) (x2 : ByteArray) (w : World) (hx : x.size ≤ maxLen) (hx2 : x2.size ≤ maxLen) :
    Calls Try.prog 22 #[.agg #[.int .i64 n, .string x], .agg #[.int .i64 n2, .string x2]] w fun e w' => e = .returned (.tuple #[.agg #[.int .i64 (bothN n x n2 x2), .string (bothT n x n2 x2)], .bool (bothB n x n2 x2)]) ∧ Below w.heap.size w w' :=
  both_form n x n2 x2 ▸ both_same n x n2 x2 ▸ implFilterBoth_any n x n2 x2 w hx hx2
end Go.Proofs.Ytohiecppakiliaa

namespace Go.Proofs.Ytohiecppakiliaa
open Go.RowKit
attribute [local go_sem ↓] Go.wp_at_zero Go.wp_at_succ
theorem orS_data {x x2 : ByteArray} (h : x2.size = x.size) : (orS x x2).data.toList = List.zipWith (· ||| ·) x.data.toList x2.data.toList := by
  have l1 : x.data.toList.length = x.size := by simp
  have l2 : x2.data.toList.length = x2.size := by simp
  unfold orS orBytes
  rw [List.take_of_length_le (by omega), List.take_of_length_le (by omega), List.drop_eq_nil_of_le (by omega), List.append_nil]
theorem ba_ext {a b : ByteArray} (h : a.data.toList = b.data.toList) : a = b := ByteArray.ext (Array.toList_inj.1 h)
theorem orS_size {x x2 : ByteArray} (h : x2.size = x.size) : (orS x x2).size = x.size := by
  have l0 : (orS x x2).data.toList.length = (orS x x2).size := by simp
  have l1 : x.data.toList.length = x.size := by simp
  have l2 : x2.data.toList.length = x2.size := by simp
  rw [← l0, orS_data h, List.length_zipWith]; omega
theorem orS_comm {x x2 : ByteArray} (h : x2.size = x.size) : orS x2 x = orS x x2 := by
  apply ba_ext
  rw [orS_data h.symm, orS_data h, List.zipWith_comm]
  congr 1
  funext a b
  exact UInt8.or_comm _ _
theorem orS_again {x x2 : ByteArray} (h : x2.size = x.size) : orS (orS x x2) x = orS x x2 := by
  have hs := orS_size h
  apply ba_ext
  rw [orS_data (x := orS x x2) (x2 := x) (by omega), orS_data h]
  apply List.ext_getElem
  · simp
  · intro i h1 h2
    simp only [List.getElem_zipWith]
    rw [UInt8.or_comm, ← UInt8.or_assoc, UInt8.or_self]
theorem orS_le {x x2 : ByteArray} (h : x2.size = x.size) : LeB x.data.toList (orS x x2).data.toList ∧ LeB x2.data.toList (orS x x2).data.toList := by
  have l1 : x.data.toList.length = x.size := by simp
  have l2 : x2.data.toList.length = x2.size := by simp
  rw [orS_data h]
  constructor
  · intro q
    simp only [List.getD]
    by_cases hq : q < x.size
    · rw [List.getElem?_eq_getElem (by omega), List.getElem?_eq_getElem (by rw [List.length_zipWith]; omega)]
      simp only [Option.getD_some, List.getElem_zipWith]
      rw [← UInt8.or_assoc, UInt8.or_self]
    · rw [List.getElem?_eq_none (by omega), List.getElem?_eq_none (by rw [List.length_zipWith]; omega)]; rfl
  · intro q
    simp only [List.getD]
    by_cases hq : q < x.size
    · rw [List.getElem?_eq_getElem (by omega), List.getElem?_eq_getElem (by rw [List.length_zipWith]; omega)]
      simp only [Option.getD_some, List.getElem_zipWith]
      rw [UInt8.or_comm (x.data.toList[q]'(by omega)), ← UInt8.or_assoc, UInt8.or_self]
    · rw [List.getElem?_eq_none (by omega), List.getElem?_eq_none (by rw [List.length_zipWith]; omega)]; rfl
theorem hasB_eq {n : Int} {x s : ByteArray} (h : filB n x = true) (hs : s.size ≤ 12) : hasB n x s = hasK n s x.data.toList := by
  obtain ⟨q0, q1, q4, q5, q2⟩ := filB_all h
  have l1 : x.data.toList.length = x.size := by simp
  rw [hasK_eq n s _ (by rw [l1]; exact plN_lt n s _ q0 q4 q5)]
  unfold hasB addOk
  rw [h, decide_eq_true hs, Bool.and_true, Bool.true_and, decide_eq_decide]
  constructor
  · intro e; have := congrArg (fun b : ByteArray => b.data.toList) e; exact this
  · intro e; unfold addS; rw [e]
theorem hasB_mono {n : Int} {x t s : ByteArray} (h : filB n x = true) (ht : filB n t = true) (hs : s.size ≤ 12) (hl : LeB x.data.toList t.data.toList) (hx : hasB n x s = true) : hasB n t s = true := by
  rw [hasB_eq h hs] at hx
  rw [hasB_eq ht hs]
  unfold hasK at *
  simp only [Bool.and_eq_true] at *
  exact ⟨⟨hasL_mono hl hx.1.1, hasL_mono hl hx.1.2⟩, hasL_mono hl hx.2⟩
theorem filB_or {n : Int} {x x2 : ByteArray} (h : filB n x = true) (h2 : x2.size = x.size) : filB n (orS x x2) = true := by
  unfold filB at *
  rw [orS_size h2]; exact h
theorem bothB_parts {n n2 : Int} {x x2 : ByteArray} (h : bothB n x n2 x2 = true) : n2 = n ∧ filB n x = true ∧ filB n x2 = true ∧ x2.size = x.size := by
  simp only [bothB, Bool.and_eq_true, beq_iff_eq] at h
  obtain ⟨⟨h1, h2⟩, rfl⟩ := h
  have := filB_size h1
  have := filB_size h2
  exact ⟨rfl, h1, h2, by omega⟩
theorem both_yes {n : Int} {x x2 : ByteArray} (h1 : filB n x = true) (h2 : filB n x2 = true) : bothB n x n x2 = true ∧ bothN n x n x2 = n ∧ bothT n x n x2 = orS x x2 := by
  have e : bothB n x n x2 = true := by simp [bothB, h1, h2]
  exact ⟨e, by simp [bothN, e], by simp [bothT, e]⟩
theorem bothT_size (n : Int) (x : ByteArray) (n2 : Int) (x2 : ByteArray) : (bothT n x n2 x2).size ≤ 32 := by
  unfold bothT
  split
  · rename_i h
    obtain ⟨_, h1, _, h3⟩ := bothB_parts h
    rw [orS_size h3]
    exact (filB_facts h1).2.2
  · decide
/-- The six keys that are asked for. -/
def sixK : List ByteArray := [⟨#[]⟩, ⟨#[97]⟩, ⟨#[98]⟩, ⟨#[97, 98]⟩, ⟨#[99]⟩, ⟨#[107, 101, 121]⟩]
theorem sixK_size (s : ByteArray) (h : s ∈ sixK) : s.size ≤ 12 := by
  simp only [sixK, List.mem_cons, List.not_mem_nil, or_false] at h
  rcases h with rfl | rfl | rfl | rfl | rfl | rfl <;> decide
set_option maxRecDepth 100000 in
set_option maxHeartbeats 4000000 in
theorem walk_BothFilters (a : Option Addr) (len cap : Nat) (xs : List Value) (w : World) (hI : IsCode w a len cap xs) :
    Calls Try.prog 4 #[.slice a len cap] w fun e w' => e = .returned (.bool true) ∧ Below w.heap.size w w' := by
  have hI0 := hI.by_
  obtain ⟨hlc, hcm, _, _⟩ := hI
  go_enter Try.func4, Try.ntmps4
  go_wp2_with fail
  refine (big_any a len cap w (by omega)).mono ?_
  rintro e w0 ⟨rfl, rfl⟩
  by_cases hbig : 1048576 < len
  · have hd : decide (1048576 < len) = true := by simpa using hbig
    rw [hd]
    go_wp2_with fail
    go_ret
    exact ⟨rfl, Below.refl _ _⟩
  have hd : decide (1048576 < len) = false := by simpa using hbig
  rw [hd]
  go_wp2_with fail
  refine (drawFilterBoth_any a len cap w (by omega) hI0).mono ?_
  rintro e w1 ⟨n, x, n2, x2, hx, hx2, rfl, B⟩
  have hxm : x.size ≤ maxLen := by unfold maxLen; omega
  have hx2m : x2.size ≤ maxLen := by unfold maxLen; omega
  have FA := (FVar.new w1 n x 25).below (bl1 _ (.cells #[.int .i64 n2, .string x2] 25)) (by simp)
  have FB := FVar.new (w1.alloc (.cells #[.int .i64 n, .string x] 25)) n2 x2 25
  simp only [World.size_alloc] at FB
  replace B := B.trans ((bl2 w1 (.cells #[.int .i64 n, .string x] 25) (.cells #[.int .i64 n2, .string x2] 25)).mono B.size)
  go_wp2_with fail
  generalize (w1.alloc (.cells #[.int .i64 n, .string x] 25)).alloc (.cells #[.int .i64 n2, .string x2] 25) = w2 at *
  generalize w1.heap.size = A0 at *
  have CI := fun w => implBoth_any n x n2 x2 w hxm hx2m
  have CS := fun w => specBoth_any n x n2 x2 w hxm hx2m
  have ⟨a0, a1⟩ := FA.1
  have ⟨b0, b1⟩ := FB.1
  cases hq : bothB n x n2 x2
  · have e1 : bothN n x n2 x2 = 0 := by simp [bothN, hq]
    have e2 : bothT n x n2 x2 = ⟨#[]⟩ := by simp [bothT, hq]
    rw [hq, e1, e2] at CI CS
    clear hq e1 e2
    clear a0 a1 b0 b1
    refine (CI _).mono ?_
    rintro e w3 ⟨rfl, hb⟩
    replace B := B.trans (hb.mono B.size)
    replace FA := FA.below hb FA.2.2
    replace FB := FB.below hb FB.2.2
    clear hb
    clear CI
    have FC := FVar.new w3 0 ⟨#[]⟩ 25
    have hb := bl1 w3 (.cells #[.int .i64 0, .string ⟨#[]⟩] 25)
    replace B := B.trans (hb.mono B.size)
    replace FA := FA.below hb FA.2.2
    replace FB := FB.below hb FB.2.2
    clear hb
    have ⟨a0, a1⟩ := FA.1
    have ⟨b0, b1⟩ := FB.1
    go_wp2_with fail
    clear a0 a1 b0 b1
    generalize w3.alloc (.cells #[.int .i64 0, .string ⟨#[]⟩] 25) = w4 at *
    generalize w3.heap.size = C0 at *
    refine (CS _).mono ?_
    rintro e w5 ⟨rfl, hb⟩
    replace B := B.trans (hb.mono B.size)
    replace FA := FA.below hb FA.2.2
    replace FB := FB.below hb FB.2.2
    replace FC := FC.below hb FC.2.2
    clear hb
    clear CS
    have FD := FVar.new w5 0 ⟨#[]⟩ 25
    have hb := bl1 w5 (.cells #[.int .i64 0, .string ⟨#[]⟩] 25)
    replace B := B.trans (hb.mono B.size)
    replace FA := FA.below hb FA.2.2
    replace FB := FB.below hb FB.2.2
    replace FC := FC.below hb FC.2.2
    clear hb
    have ⟨c0, c1⟩ := FC.1
    have ⟨d0, d1⟩ := FD.1
    go_wp2_with fail
    go_ret
    exact ⟨rfl, B⟩
  obtain ⟨rfl, h1, h2, h3⟩ := bothB_parts hq
  obtain ⟨e3, e1, e2⟩ := both_yes h1 h2
  rw [e3, e1, e2] at CI CS
  clear hq e1 e2 e3
  have hl := orS_le h3
  have ht := filB_or h1 h3
  have hts : (orS x x2).size ≤ maxLen := by rw [orS_size h3]; exact hxm
  have CD := fun w => implBoth_any n2 x2 n2 x w hx2m hxm
  have CE := fun w => implBoth_any n2 (orS x x2) n2 x w hts hxm
  obtain ⟨e3, e1, e2⟩ := both_yes h2 h1
  rw [e3, e1, e2, orS_comm h3] at CD
  clear e1 e2 e3
  obtain ⟨e3, e1, e2⟩ := both_yes ht h1
  rw [e3, e1, e2, orS_again h3] at CE
  clear e1 e2 e3
  have CO := fun w => implFilterOk_any n2 (orS x x2) w hts
  rw [ht] at CO
  have HM := Lib.hid (show ∀ s, s.size ≤ 12 → (hasB n2 x s = true ∨ hasB n2 x2 s = true) → hasB n2 (orS x x2) s = true from fun s hs h => h.elim (hasB_mono h1 ht hs hl.1) (hasB_mono h2 ht hs hl.2))
  clear hl ht h1 h2 h3
  generalize orS x x2 = t at *
  clear a0 a1 b0 b1
  refine (CI _).mono ?_
  rintro e w3 ⟨rfl, hb⟩
  replace B := B.trans (hb.mono B.size)
  replace FA := FA.below hb FA.2.2
  replace FB := FB.below hb FB.2.2
  clear hb
  clear CI
  have FC := FVar.new w3 n2 t 25
  have hb := bl1 w3 (.cells #[.int .i64 n2, .string t] 25)
  replace B := B.trans (hb.mono B.size)
  replace FA := FA.below hb FA.2.2
  replace FB := FB.below hb FB.2.2
  clear hb
  have ⟨a0, a1⟩ := FA.1
  have ⟨b0, b1⟩ := FB.1
  go_wp2_with fail
  clear a0 a1 b0 b1
  generalize w3.alloc (.cells #[.int .i64 n2, .string t] 25) = w4 at *
  generalize w3.heap.size = C0 at *
  refine (CS _).mono ?_
  rintro e w5 ⟨rfl, hb⟩
  replace B := B.trans (hb.mono B.size)
  replace FA := FA.below hb FA.2.2
  replace FB := FB.below hb FB.2.2
  replace FC := FC.below hb FC.2.2
  clear hb
  clear CS
  have FD := FVar.new w5 n2 t 25
  have hb := bl1 w5 (.cells #[.int .i64 n2, .string t] 25)
  replace B := B.trans (hb.mono B.size)
  replace FA := FA.below hb FA.2.2
  replace FB := FB.below hb FB.2.2
  replace FC := FC.below hb FC.2.2
  clear hb
  have ⟨a0, a1⟩ := FA.1
  have ⟨b0, b1⟩ := FB.1
  have ⟨c0, c1⟩ := FC.1
  have ⟨d0, d1⟩ := FD.1
  go_wp2_with fail
  clear a0 a1 b0 b1 c0 c1 d0 d1
  generalize w5.alloc (.cells #[.int .i64 n2, .string t] 25) = w6 at *
  generalize w5.heap.size = D0 at *
  refine (CD _).mono ?_
  rintro e w7 ⟨rfl, hb⟩
  replace B := B.trans (hb.mono B.size)
  replace FA := FA.below hb FA.2.2
  replace FB := FB.below hb FB.2.2
  replace FC := FC.below hb FC.2.2
  replace FD := FD.below hb FD.2.2
  clear hb
  clear CD
  have FE := FVar.new w7 n2 t 25
  have hb := bl1 w7 (.cells #[.int .i64 n2, .string t] 25)
  replace B := B.trans (hb.mono B.size)
  replace FA := FA.below hb FA.2.2
  replace FB := FB.below hb FB.2.2
  replace FC := FC.below hb FC.2.2
  replace FD := FD.below hb FD.2.2
  clear hb
  have ⟨a0, a1⟩ := FA.1
  have ⟨c0, c1⟩ := FC.1
  go_wp2_with fail
  clear a0 a1 c0 c1
  generalize w7.alloc (.cells #[.int .i64 n2, .string t] 25) = w8 at *
  generalize w7.heap.size = E0 at *
  refine (CE _).mono ?_
  rintro e w9 ⟨rfl, hb⟩
  replace B := B.trans (hb.mono B.size)
  replace FA := FA.below hb FA.2.2
  replace FB := FB.below hb FB.2.2
  replace FC := FC.below hb FC.2.2
  replace FD := FD.below hb FD.2.2
  replace FE := FE.below hb FE.2.2
  clear hb
  clear CE
  have FG := FVar.new w9 n2 t 25
  have hb := bl1 w9 (.cells #[.int .i64 n2, .string t] 25)
  replace B := B.trans (hb.mono B.size)
  replace FA := FA.below hb FA.2.2
  replace FB := FB.below hb FB.2.2
  replace FC := FC.below hb FC.2.2
  replace FD := FD.below hb FD.2.2
  replace FE := FE.below hb FE.2.2
  clear hb
  have hb := bl1 (w9.alloc (.cells #[.int .i64 n2, .string t] 25)) (.cells #[.string ⟨#[]⟩, .string ⟨#[97]⟩, .string ⟨#[98]⟩, .string ⟨#[97, 98]⟩, .string ⟨#[99]⟩, .string ⟨#[107, 101, 121]⟩] 9)
  replace B := B.trans (hb.mono B.size)
  replace FA := FA.below hb FA.2.2
  replace FB := FB.below hb FB.2.2
  replace FC := FC.below hb FC.2.2
  replace FD := FD.below hb FD.2.2
  replace FE := FE.below hb FE.2.2
  replace FG := FG.below hb FG.2.2
  have HK := Lib.hid (show ∀ (k : Nat) (s : ByteArray), sixK[k]? = some s → ((w9.alloc (.cells #[.int .i64 n2, .string t] 25)).alloc (.cells #[.string ⟨#[]⟩, .string ⟨#[97]⟩, .string ⟨#[98]⟩, .string ⟨#[97, 98]⟩, .string ⟨#[99]⟩, .string ⟨#[107, 101, 121]⟩] 9)).cell? ⟨w9.heap.size + 1, k, none⟩ = some (.string s) from fun k s h => by
    have hk := (List.getElem?_eq_some_iff.1 h).1
    rcases (show k = 0 ∨ k = 1 ∨ k = 2 ∨ k = 3 ∨ k = 4 ∨ k = 5 by simp [sixK] at hk; omega) with rfl | rfl | rfl | rfl | rfl | rfl <;> simp [sixK] at h <;> subst h <;> simp [go_sem])
  have hKB : w9.heap.size + 1 < ((w9.alloc (.cells #[.int .i64 n2, .string t] 25)).alloc (.cells #[.string ⟨#[]⟩, .string ⟨#[97]⟩, .string ⟨#[98]⟩, .string ⟨#[97, 98]⟩, .string ⟨#[99]⟩, .string ⟨#[107, 101, 121]⟩] 9)).heap.size := by simp
  clear hb
  go_wp2_with fail
  generalize (w9.alloc (.cells #[.int .i64 n2, .string t] 25)).alloc (.cells #[.string ⟨#[]⟩, .string ⟨#[97]⟩, .string ⟨#[98]⟩, .string ⟨#[97, 98]⟩, .string ⟨#[99]⟩, .string ⟨#[107, 101, 121]⟩] 9) = w10 at *
  generalize w9.heap.size = G0 at *
  go_loopw [14] (fun i wr => ∃ k : Nat, k ≤ 6 ∧ i = .int .i64 k ∧ Below w10.heap.size w10 wr) (fun i _ => 6 - (intOf i).toNat)
  case atStart => exact ⟨0, Nat.zero_le _, rfl, Below.refl _ _⟩
  case round =>
    obtain ⟨k, hk, rfl, hb⟩ := hrel
    by_cases hlt : k < 6
    · obtain ⟨s, hsk⟩ : ∃ s, sixK[k]? = some s := ⟨_, List.getElem?_eq_getElem (by simpa [sixK] using hlt)⟩
      have hs := sixK_size s (List.mem_of_getElem? hsk)
      have hsm : s.size ≤ maxLen := by unfold maxLen; omega
      have ks := (hb.cell (p := ⟨G0 + 1, k, none⟩) hKB).trans (HK.out k s hsk)
      have GA := FA.below hb FA.2.2
      have GB := FB.below hb FB.2.2
      have GC := FC.below hb FC.2.2
      have hM := Lib.hid (HM.out s hs)
      have CA := fun w => implFilterHas_any n2 x s w hxm hsm
      have CB := fun w => implFilterHas_any n2 x2 s w hx2m hsm
      have CC := fun w => implFilterHas_any n2 t s w hts hsm
      have hC := Lib.hid (show ∀ w', Below wr.heap.size wr w' → w'.cell? ⟨A0, 0, none⟩ = some (.int .i64 n2) ∧ w'.cell? ⟨A0, 1, none⟩ = some (.string x) ∧ w'.cell? ⟨A0 + 1, 0, none⟩ = some (.int .i64 n2) ∧ w'.cell? ⟨A0 + 1, 1, none⟩ = some (.string x2) ∧ w'.cell? ⟨C0, 0, none⟩ = some (.int .i64 n2) ∧ w'.cell? ⟨C0, 1, none⟩ = some (.string t) ∧ w'.cell? ⟨G0 + 1, k, none⟩ = some (.string s) from fun w' h => ⟨(GA.below h GA.2.2).1.1, (GA.below h GA.2.2).1.2, (GB.below h GB.2.2).1.1, (GB.below h GB.2.2).1.2, (GC.below h GC.2.2).1.1, (GC.below h GC.2.2).1.2, (h.cell (p := ⟨G0 + 1, k, none⟩) (Nat.lt_of_lt_of_le hKB hb.size)).trans ks⟩)
      have hk0 : (0 : Int) ≤ (k : Int) := by omega
      have hk6 : (k : Int) < 6 := by omega
      clear hsk GA GB GC ks
      cases ha : hasB n2 x s
      · cases hb2 : hasB n2 x2 s
        · rw [ha] at CA
          rw [hb2] at CB
          clear CC hM ha hb2
          go_wp2_with fail
          refine wp_region_held_drew (S := fun w' => (w'.cell? ⟨A0, 0, none⟩ = some (.int .i64 n2) ∧ w'.cell? ⟨A0, 1, none⟩ = some (.string x) ∧ w'.cell? ⟨A0 + 1, 0, none⟩ = some (.int .i64 n2) ∧ w'.cell? ⟨A0 + 1, 1, none⟩ = some (.string x2) ∧ w'.cell? ⟨C0, 0, none⟩ = some (.int .i64 n2) ∧ w'.cell? ⟨C0, 1, none⟩ = some (.string t) ∧ w'.cell? ⟨G0 + 1, k, none⟩ = some (.string s)) ∧ Below wr.heap.size wr w') (by kernel_rfl) (keepStart hC.out) (fun hHeld => ?_)
          refine wpAnyH_take (i := 0) (v := ?_) rfl (by kernel_rfl) (by kernel_rfl) (by kernel_rfl) (fun _ _ _ h => h) (Or.inl ⟨by rfl, ?_⟩) (by assumption) ?_
          rotate_left
          · intro w hSw; (try dsimp only at hSw); go_simp; (try with_reducible rfl)
          try simp only [Act.put]
          repeat (first | simp only [List.setIfInBounds_toArray] | simp only [List.set_cons_succ] | simp only [List.set_cons_zero])
          refine wpAnyH_take (i := 1) (v := ?_) rfl (by kernel_rfl) (by kernel_rfl) (by kernel_rfl) (fun _ _ _ h => h) (Or.inl ⟨by rfl, ?_⟩) (by assumption) ?_
          rotate_left
          · intro w hSw; (try dsimp only at hSw); go_simp; (try with_reducible rfl)
          try simp only [Act.put]
          repeat (first | simp only [List.setIfInBounds_toArray] | simp only [List.set_cons_succ] | simp only [List.set_cons_zero])
          refine wpAnyH_take (i := 2) (v := ?_) rfl (by kernel_rfl) (by kernel_rfl) (by kernel_rfl) (fun _ _ _ h => h) (Or.inl ⟨by rfl, ?_⟩) (by assumption) ?_
          rotate_left
          · intro w hSw; (try dsimp only at hSw); go_simp; (try with_reducible rfl)
          try simp only [Act.put]
          repeat (first | simp only [List.setIfInBounds_toArray] | simp only [List.set_cons_succ] | simp only [List.set_cons_zero])
          refine wpAnyH_take (i := 3) (v := ?_) rfl (by kernel_rfl) (by kernel_rfl) (by kernel_rfl) (fun _ _ _ h => h) (Or.inl ⟨by rfl, ?_⟩) (by assumption) ?_
          rotate_left
          · intro w hSw; (try dsimp only at hSw); go_simp; (try with_reducible rfl)
          try simp only [Act.put]
          repeat (first | simp only [List.setIfInBounds_toArray] | simp only [List.set_cons_succ] | simp only [List.set_cons_zero])
          refine wpAnyH_take (i := 4) (v := ?_) rfl (by kernel_rfl) (by kernel_rfl) (by kernel_rfl) (fun _ _ _ h => h) (Or.inl ⟨by rfl, ?_⟩) (by assumption) ?_
          rotate_left
          · intro w hSw; (try dsimp only at hSw); go_simp; (try with_reducible rfl)
          try simp only [Act.put]
          repeat (first | simp only [List.setIfInBounds_toArray] | simp only [List.set_cons_succ] | simp only [List.set_cons_zero])
          refine wpAnyH_ready (rs := [5]) (by kernel_rfl) (by simp) ?_
          refine AllReadyH.cons rfl (fun K hK => ?_) AllReadyH.nil
          go_simp
          refine (CA _).mono ?_
          rintro e w11 ⟨rfl, hb'⟩
          try go_wp2_with fail
          refine hK.out _ _ (keepCall hC.out hb' hHeld) (fun hHeld2 => ?_)
          clear hK K hHeld
          have hHeld := hHeld2
          clear hHeld2
          try simp only [Act.put]
          repeat (first | simp only [List.setIfInBounds_toArray] | simp only [List.set_cons_succ] | simp only [List.set_cons_zero])
          refine wpAnyH_take (i := 6) (v := ?_) rfl (by kernel_rfl) (by kernel_rfl) (by kernel_rfl) (fun _ _ _ h => h) (Or.inl ⟨by rfl, ?_⟩) (by assumption) ?_
          rotate_left
          · intro w hSw; (try dsimp only at hSw); go_simp; (try with_reducible rfl)
          try simp only [Act.put]
          repeat (first | simp only [List.setIfInBounds_toArray] | simp only [List.set_cons_succ] | simp only [List.set_cons_zero])
          refine wpAnyH_take (i := 7) (v := ?_) rfl (by kernel_rfl) (by kernel_rfl) (by kernel_rfl) (fun _ _ _ h => h) (Or.inl ⟨by rfl, ?_⟩) (by assumption) ?_
          rotate_left
          · intro w hSw; (try dsimp only at hSw); go_simp; (try with_reducible rfl)
          try simp only [Act.put]
          repeat (first | simp only [List.setIfInBounds_toArray] | simp only [List.set_cons_succ] | simp only [List.set_cons_zero])
          refine wpAnyH_take (i := 8) (v := ?_) rfl (by kernel_rfl) (by kernel_rfl) (by kernel_rfl) (fun _ _ _ h => h) (Or.inl ⟨by rfl, ?_⟩) (by assumption) ?_
          rotate_left
          · intro w hSw; (try dsimp only at hSw); go_simp; (try with_reducible rfl)
          try simp only [Act.put]
          repeat (first | simp only [List.setIfInBounds_toArray] | simp only [List.set_cons_succ] | simp only [List.set_cons_zero])
          refine wpAnyH_take (i := 9) (v := ?_) rfl (by kernel_rfl) (by kernel_rfl) (by kernel_rfl) (fun _ _ _ h => h) (Or.inl ⟨by rfl, ?_⟩) (by assumption) ?_
          rotate_left
          · intro w hSw; (try dsimp only at hSw); go_simp; (try with_reducible rfl)
          try simp only [Act.put]
          repeat (first | simp only [List.setIfInBounds_toArray] | simp only [List.set_cons_succ] | simp only [List.set_cons_zero])
          refine wpAnyH_take (i := 10) (v := ?_) rfl (by kernel_rfl) (by kernel_rfl) (by kernel_rfl) (fun _ _ _ h => h) (Or.inl ⟨by rfl, ?_⟩) (by assumption) ?_
          rotate_left
          · intro w hSw; (try dsimp only at hSw); go_simp; (try with_reducible rfl)
          try simp only [Act.put]
          repeat (first | simp only [List.setIfInBounds_toArray] | simp only [List.set_cons_succ] | simp only [List.set_cons_zero])
          refine wpAnyH_take (i := 11) (v := ?_) rfl (by kernel_rfl) (by kernel_rfl) (by kernel_rfl) (fun _ _ _ h => h) (Or.inl ⟨by rfl, ?_⟩) (by assumption) ?_
          rotate_left
          · intro w hSw; (try dsimp only at hSw); go_simp; (try with_reducible rfl)
          try simp only [Act.put]
          repeat (first | simp only [List.setIfInBounds_toArray] | simp only [List.set_cons_succ] | simp only [List.set_cons_zero])
          refine wpAnyH_ready (rs := [12]) (by kernel_rfl) (by simp) ?_
          refine AllReadyH.cons rfl (fun K hK => ?_) AllReadyH.nil
          go_simp
          refine (CB _).mono ?_
          rintro e w12 ⟨rfl, hb'⟩
          try go_wp2_with fail
          refine hK.out _ _ (keepCall hC.out hb' hHeld) (fun hHeld2 => ?_)
          clear hK K hHeld
          have hHeld := hHeld2
          clear hHeld2
          try simp only [Act.put]
          repeat (first | simp only [List.setIfInBounds_toArray] | simp only [List.set_cons_succ] | simp only [List.set_cons_zero])
          refine wpAnyH_take (i := 13) (v := ?_) rfl (by kernel_rfl) (by kernel_rfl) (by kernel_rfl) (fun _ _ _ h => h) (Or.inl ⟨by rfl, ?_⟩) (by assumption) ?_
          rotate_left
          · intro w hSw; (try dsimp only at hSw); go_simp; (try with_reducible rfl)
          try simp only [Act.put]
          repeat (first | simp only [List.setIfInBounds_toArray] | simp only [List.set_cons_succ] | simp only [List.set_cons_zero])
          refine wpAnyH_take (i := 14) (v := ?_) rfl (by kernel_rfl) (by kernel_rfl) (by kernel_rfl) (fun _ _ _ h => h) (Or.inl ⟨by rfl, ?_⟩) (by assumption) ?_
          rotate_left
          · intro w hSw; (try dsimp only at hSw); go_simp; (try with_reducible rfl)
          try simp only [Act.put]
          repeat (first | simp only [List.setIfInBounds_toArray] | simp only [List.set_cons_succ] | simp only [List.set_cons_zero])
          refine wpAnyH_take (i := 15) (v := undef) rfl (by kernel_rfl) (by kernel_rfl) (by kernel_rfl) (fun _ _ _ h => h) (Or.inr ⟨by rfl, rfl⟩) (by assumption) ?_
          try simp only [Act.put]
          repeat (first | simp only [List.setIfInBounds_toArray] | simp only [List.set_cons_succ] | simp only [List.set_cons_zero])
          refine wpAnyH_take (i := 16) (v := undef) rfl (by kernel_rfl) (by kernel_rfl) (by kernel_rfl) (fun _ _ _ h => h) (Or.inr ⟨by rfl, rfl⟩) (by assumption) ?_
          try simp only [Act.put]
          repeat (first | simp only [List.setIfInBounds_toArray] | simp only [List.set_cons_succ] | simp only [List.set_cons_zero])
          refine wpAnyH_take (i := 17) (v := undef) rfl (by kernel_rfl) (by kernel_rfl) (by kernel_rfl) (fun _ _ _ h => h) (Or.inr ⟨by rfl, rfl⟩) (by assumption) ?_
          try simp only [Act.put]
          repeat (first | simp only [List.setIfInBounds_toArray] | simp only [List.set_cons_succ] | simp only [List.set_cons_zero])
          refine wpAnyH_take (i := 18) (v := undef) rfl (by kernel_rfl) (by kernel_rfl) (by kernel_rfl) (fun _ _ _ h => h) (Or.inr ⟨by rfl, rfl⟩) (by assumption) ?_
          try simp only [Act.put]
          repeat (first | simp only [List.setIfInBounds_toArray] | simp only [List.set_cons_succ] | simp only [List.set_cons_zero])
          refine wpAnyH_take (i := 19) (v := undef) rfl (by kernel_rfl) (by kernel_rfl) (by kernel_rfl) (fun _ _ _ h => h) (Or.inr ⟨by rfl, rfl⟩) (by assumption) ?_
          try simp only [Act.put]
          repeat (first | simp only [List.setIfInBounds_toArray] | simp only [List.set_cons_succ] | simp only [List.set_cons_zero])
          refine wpAnyH_ready (rs := [20]) (by kernel_rfl) (by simp) ?_
          refine AllReadyH.cons rfl (fun K hK => ?_) AllReadyH.nil
          go_simp
          refine hK.out _ _ hHeld (fun _ => ?_)
          clear hK K
          try simp only [Act.put]
          repeat (first | simp only [List.setIfInBounds_toArray] | simp only [List.set_cons_succ] | simp only [List.set_cons_zero])
          refine wpAnyH_take (i := 21) (v := undef) rfl (by kernel_rfl) (by kernel_rfl) (by kernel_rfl) (fun _ _ _ h => h) (Or.inr ⟨by rfl, rfl⟩) (by assumption) ?_
          try simp only [Act.put]
          repeat (first | simp only [List.setIfInBounds_toArray] | simp only [List.set_cons_succ] | simp only [List.set_cons_zero])
          refine wpAnyH_take (i := 22) (v := ?_) rfl (by kernel_rfl) (by kernel_rfl) (by kernel_rfl) (fun _ _ _ h => h) (Or.inl ⟨by rfl, ?_⟩) (by assumption) ?_
          rotate_left
          · intro w hSw; (try dsimp only at hSw); go_simp; (try with_reducible rfl)
          try simp only [Act.put]
          repeat (first | simp only [List.setIfInBounds_toArray] | simp only [List.set_cons_succ] | simp only [List.set_cons_zero])
          refine wpAnyH_done (by kernel_rfl) ?_ _
          have b9 := hb.trans ((keepBelow hC.out hHeld).mono hb.size)
          clear hC hHeld
          go_wp2_with fail
          go_roundw
          case rel => exact ⟨k + 1, by omega, by go_num, b9⟩
          case measure => simp [intOf]; omega
        · have hcc := hM.out (.inr hb2)
          rw [ha] at CA
          rw [hb2] at CB
          rw [hcc] at CC
          clear hM ha hb2 hcc
          go_wp2_with fail
          go_region_held3 (fun w' => (w'.cell? ⟨A0, 0, none⟩ = some (.int .i64 n2) ∧ w'.cell? ⟨A0, 1, none⟩ = some (.string x) ∧ w'.cell? ⟨A0 + 1, 0, none⟩ = some (.int .i64 n2) ∧ w'.cell? ⟨A0 + 1, 1, none⟩ = some (.string x2) ∧ w'.cell? ⟨C0, 0, none⟩ = some (.int .i64 n2) ∧ w'.cell? ⟨C0, 1, none⟩ = some (.string t) ∧ w'.cell? ⟨G0 + 1, k, none⟩ = some (.string s)) ∧ Below wr.heap.size wr w') (first | exact keepStart hC.out | (refine keepCall hC.out hb' ?_; assumption))
            (first
              | (go_at_call 17; (with_reducible refine (CA _).mono ?_); rintro e w11 ⟨rfl, hb'⟩)
              | (go_at_call 17; (with_reducible refine (CB _).mono ?_); rintro e w12 ⟨rfl, hb'⟩)
              | (go_at_call 17; (with_reducible refine (CC _).mono ?_); rintro e w13 ⟨rfl, hb'⟩))
          have b9 := hb.trans ((keepBelow hC.out (by assumption)).mono hb.size)
          clear hC
          go_wp2_with fail
          go_roundw
          case rel => exact ⟨k + 1, by omega, by go_num, b9⟩
          case measure => simp [intOf]; omega
      · have hcc := hM.out (.inl ha)
        rw [ha] at CA
        rw [hcc] at CC
        clear CB hM ha hcc
        go_wp2_with fail
        refine wp_region_held_drew (S := fun w' => (w'.cell? ⟨A0, 0, none⟩ = some (.int .i64 n2) ∧ w'.cell? ⟨A0, 1, none⟩ = some (.string x) ∧ w'.cell? ⟨A0 + 1, 0, none⟩ = some (.int .i64 n2) ∧ w'.cell? ⟨A0 + 1, 1, none⟩ = some (.string x2) ∧ w'.cell? ⟨C0, 0, none⟩ = some (.int .i64 n2) ∧ w'.cell? ⟨C0, 1, none⟩ = some (.string t) ∧ w'.cell? ⟨G0 + 1, k, none⟩ = some (.string s)) ∧ Below wr.heap.size wr w') (by kernel_rfl) (keepStart hC.out) (fun hHeld => ?_)
        refine wpAnyH_take (i := 0) (v := ?_) rfl (by kernel_rfl) (by kernel_rfl) (by kernel_rfl) (fun _ _ _ h => h) (Or.inl ⟨by rfl, ?_⟩) (by assumption) ?_
        rotate_left
        · intro w hSw; (try dsimp only at hSw); go_simp; (try with_reducible rfl)
        try simp only [Act.put]
        repeat (first | simp only [List.setIfInBounds_toArray] | simp only [List.set_cons_succ] | simp only [List.set_cons_zero])
        refine wpAnyH_take (i := 1) (v := ?_) rfl (by kernel_rfl) (by kernel_rfl) (by kernel_rfl) (fun _ _ _ h => h) (Or.inl ⟨by rfl, ?_⟩) (by assumption) ?_
        rotate_left
        · intro w hSw; (try dsimp only at hSw); go_simp; (try with_reducible rfl)
        try simp only [Act.put]
        repeat (first | simp only [List.setIfInBounds_toArray] | simp only [List.set_cons_succ] | simp only [List.set_cons_zero])
        refine wpAnyH_take (i := 2) (v := ?_) rfl (by kernel_rfl) (by kernel_rfl) (by kernel_rfl) (fun _ _ _ h => h) (Or.inl ⟨by rfl, ?_⟩) (by assumption) ?_
        rotate_left
        · intro w hSw; (try dsimp only at hSw); go_simp; (try with_reducible rfl)
        try simp only [Act.put]
        repeat (first | simp only [List.setIfInBounds_toArray] | simp only [List.set_cons_succ] | simp only [List.set_cons_zero])
        refine wpAnyH_take (i := 3) (v := ?_) rfl (by kernel_rfl) (by kernel_rfl) (by kernel_rfl) (fun _ _ _ h => h) (Or.inl ⟨by rfl, ?_⟩) (by assumption) ?_
        rotate_left
        · intro w hSw; (try dsimp only at hSw); go_simp; (try with_reducible rfl)
        try simp only [Act.put]
        repeat (first | simp only [List.setIfInBounds_toArray] | simp only [List.set_cons_succ] | simp only [List.set_cons_zero])
        refine wpAnyH_take (i := 4) (v := ?_) rfl (by kernel_rfl) (by kernel_rfl) (by kernel_rfl) (fun _ _ _ h => h) (Or.inl ⟨by rfl, ?_⟩) (by assumption) ?_
        rotate_left
        · intro w hSw; (try dsimp only at hSw); go_simp; (try with_reducible rfl)
        try simp only [Act.put]
        repeat (first | simp only [List.setIfInBounds_toArray] | simp only [List.set_cons_succ] | simp only [List.set_cons_zero])
        refine wpAnyH_ready (rs := [5]) (by kernel_rfl) (by simp) ?_
        refine AllReadyH.cons rfl (fun K hK => ?_) AllReadyH.nil
        go_simp
        refine (CA _).mono ?_
        rintro e w11 ⟨rfl, hb'⟩
        try go_wp2_with fail
        refine hK.out _ _ (keepCall hC.out hb' hHeld) (fun hHeld2 => ?_)
        clear hK K hHeld
        have hHeld := hHeld2
        clear hHeld2
        try simp only [Act.put]
        repeat (first | simp only [List.setIfInBounds_toArray] | simp only [List.set_cons_succ] | simp only [List.set_cons_zero])
        refine wpAnyH_take (i := 6) (v := ?_) rfl (by kernel_rfl) (by kernel_rfl) (by kernel_rfl) (fun _ _ _ h => h) (Or.inl ⟨by rfl, ?_⟩) (by assumption) ?_
        rotate_left
        · intro w hSw; (try dsimp only at hSw); go_simp; (try with_reducible rfl)
        try simp only [Act.put]
        repeat (first | simp only [List.setIfInBounds_toArray] | simp only [List.set_cons_succ] | simp only [List.set_cons_zero])
        refine wpAnyH_take (i := 7) (v := undef) rfl (by kernel_rfl) (by kernel_rfl) (by kernel_rfl) (fun _ _ _ h => h) (Or.inr ⟨by rfl, rfl⟩) (by assumption) ?_
        try simp only [Act.put]
        repeat (first | simp only [List.setIfInBounds_toArray] | simp only [List.set_cons_succ] | simp only [List.set_cons_zero])
        refine wpAnyH_take (i := 8) (v := undef) rfl (by kernel_rfl) (by kernel_rfl) (by kernel_rfl) (fun _ _ _ h => h) (Or.inr ⟨by rfl, rfl⟩) (by assumption) ?_
        try simp only [Act.put]
        repeat (first | simp only [List.setIfInBounds_toArray] | simp only [List.set_cons_succ] | simp only [List.set_cons_zero])
        refine wpAnyH_take (i := 9) (v := undef) rfl (by kernel_rfl) (by kernel_rfl) (by kernel_rfl) (fun _ _ _ h => h) (Or.inr ⟨by rfl, rfl⟩) (by assumption) ?_
        try simp only [Act.put]
        repeat (first | simp only [List.setIfInBounds_toArray] | simp only [List.set_cons_succ] | simp only [List.set_cons_zero])
        refine wpAnyH_take (i := 10) (v := undef) rfl (by kernel_rfl) (by kernel_rfl) (by kernel_rfl) (fun _ _ _ h => h) (Or.inr ⟨by rfl, rfl⟩) (by assumption) ?_
        try simp only [Act.put]
        repeat (first | simp only [List.setIfInBounds_toArray] | simp only [List.set_cons_succ] | simp only [List.set_cons_zero])
        refine wpAnyH_take (i := 11) (v := undef) rfl (by kernel_rfl) (by kernel_rfl) (by kernel_rfl) (fun _ _ _ h => h) (Or.inr ⟨by rfl, rfl⟩) (by assumption) ?_
        try simp only [Act.put]
        repeat (first | simp only [List.setIfInBounds_toArray] | simp only [List.set_cons_succ] | simp only [List.set_cons_zero])
        refine wpAnyH_ready (rs := [12]) (by kernel_rfl) (by simp) ?_
        refine AllReadyH.cons rfl (fun K hK => ?_) AllReadyH.nil
        go_simp
        refine hK.out _ _ hHeld (fun _ => ?_)
        clear hK K
        try simp only [Act.put]
        repeat (first | simp only [List.setIfInBounds_toArray] | simp only [List.set_cons_succ] | simp only [List.set_cons_zero])
        refine wpAnyH_take (i := 13) (v := ?_) rfl (by kernel_rfl) (by kernel_rfl) (by kernel_rfl) (fun _ _ _ h => h) (Or.inl ⟨by rfl, ?_⟩) (by assumption) ?_
        rotate_left
        · intro w hSw; (try dsimp only at hSw); go_simp; (try with_reducible rfl)
        try simp only [Act.put]
        repeat (first | simp only [List.setIfInBounds_toArray] | simp only [List.set_cons_succ] | simp only [List.set_cons_zero])
        refine wpAnyH_take (i := 14) (v := ?_) rfl (by kernel_rfl) (by kernel_rfl) (by kernel_rfl) (fun _ _ _ h => h) (Or.inl ⟨by rfl, ?_⟩) (by assumption) ?_
        rotate_left
        · intro w hSw; (try dsimp only at hSw); go_simp; (try with_reducible rfl)
        try simp only [Act.put]
        repeat (first | simp only [List.setIfInBounds_toArray] | simp only [List.set_cons_succ] | simp only [List.set_cons_zero])
        refine wpAnyH_take (i := 15) (v := ?_) rfl (by kernel_rfl) (by kernel_rfl) (by kernel_rfl) (fun _ _ _ h => h) (Or.inl ⟨by rfl, ?_⟩) (by assumption) ?_
        rotate_left
        · intro w hSw; (try dsimp only at hSw); go_simp; (try with_reducible rfl)
        try simp only [Act.put]
        repeat (first | simp only [List.setIfInBounds_toArray] | simp only [List.set_cons_succ] | simp only [List.set_cons_zero])
        refine wpAnyH_take (i := 16) (v := ?_) rfl (by kernel_rfl) (by kernel_rfl) (by kernel_rfl) (fun _ _ _ h => h) (Or.inl ⟨by rfl, ?_⟩) (by assumption) ?_
        rotate_left
        · intro w hSw; (try dsimp only at hSw); go_simp; (try with_reducible rfl)
        try simp only [Act.put]
        repeat (first | simp only [List.setIfInBounds_toArray] | simp only [List.set_cons_succ] | simp only [List.set_cons_zero])
        refine wpAnyH_take (i := 17) (v := ?_) rfl (by kernel_rfl) (by kernel_rfl) (by kernel_rfl) (fun _ _ _ h => h) (Or.inl ⟨by rfl, ?_⟩) (by assumption) ?_
        rotate_left
        · intro w hSw; (try dsimp only at hSw); go_simp; (try with_reducible rfl)
        try simp only [Act.put]
        repeat (first | simp only [List.setIfInBounds_toArray] | simp only [List.set_cons_succ] | simp only [List.set_cons_zero])
        refine wpAnyH_take (i := 18) (v := ?_) rfl (by kernel_rfl) (by kernel_rfl) (by kernel_rfl) (fun _ _ _ h => h) (Or.inl ⟨by rfl, ?_⟩) (by assumption) ?_
        rotate_left
        · intro w hSw; (try dsimp only at hSw); go_simp; (try with_reducible rfl)
        try simp only [Act.put]
        repeat (first | simp only [List.setIfInBounds_toArray] | simp only [List.set_cons_succ] | simp only [List.set_cons_zero])
        refine wpAnyH_take (i := 19) (v := ?_) rfl (by kernel_rfl) (by kernel_rfl) (by kernel_rfl) (fun _ _ _ h => h) (Or.inl ⟨by rfl, ?_⟩) (by assumption) ?_
        rotate_left
        · intro w hSw; (try dsimp only at hSw); go_simp; (try with_reducible rfl)
        try simp only [Act.put]
        repeat (first | simp only [List.setIfInBounds_toArray] | simp only [List.set_cons_succ] | simp only [List.set_cons_zero])
        refine wpAnyH_ready (rs := [20]) (by kernel_rfl) (by simp) ?_
        refine AllReadyH.cons rfl (fun K hK => ?_) AllReadyH.nil
        go_simp
        refine (CC _).mono ?_
        rintro e w13 ⟨rfl, hb'⟩
        try go_wp2_with fail
        refine hK.out _ _ (keepCall hC.out hb' hHeld) (fun hHeld2 => ?_)
        clear hK K hHeld
        have hHeld := hHeld2
        clear hHeld2
        try simp only [Act.put]
        repeat (first | simp only [List.setIfInBounds_toArray] | simp only [List.set_cons_succ] | simp only [List.set_cons_zero])
        refine wpAnyH_take (i := 21) (v := ?_) rfl (by kernel_rfl) (by kernel_rfl) (by kernel_rfl) (fun _ _ _ h => h) (Or.inl ⟨by rfl, ?_⟩) (by assumption) ?_
        rotate_left
        · intro w hSw; (try dsimp only at hSw); go_simp; (try with_reducible rfl)
        try simp only [Act.put]
        repeat (first | simp only [List.setIfInBounds_toArray] | simp only [List.set_cons_succ] | simp only [List.set_cons_zero])
        refine wpAnyH_take (i := 22) (v := ?_) rfl (by kernel_rfl) (by kernel_rfl) (by kernel_rfl) (fun _ _ _ h => h) (Or.inl ⟨by rfl, ?_⟩) (by assumption) ?_
        rotate_left
        · intro w hSw; (try dsimp only at hSw); go_simp; (try with_reducible rfl)
        try simp only [Act.put]
        repeat (first | simp only [List.setIfInBounds_toArray] | simp only [List.set_cons_succ] | simp only [List.set_cons_zero])
        refine wpAnyH_done (by kernel_rfl) ?_ _
        have b9 := hb.trans ((keepBelow hC.out hHeld).mono hb.size)
        clear hC hHeld
        go_wp2_with fail
        go_roundw
        case rel => exact ⟨k + 1, by omega, by go_num, b9⟩
        case measure => simp [intOf]; omega
    · obtain rfl : k = 6 := by omega
      have GC := FC.below hb FC.2.2
      have GE := FE.below hb FE.2.2
      have GG := FG.below hb FG.2.2
      have ⟨c0, c1⟩ := GC.1
      have ⟨e0, e1⟩ := GE.1
      have ⟨g0, g1⟩ := GG.1
      go_wp2_with fail
      refine (CO _).mono ?_
      rintro e w14 ⟨rfl, hb3⟩
      have B9 := (B.trans (hb.mono B.size)).trans (hb3.mono (Nat.le_trans B.size hb.size))
      clear c0 c1 e0 e1 g0 g1
      go_wp2_with fail
      go_ret
      exact ⟨rfl, B9⟩

end Go.Proofs.Ytohiecppakiliaa

namespace Go.Proofs.Ytohiecppakiliaa
open Go.ChangeShapes Go.WideShapes Go.ChangeAt Go.RowKit Go.Joins
open Go.ChangeMaps (open_string shut_string)
namespace BothFilters

set_option maxRecDepth 100000 in
theorem lifted (os : Os) (started : os.Started) (H : Type) (enc : TypeId × Value → H) :
    ReturnsInHanded {} Try.checked os 4 .any (Rows.fnBothFiltersSpec.pre6 enc Try.prog Try.f4 Rows.fnBothFiltersRow.domain false) (Rows.fnBothFiltersSpec.post enc Try.prog Try.f4 false true false false) := by
  refine returnsInHanded_of_change (C := Try.checked) own started (by kernel_rfl) Try.func4
    (ChangeSpec.witness6 (enc := enc) (C := Try.checked) false ⟨#[], #[.slice none 0 0], []⟩ 8 (by kernel_rfl) (by kernel_rfl) (by kernel_rfl) (by kernel_rfl)) ?_
  intro W base args ds gs before hval0 hW _ _
  have hval : ∀ (j : Nat) t v, Try.f4.params[j]? = some t → args[j]? = some v → Value.okWide Try.prog W .any base t v := hval0
  have hW' := hW
  obtain ⟨p, q, hA0, hV, rfl, _, _⟩ := hW
  have hA : DataW.TrodAll enc Try.prog W 0 (fun _ => true) true Try.f4.params.toList args.toList ds p := hA0
  rw [Try.params4] at hA hval
  obtain ⟨v0, vs0, d0, ds0, p0, q0, hargs, rfl, rfl, h0, r0⟩ := trodAll_cons hA
  obtain ⟨rfl, rfl, rfl⟩ := trodAll_nil r0
  obtain rfl : args = #[v0] := by cases args; simp_all
  obtain ⟨rfl, rfl⟩ := trodVars_none hV
  have k0 := h0
  have lt0 : ∀ x ∈ p0, x.block < W.heap.size := by obtain ⟨m, hm⟩ := k0; exact DataW.trod_lt m _ _ _ hm
  obtain ⟨a0, len0, cap0, z0, rfl, w0⟩ := open_Bytes (hval 0 22 v0 rfl rfl) h0
  clear hA0 hval0
  refine (walk_BothFilters a0 len0 cap0 z0 W w0).mono fun e W' ⟨he, bel⟩ => ?_
  subst he
  exact ⟨_, rfl, _, _, _, [], _, [], hW', trodAll_mk1 (shut_bool Try.underlying4 _), (trodAll_cons_mk (Below.trod laidOut (by kernel_rfl) (of_decide_eq_true (by kernel_rfl)) k0 bel lt0) trodAll_mk0), rfl, bel.frame _, fun h => by cases h⟩

theorem over : Rows.fnBothFiltersRow.holds Try.pinned (OpenSpec.ofChange Rows.fnBothFiltersSpec) :=
  OpenClaim.holds_of_wide 4 Try.f4 rfl rfl rfl rfl rfl rfl rfl ⟨rfl, rfl, rfl, rfl, rfl⟩ rfl rfl rfl rfl rfl (by kernel_rfl) Try.func4 (by kernel_rfl)
    (of_decide_eq_true (by kernel_rfl)) (by unfold Func.isWrapper; first | (rw [if_pos (by decide +kernel)]; kernel_rfl) | (rw [if_neg (by decide +kernel)]; exact ⟨rfl, rfl⟩))
    (fun os started H enc _ => lifted os started H enc)
end BothFilters
theorem fnBothFilters_holds : Rows.FnBothFiltersSaid := BothFilters.over
end Go.Proofs.Ytohiecppakiliaa
