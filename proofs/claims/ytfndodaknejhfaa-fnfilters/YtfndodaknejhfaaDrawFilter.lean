/-
  The draws of filters by their contracts: some filter with at most 32 bytes, some key. Conditions: a code of at most 1048576 bytes.
-/
import Derived.Test.YtfndodaknejhfaaDrawRows
import Derived.Test.YtfndodaknejhfaaFilterOfSpec
import Derived.Deep.RegionHeld3
namespace Go.Proofs.Ytfndodaknejhfaa
open Go.RowKit
theorem ofT_size (rs : List RowV) (n : Int) : (ofT rs n).size ≤ 32 := by
  unfold ofT
  split
  · rename_i h
    unfold ofOk at h
    have := sizeB_all (Bool.and_eq_true _ _ ▸ h).2
    have e : (ofS rs n).size = (n / 8).toNat := by simp [ofS, ByteArray.size, ofL_length, zeroL]
    omega
  · decide
/-- A variable of type impl.Filter in a new block: its two cells, which may be written. -/
def FVar (w : World) (b : Nat) (N : Int) (x : ByteArray) : Prop := At2 w b (.int .i64 N) (.string x) ∧ FV w b
theorem FVar.new (w : World) (N : Int) (x : ByteArray) (t : TypeId) : FVar (w.alloc (.cells #[.int .i64 N, .string x] t)) w.heap.size N x := ⟨At2.new _ _ _ _, FV.new _ _ _ _⟩
theorem FVar.below {w w' : World} {B b : Nat} {N : Int} {x : ByteArray} (h : FVar w b N x) (hb : Below B w w') (hB : b < B) : FVar w' b N x := ⟨h.1.below hb hB, h.2.below hb hB⟩
theorem FVar.drew {w w' : World} {b g n : Nat} {N : Int} {x : ByteArray} (h : FVar w b N x) (hd : Drew w w' g n) (hne : b ≠ g) : FVar w' b N x := by
  have e : w'.heap[b]? = w.heap[b]? := hd.2.block b h.2.2 (fun e => hne (by injection e))
  refine ⟨⟨(World.cell?_of_block (a := ⟨b, 0, none⟩) e).trans h.1.1, (World.cell?_of_block (a := ⟨b, 1, none⟩) e).trans h.1.2⟩, fun j hj => ?_, Nat.lt_of_lt_of_le h.2.2 hd.size⟩
  rw [World.cell?_of_block (a := ⟨b, 0 + j, none⟩) e, World.frozen?_of_block (a := ⟨b, 0 + j, none⟩) e]
  exact h.2.1 j hj
theorem FVar.put {w : World} {b c : Nat} {N : Int} {x : ByteArray} (h : FVar w b N x) (hne : b ≠ c) (u v : Value) : FVar ((w.setCell ⟨c, 0, none⟩ u).setCell ⟨c, 1, none⟩ v) b N x := by
  have hg : w.grownBy ((w.setCell ⟨c, 0, none⟩ u).setCell ⟨c, 1, none⟩ v) (some c) := gb_store (gb_store (World.grownBy.refl w (some c)) 0 u) 1 v
  have e := hg.block b h.2.2 (fun e => hne (by injection e))
  refine ⟨⟨(World.cell?_of_block (a := ⟨b, 0, none⟩) e).trans h.1.1, (World.cell?_of_block (a := ⟨b, 1, none⟩) e).trans h.1.2⟩, fun j hj => ?_, Nat.lt_of_lt_of_le h.2.2 hg.size⟩
  rw [World.cell?_of_block (a := ⟨b, 0 + j, none⟩) e, World.frozen?_of_block (a := ⟨b, 0 + j, none⟩) e]
  exact h.2.1 j hj
theorem Drew.over {w w' w2 : World} {g n : Nat} (h : Drew w w' g n) (hg0 : g < w.heap.size) (hb : Below w.heap.size w' w2) : Drew w w2 g n := by
  refine ⟨?_, ⟨hb.os.trans h.2.os, hb.tape.trans h.2.tape, hb.output.trans h.2.output, Nat.le_trans h.2.size hb.size, fun k hk hne => (hb.block k hk).trans (h.2.block k hk hne)⟩⟩
  obtain ⟨h1, a2, c2, p2, h2, h3, h4⟩ := h.1
  refine ⟨h1, a2, c2, p2, h2.keep (fun b o hb' => hb.cell (p := ⟨b, o, none⟩) (show b < w.heap.size by omega)), h3, h4.1, ?_⟩
  rcases h4.2 with h0 | ⟨g', c, cur, hv, hg, hh, q1, q2, q3, q4⟩
  · exact .inl h0
  · have : g' = g := by injection hv with e; injection e with e; injection e with e1 _; exact e1.symm
    subst this
    exact .inr ⟨g', c, cur, hv, hg, (hb.block g' hg0).trans hh, q1, q2, q3, q4⟩
set_option maxRecDepth 100000 in
set_option maxHeartbeats 1000000 in
theorem filter_any (g n : Nat) (w : World) (h : Rdr w g n) :
    Calls Try.prog 82 #[.pointer (some ⟨g, 0, none⟩)] w fun e w' => ∃ (N : Int) (x : ByteArray), x.size ≤ 32 ∧ e = .returned (.agg #[.int .i64 N, .string x]) ∧ Drew w w' g n := by
  have hg0 := h.lt
  have V := FVar.new w 0 ⟨#[]⟩ 36
  have D := (Drew.refl h).alloc (.cells #[.int .i64 0, .string ⟨#[]⟩] 36)
  go_enter Try.func82, Try.ntmps82
  go_wp2_with fail
  generalize w.alloc (.cells #[.int .i64 0, .string ⟨#[]⟩] 36) = w1 at *
  refine (rows_lit g n 5 _ _ D.rdr (by omega) (by omega) (by omega)).mono ?_
  rintro e w2 ⟨l, b, c, hll, hok, rfl, hO, hD⟩
  have hlt1 : g < w1.heap.size := D.rdr.lt
  replace V := V.drew hD (by omega)
  replace D := D.trans hD
  clear hD
  go_wp2_with fail
  refine (below_lit g n 6 _ _ D.rdr (by omega) (by omega) (by omega)).mono ?_
  rintro e w3 ⟨k, hk, rfl, hD⟩
  replace V := V.drew hD (by omega)
  have hO3 := hD.own hO hlt1
  replace D := D.trans hD
  clear hD hO
  obtain ⟨rn, rt, rb, e1⟩ : ∃ rn rt rb, ofV l (8 * (1 + (k : Int))) = .tuple #[.agg #[.int .i64 rn, .string rt], .bool rb] ∧ rt.size ≤ 32 := ⟨_, _, _, rfl, ofT_size _ _⟩
  obtain ⟨e1, hrt⟩ := e1
  have C := specFilterOf_any _ l.length c l (8 * (1 + (k : Int))) w3 (by omega) hok (Rd.of_own hO3)
  rw [e1] at C
  clear e1 hO3
  go_wp2_with fail
  refine C.mono ?_
  clear C
  rintro e w4 ⟨rfl, hb⟩
  replace V := V.below hb V.2.2
  replace D := D.and hb
  clear hb
  have F := FVar.new w4 rn rt 36
  have hb := bl1 w4 (.cells #[.int .i64 rn, .string rt] 36)
  have hFw : w.heap.size < w4.heap.size := V.2.2
  replace V := V.below hb V.2.2
  replace D := D.and hb
  clear hb
  go_wp2_with fail
  generalize w4.alloc (.cells #[.int .i64 rn, .string rt] 36) = w5 at *
  generalize w4.heap.size = F0 at *
  refine (once_lit g n 20 _ _ D.rdr (by omega) (by omega) (by omega)).mono ?_
  rintro e w6 ⟨q, rfl, hD⟩
  replace V := V.drew hD (by omega)
  replace F := F.drew hD (by omega)
  replace D := D.trans hD
  clear hD
  cases q
  · have ⟨x0, x1⟩ := F.1
    go_wp2_with (refine wpList_store_fil rfl _ _ rfl w.heap.size rn rt (by rfl) (by rfl) V.2 fun w7 hR hk => stop ?_)
    refine unstop ?_
    have hld := load_fil hR
    have D7 := D.over hg0 (hk w.heap.size w6 (Nat.le_refl _) (Below.refl _ _))
    go_wp2_with fail
    refine bodyPost_ret (v := .agg #[.int .i64 rn, .string rt]) ?_ rfl ⟨rn, rt, hrt, rfl, D7⟩
    simp [results, Try.results82, asAddr, hld]
  · go_wp2_with fail
    refine (off_any g n 8 256 _ D.rdr (by omega) (by omega) (by omega)).mono ?_
    rintro e w7 ⟨z, hz0, hz1, rfl, hD⟩
    replace V := V.drew hD (by omega)
    replace F := F.drew hD (by omega)
    replace D := D.trans hD
    clear hD
    have ⟨x0, x1⟩ := F.1
    have f0 := (F.2.1 0 (by omega)).2
    rw [Nat.zero_add] at f0
    have V' := V.below ((Below.refl F0 w7).setCell (p := ⟨F0, 0, none⟩) (Nat.le_refl _) (.int .i64 z)) hFw
    have D' := D.set (o := 0) (b := F0) hg0 (by omega) (.int .i64 z)
    go_wp2_with (refine wpList_store_fil rfl _ _ rfl w.heap.size z rt (by rfl) (by rfl) V'.2 fun w8 hR hk => stop ?_)
    refine unstop ?_
    have hld := load_fil hR
    have D8 := D'.over hg0 (hk w.heap.size _ (Nat.le_refl _) (Below.refl _ _))
    go_wp2_with fail
    refine bodyPost_ret (v := .agg #[.int .i64 z, .string rt]) ?_ rfl ⟨z, rt, hrt, rfl, D8⟩
    simp [results, Try.results82, asAddr, hld]
set_option maxRecDepth 100000 in
theorem drawFilterAdd_any (a : Option Addr) (len cap : Nat) (w : World) (hl : len ≤ 1048576) (h : IsBy w w.heap.size a len) :
    Calls Try.prog 20 #[.slice a len cap] w fun e w' => ∃ (N : Int) (x s : ByteArray), x.size ≤ 32 ∧ s.size ≤ 5 ∧ e = .returned (.tuple #[.agg #[.int .i64 N, .string x], .string s]) ∧ Below w.heap.size w w' := by
  have hb0 := bl1 w (.cells #[.int .i64 0, .string ⟨#[]⟩] 36)
  have V := FVar.new w 0 ⟨#[]⟩ 36
  obtain ⟨bx, hx1, hx2⟩ := h
  have h' : IsBy (w.alloc (.cells #[.int .i64 0, .string ⟨#[]⟩] 36)) (w.alloc (.cells #[.int .i64 0, .string ⟨#[]⟩] 36)).heap.size a len := ⟨bx, (hx1.below hb0 (Nat.le_refl _)).more hb0.size, hx2⟩
  go_enter Try.func20, Try.ntmps20
  go_wp2_with fail
  generalize w.alloc (.cells #[.int .i64 0, .string ⟨#[]⟩] 36) = w0 at *
  refine (l1Open_any a len cap w0 hl h').mono ?_
  rintro e w1 ⟨rfl, hR1, hb1⟩
  have hlt := hR1.lt
  have hg : w.heap.size < w0.heap.size := V.2.2
  replace V := V.below hb1 hg
  have D := Drew.refl hR1
  go_wp2_with fail
  refine (filter_any _ len _ hR1).mono ?_
  rintro e w2 ⟨N, x, hx, rfl, hD⟩
  replace V := V.drew hD (by omega)
  replace D := D.trans hD
  clear hD
  have F := FVar.new w2 N x 36
  have hb2 := bl1 w2 (.cells #[.int .i64 N, .string x] 36)
  have hF0 : w1.heap.size ≤ w2.heap.size := D.size
  replace V := V.below hb2 V.2.2
  replace D := D.and hb2
  clear hb2
  go_wp2_with fail
  generalize w2.alloc (.cells #[.int .i64 N, .string x] 36) = w3 at *
  generalize w2.heap.size = F0 at *
  have ⟨x0, x1⟩ := F.1
  have D3 : Drew w1 w3.drew w0.heap.size len := D.over hlt ((Below.refl w1.heap.size w3).drew)
  have V3 : FVar w3.drew w.heap.size 0 ⟨#[]⟩ := V
  have F3 : FVar w3.drew F0 N x := F
  have HD3 := Lib.hid D3
  have HV3 := Lib.hid V3
  have HF3 := Lib.hid F3
  have hne : F0 ≠ w.heap.size := by omega
  have hne2 : w.heap.size ≠ w0.heap.size := by omega
  have hne3 : F0 ≠ w0.heap.size := by omega
  clear D3 V3 F3 V D F
  go_region_held3 (fun w' => (w'.cell? ⟨F0, 0, none⟩ = some (.int .i64 N) ∧ w'.cell? ⟨F0, 1, none⟩ = some (.string x)) ∧ FVar w' F0 N x) (first | exact ⟨HF3.out.1, HF3.out⟩ | exact ⟨hF'.1, hF'⟩ | exact ⟨(FVar.put (by assumption) hne _ _).1, FVar.put (by assumption) hne _ _⟩ | exact ⟨((And.right (by assumption : _ ∧ FVar _ F0 N x)).put hne _ _).1, (And.right (by assumption : _ ∧ FVar _ F0 N x)).put hne _ _⟩)
    ((go_at_call 83; refine (key_any _ len _ HD3.out.rdr).mono ?_; rintro e w4 ⟨s, hs, rfl, hD⟩; have hV4 := HV3.out.drew hD hne2; have hF' := HF3.out.drew hD hne3; have D4 := Lib.hid (HD3.out.trans hD); have ⟨v0, v1⟩ := hV4.1; have g0 := (hV4.2.1 0 (by omega)).2; have g1 := (hV4.2.1 1 (by omega)).2; rw [Nat.zero_add] at g0 g1))
  have hR : ((w4.setCell ⟨w.heap.size, 0, none⟩ (.int .i64 N)).setCell ⟨w.heap.size, 1, none⟩ (.string x)).rangeAt w.heap.size 0 [.int .i64 N, .string x] := World.rangeAt_setCells_same w4 w.heap.size 0 [.int .i64 N, .string x] hV4.2.1
  have hb4 := hb0.trans ((below_drew hb1 D4.out).mono (Nat.le_of_lt hg))
  have hb5 := (hb4.setCell (p := ⟨w.heap.size, 0, none⟩) (Nat.le_refl _) (.int .i64 N)).setCell (p := ⟨w.heap.size, 1, none⟩) (Nat.le_refl _) (.string x)
  have hld := load_fil hR
  clear v0 v1 g0 g1 hV4 hF' hD x0 x1 hb4 hR
  generalize (w4.setCell ⟨w.heap.size, 0, none⟩ (.int .i64 N)).setCell ⟨w.heap.size, 1, none⟩ (.string x) = w5 at *
  go_wp2_with fail
  refine bodyPost_ret (v := .tuple #[.agg #[.int .i64 N, .string x], .string s]) ?_ rfl ⟨N, x, s, hx, hs, rfl, hb5⟩
  first
    | (rw [results_cell_tmp rfl]; simp [asAddr, Result.andThen, hld])
    | simp [results, Try.results20, asAddr, hld]
end Go.Proofs.Ytfndodaknejhfaa
