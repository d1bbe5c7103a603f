/-
  impl.reader.row by its contract: it returns the row that is read, or it panics where there is none. Conditions: those of each statement.
-/
import Derived.Test.YtgeepfoknhhcjaaDoorReadStr
namespace Go.Proofs.YtgeepfoknhhcjaaDoor
open Go.RowKit

/-- A block known whole, none of its cells frozen. -/
def Bk (w : World) (g : Nat) (cs : Array Value) (t : TypeId) : Prop := w.heap[g]? = some (.cells cs t (0, 0))
theorem Bk.new (w : World) (cs : Array Value) (t : TypeId) : Bk (w.alloc (.cells cs t)) w.heap.size cs t := heap_alloc_new w _
theorem Bk.lt {w : World} {g : Nat} {cs : Array Value} {t : TypeId} (h : Bk w g cs t) : g < w.heap.size := by
  rcases Nat.lt_or_ge g w.heap.size with hlt | hge
  · exact hlt
  · unfold Bk at h; rw [Array.getElem?_eq_none hge] at h; cases h
theorem Bk.cell {w : World} {g : Nat} {cs : Array Value} {t : TypeId} (h : Bk w g cs t) (i : Nat) : w.cell? ⟨g, i, none⟩ = cs[i]? := by
  unfold Bk at h; simp [World.cell?, h]
theorem Bk.frozen {w : World} {g : Nat} {cs : Array Value} {t : TypeId} (h : Bk w g cs t) (i : Nat) : w.frozen? ⟨g, i, none⟩ = false := by
  unfold Bk at h; simp [World.frozen?, h]
theorem Bk.gb {w w' : World} {g : Nat} {cs : Array Value} {t : TypeId} {row : Option Nat} (h : Bk w g cs t) (hg : w.grownBy w' row) (hne : some g ≠ row) : Bk w' g cs t := (hg.block g h.lt hne).trans h
theorem Bk.below {w w' : World} {g : Nat} {cs : Array Value} {t : TypeId} (h : Bk w g cs t) (hb : Below w.heap.size w w') : Bk w' g cs t := (hb.block g h.lt).trans h
theorem Bk.set_ {w : World} {g : Nat} {cs : Array Value} {t : TypeId} (h : Bk w g cs t) (j : Nat) (v : Value) : Bk (w.setCell ⟨g, j, none⟩ v) g (cs.setIfInBounds j v) t := heap_setCell_same w g j cs t v h
theorem Bk.far {w : World} {g g' : Nat} {cs : Array Value} {t : TypeId} (h : Bk w g cs t) (hne : g ≠ g') (j : Nat) (v : Value) : Bk (w.setCell ⟨g', j, none⟩ v) g cs t := (heap_setCell_other w ⟨g', j, none⟩ g v hne).trans h
theorem Bk.drew {w : World} {g : Nat} {cs : Array Value} {t : TypeId} (h : Bk w g cs t) : Bk w.drew g cs t := h
theorem Bk.alloc {w : World} {g : Nat} {cs : Array Value} {t : TypeId} (h : Bk w g cs t) (o : Obj) : Bk (w.alloc o) g cs t := h.below ((Below.refl _ _).alloc (Nat.le_refl _) o)

/-- Reading a row of s from place p on. -/
def rrAt (s : ByteArray) (p : Nat) : Option (RowV × Nat) := match rkAt s p [] with
  | none => none
  | some (k, j) => if h : j < s.size then (if s[j].toNat ≤ 3 then (match rkAt s (j + 1) [] with
      | none => none
      | some (v, q) => some (⟨⟨k.toArray⟩, (s[j].toNat : Int), ⟨v.toArray⟩⟩, q)) else none) else none
theorem rrAt_a {s : ByteArray} {p : Nat} (h : rkAt s p [] = none) : rrAt s p = none := by simp only [rrAt, h]
theorem rrAt_b {s : ByteArray} {p j : Nat} {k : List UInt8} (h : rkAt s p [] = some (k, j)) (hj : ¬ j < s.size) : rrAt s p = none := by simp only [rrAt, h, dif_neg hj]
theorem rrAt_c {s : ByteArray} {p j : Nat} {k : List UInt8} (h : rkAt s p [] = some (k, j)) (hj : j < s.size) (ht : ¬ s[j].toNat ≤ 3) : rrAt s p = none := by simp only [rrAt, h, dif_pos hj, if_neg ht]
theorem rrAt_d {s : ByteArray} {p j : Nat} {k : List UInt8} (h : rkAt s p [] = some (k, j)) (hj : j < s.size) (ht : s[j].toNat ≤ 3) (hv : rkAt s (j + 1) [] = none) : rrAt s p = none := by simp only [rrAt, h, dif_pos hj, if_pos ht, hv]
theorem rrAt_e {s : ByteArray} {p j q : Nat} {k v : List UInt8} (h : rkAt s p [] = some (k, j)) (hj : j < s.size) (ht : s[j].toNat ≤ 3) (hv : rkAt s (j + 1) [] = some (v, q)) : rrAt s p = some (⟨⟨k.toArray⟩, (s[j].toNat : Int), ⟨v.toArray⟩⟩, q) := by
  simp only [rrAt, h, dif_pos hj, if_pos ht, hv]
/-- How row ends. -/
def RowOut (s : ByteArray) (p R : Nat) (w : World) (e : Ending) (w' : World) : Prop :=
  (∃ r q, rrAt s p = some (r, q) ∧ e = .returned (.agg #[.string r.key, .int .i64 r.tag, .string r.val]) ∧ RdrAt w' R s q ∧ w.grownBy w' (some R)) ∨ (rrAt s p = none ∧ e = .panicked [msgE] ∧ w.grownBy w' (some R))
set_option maxRecDepth 100000 in
set_option maxHeartbeats 2000000 in
theorem readRow_any (R : Nat) (s : ByteArray) (p : Nat) (w : World) (hs : s.size ≤ 1099511627776) (hp : p ≤ s.size) (hR : R < w.heap.size) (h : RdrAt w R s p) :
    Calls Tryd.prog 54 #[.pointer (some ⟨R, 0, none⟩)] w (RowOut s p R w) := by
  have hsm : s.size ≤ maxLen := by unfold maxLen; omega
  have hne : some w.heap.size ≠ some R := by simp; omega
  have gA : w.grownBy (w.alloc (.cells #[.string ⟨#[]⟩, .int .i64 0, .string ⟨#[]⟩] 29)) (some R) := gb_of_below ((Below.refl _ _).alloc (Nat.le_refl _) _) _
  have bA := Bk.new w #[.string ⟨#[]⟩, .int .i64 0, .string ⟨#[]⟩] 29
  have rA : RdrAt (w.alloc (.cells #[.string ⟨#[]⟩, .int .i64 0, .string ⟨#[]⟩] 29)) R s p := h.below ((Below.refl _ _).alloc (Nat.le_refl _) _) hR
  go_enter Tryd.func54, Tryd.ntmps54
  go_wp2_with fail
  refine (keyCode_any R s p _ hs hp (by simp; omega) rA).mono ?_
  rintro e w1 hout
  rcases hout with ⟨key, j, hk, rfl, hr1, hg1⟩ | ⟨hk, rfl, hg1⟩
  case inr =>
    have E := Lib.hid (rrAt_a hk)
    clear hk
    go_wp2_with fail
    exact ⟨rfl, .inr ⟨E.out, rfl, gb_trans gA hg1⟩⟩
  have hjb := (rkAt_bd hp hk).2.2
  have Hk := Lib.hid hk
  have b1 := bA.gb hg1 hne
  have g1 := gb_trans gA hg1
  clear hk hg1 gA bA rA h
  by_cases hlt : j < s.size
  case neg =>
    have E := Lib.hid (rrAt_b Hk.out hlt)
    obtain rfl : j = s.size := by omega
    go_wp2_with fail
    refine (next_no R s _ hr1).mono ?_
    rintro e w2 ⟨rfl, hg2⟩
    go_wp2_with fail
    exact ⟨rfl, .inr ⟨E.out, rfl, gb_trans g1 hg2⟩⟩
  go_wp2_with fail
  refine (next_yes R s j _ hsm hlt hr1).mono ?_
  rintro e w2 ⟨rfl, hr2, hg2⟩
  have b2 := b1.gb hg2 hne
  have g2 := gb_trans g1 hg2
  clear b1 g1 hg2 hr1
  have hc256 : (s[j].toNat : Int) < 256 := by have := s[j].toNat_lt; omega
  by_cases ht : s[j].toNat ≤ 3
  case neg =>
    have E := Lib.hid (rrAt_c Hk.out hlt ht)
    have hd : decide ((s[j].toNat : Int) ≤ 3) = false := by simp; omega
    go_wp2_with fail
    refine (require_no R _).mono ?_
    rintro e w3 ⟨rfl, rfl⟩
    go_wp2_with fail
    exact ⟨rfl, .inr ⟨E.out, rfl, g2⟩⟩
  have hd : decide ((s[j].toNat : Int) ≤ 3) = true := by simp; omega
  go_wp2_with fail
  refine (require_yes R _).mono ?_
  rintro e w3 ⟨rfl, rfl⟩
  go_wp2_with fail
  refine (keyCode_any R s (j + 1) _ hs (by omega) (Nat.lt_of_lt_of_le hR g2.size) hr2).mono ?_
  rintro e w3 hout
  rcases hout with ⟨val, q, hv, rfl, hr3, hg3⟩ | ⟨hv, rfl, hg3⟩
  case inr =>
    have E := Lib.hid (rrAt_d Hk.out hlt ht hv)
    clear hv
    go_wp2_with fail
    exact ⟨rfl, .inr ⟨E.out, rfl, gb_trans g2 hg3⟩⟩
  have E := Lib.hid (rrAt_e Hk.out hlt ht hv)
  have b3 := b2.gb hg3 hne
  have g3 := gb_trans g2 hg3
  have e0 := b3.cell 0
  have e1 := b3.cell 1
  have e2 := b3.cell 2
  have f0 := b3.frozen 0
  have f1 := b3.frozen 1
  have f2 := b3.frozen 2
  simp at e0 e1 e2
  clear hv b2 g2 hg3 hr2
  go_wp2_with fail
  have bS := ((b3.set_ 0 (.string ⟨key.toArray⟩)).set_ 1 (.int .i64 (s[j].toNat : Int))).set_ 2 (.string ⟨val.toArray⟩)
  have gS := gb_store (gb_store (gb_store (World.grownBy.refl w3 (some w.heap.size)) 0 (.string ⟨key.toArray⟩)) 1 (.int .i64 (s[j].toNat : Int))) 2 (.string ⟨val.toArray⟩)
  have rS := hr3.gb gS (Nat.lt_of_lt_of_le hR g3.size) (Ne.symm hne)
  have gF := gb_then g3 gS (fun g e => by injection e with e; omega)
  clear e0 e1 e2 f0 f1 f2 b3 g3 gS hr3
  generalize ((w3.setCell ⟨w.heap.size, 0, none⟩ (.string ⟨key.toArray⟩)).setCell ⟨w.heap.size, 1, none⟩ (.int .i64 (s[j].toNat : Int))).setCell ⟨w.heap.size, 2, none⟩ (.string ⟨val.toArray⟩) = W at *
  have e0 := bS.cell 0
  have e1 := bS.cell 1
  have e2 := bS.cell 2
  simp at e0 e1 e2
  exact bodyPost_ret (v := .agg #[.string ⟨key.toArray⟩, .int .i64 (s[j].toNat : Int), .string ⟨val.toArray⟩]) (by simp [results, Tryd.results54, go_sem, e0, e1, e2]) rfl (.inl ⟨_, q, E.out, rfl, rS, gF⟩)

/-- What ReadRow returns. -/
def rowRes (s : ByteArray) : Value := match rrAt s 0 with
  | some (r, j) => .tuple #[.agg #[.string r.key, .int .i64 r.tag, .string r.val], .int .i64 (j : Int), .bool true]
  | none => .tuple #[.agg #[.string ⟨#[]⟩, .int .i64 0, .string ⟨#[]⟩], .int .i64 0, .bool false]
theorem rowRes_none {s : ByteArray} (h : rrAt s 0 = none) : rowRes s = .tuple #[.agg #[.string ⟨#[]⟩, .int .i64 0, .string ⟨#[]⟩], .int .i64 0, .bool false] := by simp only [rowRes, h]
theorem rowRes_some {s : ByteArray} {r : RowV} {j : Nat} (h : rrAt s 0 = some (r, j)) : rowRes s = .tuple #[.agg #[.string r.key, .int .i64 r.tag, .string r.val], .int .i64 (j : Int), .bool true] := by simp only [rowRes, h]

theorem catchR_panicking (V N O : Nat) (u : TypeId) (pv : Value) (older : List PanicEntry) (w : World) (a b c n o : Value) (h0 : w.cell? ⟨V, 0, none⟩ = some a) (h0' : w.cell? ⟨V, 1, none⟩ = some b) (h0'' : w.cell? ⟨V, 2, none⟩ = some c) (h1 : w.cell? ⟨N, 0, none⟩ = some n) (h2 : w.cell? ⟨O, 0, none⟩ = some o)
    (f0 : w.frozen? ⟨V, 0, none⟩ = false) (f0' : w.frozen? ⟨V, 1, none⟩ = false) (f0'' : w.frozen? ⟨V, 2, none⟩ = false) (f1 : w.frozen? ⟨N, 0, none⟩ = false) (f2 : w.frozen? ⟨O, 0, none⟩ = false) (hV : V < w.heap.size) (hN : N < w.heap.size) (hO : O < w.heap.size) (d1 : V ≠ N) (d2 : V ≠ O) (d3 : N ≠ O) :
    CallsD Tryd.prog 75 #[.pointer (some ⟨V, 0, none⟩), .pointer (some ⟨N, 0, none⟩), .pointer (some ⟨O, 0, none⟩)] (.panicking ({ v := .iface u pv, recovered := false } :: older)) w fun e u' w' =>
      e = .returned (.tuple #[]) ∧ u' = .panicking ({ v := .iface u pv, recovered := true } :: older) ∧ w' = (((((w.setCell ⟨V, 0, none⟩ (.string ⟨#[]⟩)).setCell ⟨V, 1, none⟩ (.int .i64 0)).setCell ⟨V, 2, none⟩ (.string ⟨#[]⟩)).setCell ⟨N, 0, none⟩ (.int .i64 0)).setCell ⟨O, 0, none⟩ (.bool false)).alloc (.cells #[.string ⟨#[]⟩, .int .i64 0, .string ⟨#[]⟩] 29) := by
  refine callsD_of_wpS Tryd.func75 rfl fun c₀ cs hu => ?_
  have k1 : ∀ x : Value, (w.setCell ⟨V, 0, none⟩ x).cell? ⟨N, 0, none⟩ = some n := fun x => (World.cell?_setCell_other _ _ _ _ (fun e => d1 (by injection e))).trans h1
  apply wpS_seq
  apply wpS_region
  simp [wpOpsS, go_sem, recoverD, hu, Tryd.ntmps75, Exit.thenS]
  refine wpS_cond (t := true) (by simp [Act.eval, Array.replicate]) ?_
  simp only [if_true]
  apply wpS_seq
  apply wpS_region
  simp [wpOpsS, go_sem, Exit.thenS]
  apply wpS_region
  simp [wpOpsS, go_sem, h0, h0', h0'', h2, f0, f0', f0'', f1, f2, hV, hN, hO, k1, bodyPostS, results, Tryd.results75]
theorem catchR_idle (V N O : Nat) (w : World) :
    CallsD Tryd.prog 75 #[.pointer (some ⟨V, 0, none⟩), .pointer (some ⟨N, 0, none⟩), .pointer (some ⟨O, 0, none⟩)] .returning w fun e u' w' => e = .returned (.tuple #[]) ∧ u' = .returning ∧ w' = w := by
  refine callsD_of_wpS Tryd.func75 rfl fun c₀ cs hu => ?_
  apply wpS_seq
  apply wpS_region
  simp [wpOpsS, go_sem, recoverD, hu, Tryd.ntmps75, Exit.thenS]
  refine wpS_cond (t := false) (by simp [Act.eval, Array.replicate]) ?_
  simp only [Bool.false_eq_true, if_false]
  refine wpS_of_wp (wp_skip ?_)
  cases c₀
  simp_all [bodyPostS, results, Tryd.results75]
/-- Five stores: a row into a block of three cells, and two others. -/
theorem five_set {W : World} {V N O : Nat} {a b c n o : Value} {tv tn to : TypeId} (x y z n' o' : Value) (bV : Bk W V #[a, b, c] tv) (bN : Bk W N #[n] tn) (bO : Bk W O #[o] to) (d1 : V ≠ N) (d2 : V ≠ O) (d3 : N ≠ O) :
    Bk (((((W.setCell ⟨V, 0, none⟩ x).setCell ⟨V, 1, none⟩ y).setCell ⟨V, 2, none⟩ z).setCell ⟨N, 0, none⟩ n').setCell ⟨O, 0, none⟩ o') V #[x, y, z] tv ∧
    Bk (((((W.setCell ⟨V, 0, none⟩ x).setCell ⟨V, 1, none⟩ y).setCell ⟨V, 2, none⟩ z).setCell ⟨N, 0, none⟩ n').setCell ⟨O, 0, none⟩ o') N #[n'] tn ∧
    Bk (((((W.setCell ⟨V, 0, none⟩ x).setCell ⟨V, 1, none⟩ y).setCell ⟨V, 2, none⟩ z).setCell ⟨N, 0, none⟩ n').setCell ⟨O, 0, none⟩ o') O #[o'] to :=
  ⟨((((bV.set_ 0 x).set_ 1 y).set_ 2 z).far (g' := N) d1 0 n').far (g' := O) d2 0 o',
   ((((bN.far (g' := V) (Ne.symm d1) 0 x).far (g' := V) (Ne.symm d1) 1 y).far (g' := V) (Ne.symm d1) 2 z).set_ 0 n').far (g' := O) d3 0 o',
   ((((bO.far (g' := V) (Ne.symm d2) 0 x).far (g' := V) (Ne.symm d2) 1 y).far (g' := V) (Ne.symm d2) 2 z).far (g' := N) (Ne.symm d3) 0 n').set_ 0 o'⟩
theorem five_below {w W : World} (h : Below w.heap.size w W) (x y z n' o' : Value) : Below w.heap.size w (((((W.setCell ⟨w.heap.size, 0, none⟩ x).setCell ⟨w.heap.size, 1, none⟩ y).setCell ⟨w.heap.size, 2, none⟩ z).setCell ⟨w.heap.size + 1, 0, none⟩ n').setCell ⟨w.heap.size + 1 + 1, 0, none⟩ o') :=
  ((((h.setCell (p := ⟨w.heap.size, 0, none⟩) (Nat.le_refl _) x).setCell (p := ⟨w.heap.size, 1, none⟩) (Nat.le_refl _) y).setCell (p := ⟨w.heap.size, 2, none⟩) (Nat.le_refl _) z).setCell (p := ⟨w.heap.size + 1, 0, none⟩) (by simp) n').setCell (p := ⟨w.heap.size + 1 + 1, 0, none⟩) (by simp; omega) o'
set_option maxRecDepth 100000 in
set_option maxHeartbeats 2000000 in
theorem readingR_any (s : ByteArray) (w : World) (hs : s.size ≤ 1099511627776) :
    Calls Tryd.prog 53 #[.string s, .func (Fn.func 54) #[] #[]] w fun e w' => e = .returned (rowRes s) ∧ Below w.heap.size w w' := by
  have hmf : ∀ (fn : Fn) (first cap : Array Value) (w : World), (Instr.makeFunc fn first cap).run Tryd.prog w = .ok (.func fn first cap) w := fun _ _ _ _ => rfl
  have wB : Below w.heap.size w ((((w.alloc (.cells #[.string ⟨#[]⟩, .int .i64 0, .string ⟨#[]⟩] 29)).alloc (.cells #[.int .i64 0] 2)).alloc (.cells #[.bool false] 4)).alloc (.cells #[.string s, .int .i64 0] 85)) :=
    ((((Below.refl _ _).alloc (Nat.le_refl _) _).alloc (by simp) _).alloc (by simp; omega) _).alloc (by simp; omega) _
  have bV := (((Bk.new w #[.string ⟨#[]⟩, .int .i64 0, .string ⟨#[]⟩] 29).alloc (.cells #[.int .i64 0] 2)).alloc (.cells #[.bool false] 4)).alloc (.cells #[.string s, .int .i64 0] 85)
  have bN := ((Bk.new (w.alloc (.cells #[.string ⟨#[]⟩, .int .i64 0, .string ⟨#[]⟩] 29)) #[.int .i64 0] 2).alloc (.cells #[.bool false] 4)).alloc (.cells #[.string s, .int .i64 0] 85)
  have bO := (Bk.new ((w.alloc (.cells #[.string ⟨#[]⟩, .int .i64 0, .string ⟨#[]⟩] 29)).alloc (.cells #[.int .i64 0] 2)) #[.bool false] 4).alloc (.cells #[.string s, .int .i64 0] 85)
  simp only [World.size_alloc] at bN bO
  go_enter_defers Tryd.func53, Tryd.ntmps53
  go_wp2_with fail
  refine (readRow_any (w.heap.size + 3) s 0 _ hs (Nat.zero_le _) (by simp) ⟨by simp [go_sem], by simp [go_sem], by simp [go_sem]⟩).mono ?_
  rintro e w1 hout
  rcases hout with ⟨r, j, hk, rfl, hr, hg⟩ | ⟨hk, rfl, hg⟩
  · have E := Lib.hid (rowRes_some hk)
    obtain ⟨rk, rt, rv⟩ := r
    replace bV := bV.gb hg (by simp)
    replace bN := bN.gb hg (by simp)
    replace bO := bO.gb hg (by simp)
    replace wB := wB.trans (gb_below hg (by simp; omega) (fun g e => by injection e with e; omega))
    obtain ⟨_, r1, _⟩ := hr
    have e0 := bV.cell 0
    have e1 := bV.cell 1
    have e2 := bV.cell 2
    have f0 := bV.frozen 0
    have f1 := bV.frozen 1
    have f2 := bV.frozen 2
    simp at e0 e1 e2
    clear hg hk
    go_wp2_with fail
    have BV := ((bV.set_ 0 (.string rk)).set_ 1 (.int .i64 rt)).set_ 2 (.string rv)
    have BN := ((bN.far (g' := w.heap.size) (by omega) 0 (.string rk)).far (g' := w.heap.size) (by omega) 1 (.int .i64 rt)).far (g' := w.heap.size) (by omega) 2 (.string rv)
    have BO := ((bO.far (g' := w.heap.size) (by omega) 0 (.string rk)).far (g' := w.heap.size) (by omega) 1 (.int .i64 rt)).far (g' := w.heap.size) (by omega) 2 (.string rv)
    have C3 : (((w1.setCell ⟨w.heap.size, 0, none⟩ (.string rk)).setCell ⟨w.heap.size, 1, none⟩ (.int .i64 rt)).setCell ⟨w.heap.size, 2, none⟩ (.string rv)).cell? ⟨w.heap.size + 1 + 1 + 1, 1, none⟩ = some (.int .i64 j) :=
      (World.cell?_setCell_other _ _ _ _ (by simp)).trans ((World.cell?_setCell_other _ _ _ _ (by simp)).trans ((World.cell?_setCell_other _ _ _ _ (by simp)).trans r1))
    have HB := ((wB.setCell (p := ⟨w.heap.size, 0, none⟩) (Nat.le_refl _) (.string rk)).setCell (p := ⟨w.heap.size, 1, none⟩) (Nat.le_refl _) (.int .i64 rt)).setCell (p := ⟨w.heap.size, 2, none⟩) (Nat.le_refl _) (.string rv)
    clear e0 e1 e2 f0 f1 f2 bV bN bO r1 wB
    generalize ((w1.setCell ⟨w.heap.size, 0, none⟩ (.string rk)).setCell ⟨w.heap.size, 1, none⟩ (.int .i64 rt)).setCell ⟨w.heap.size, 2, none⟩ (.string rv) = W2 at *
    have e0 := BV.cell 0
    have e1 := BV.cell 1
    have e2 := BV.cell 2
    have e3 := BN.cell 0
    have e4 := BO.cell 0
    have f0 := BV.frozen 0
    have f1 := BV.frozen 1
    have f2 := BV.frozen 2
    have f3 := BN.frozen 0
    have f4 := BO.frozen 0
    simp at e0 e1 e2 e3 e4
    go_region
    go_wp2
    refine leaves_cons (f := 75) (args := #[.pointer (some ⟨w.heap.size, 0, none⟩), .pointer (some ⟨w.heap.size + 1, 0, none⟩), .pointer (some ⟨w.heap.size + 1 + 1, 0, none⟩)]) (by simp) (by simp [go_sem]) ?_
    refine (catchR_idle w.heap.size (w.heap.size + 1) (w.heap.size + 1 + 1) _).mono ?_
    rintro e u' w'' ⟨rfl, rfl, hw⟩
    have q : Bk w'' w.heap.size #[.string rk, .int .i64 rt, .string rv] 29 ∧ Bk w'' (w.heap.size + 1) #[.int .i64 j] 2 ∧ Bk w'' (w.heap.size + 1 + 1) #[.bool true] 4 := by
      rw [hw]; exact five_set (.string rk) (.int .i64 rt) (.string rv) (.int .i64 j) (.bool true) BV BN BO (by omega) (by omega) (by omega)
    have hb : Below w.heap.size w w'' := by rw [hw]; exact (five_below HB (.string rk) (.int .i64 rt) (.string rv) (.int .i64 j) (.bool true)).drew
    clear hw e0 e1 e2 e3 e4 f0 f1 f2 f3 f4 BV BN BO HB C3
    obtain ⟨qV, qN, qO⟩ := q
    have p0 := qV.cell 0
    have p1 := qV.cell 1
    have p2 := qV.cell 2
    have p3 := qN.cell 0
    have p4 := qO.cell 0
    simp at p0 p1 p2 p3 p4
    simp [Leaves, settle, results, Tryd.results53, go_sem, p0, p1, p2, p3, p4]
    exact ⟨E.out.symm, hb⟩
  · have E := Lib.hid (rowRes_none hk)
    replace bV := bV.gb hg (by simp)
    replace bN := bN.gb hg (by simp)
    replace bO := bO.gb hg (by simp)
    replace wB := wB.trans (gb_below hg (by simp; omega) (fun g e => by injection e with e; omega))
    have e0 := bV.cell 0
    have e1 := bV.cell 1
    have e2 := bV.cell 2
    have e3 := bN.cell 0
    have e4 := bO.cell 0
    simp at e0 e1 e2 e3 e4
    clear hg hk
    go_wp2_with fail
    refine leaves_cons (f := 75) (args := #[.pointer (some ⟨w.heap.size, 0, none⟩), .pointer (some ⟨w.heap.size + 1, 0, none⟩), .pointer (some ⟨w.heap.size + 1 + 1, 0, none⟩)]) (by simp) (by simp [go_sem]) ?_
    refine (catchR_panicking w.heap.size (w.heap.size + 1) (w.heap.size + 1 + 1) _ _ [] _ _ _ _ _ _ e0 e1 e2 e3 e4 (bV.frozen 0) (bV.frozen 1) (bV.frozen 2) (bN.frozen 0) (bO.frozen 0) bV.lt bN.lt bO.lt (by omega) (by omega) (by omega)).mono ?_
    rintro e u' w'' ⟨rfl, rfl, hw⟩
    have q : Bk w'' w.heap.size #[.string ⟨#[]⟩, .int .i64 0, .string ⟨#[]⟩] 29 ∧ Bk w'' (w.heap.size + 1) #[.int .i64 0] 2 ∧ Bk w'' (w.heap.size + 1 + 1) #[.bool false] 4 := by
      rw [hw]
      have g := five_set (.string ⟨#[]⟩) (.int .i64 0) (.string ⟨#[]⟩) (.int .i64 0) (.bool false) bV bN bO (by omega) (by omega) (by omega)
      exact ⟨g.1.alloc _, g.2.1.alloc _, g.2.2.alloc _⟩
    have hb : Below w.heap.size w w'' := by
      rw [hw]
      have g := five_below wB (.string ⟨#[]⟩) (.int .i64 0) (.string ⟨#[]⟩) (.int .i64 0) (.bool false)
      exact g.alloc g.size _
    clear hw e0 e1 e2 e3 e4 bV bN bO wB
    obtain ⟨qV, qN, qO⟩ := q
    have p0 := qV.cell 0
    have p1 := qV.cell 1
    have p2 := qV.cell 2
    have p3 := qN.cell 0
    have p4 := qO.cell 0
    simp at p0 p1 p2 p3 p4
    simp [Leaves, settle, results, Tryd.results53, go_sem, p0, p1, p2, p3, p4]
    exact ⟨E.out.symm, hb⟩
end Go.Proofs.YtgeepfoknhhcjaaDoor
