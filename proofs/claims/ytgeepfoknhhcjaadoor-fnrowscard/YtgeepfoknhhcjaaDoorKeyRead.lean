/-
  impl.reader.keyCode by its contract: it returns what is read, or it panics where there is none. Conditions: those of each statement.
-/
import Derived.Test.YtgeepfoknhhcjaaDoorReader
import Derived.Test.YtgeepfoknhhcjaaDoorReadMath
namespace Go.Proofs.YtgeepfoknhhcjaaDoor
open Go.RowKit

def byteC (l : List UInt8) : List Value := l.map fun c => .int .u8 (c.toNat : Int)
theorem byteC_snoc (l : List UInt8) (c : UInt8) : byteC (l ++ [c]) = byteC l ++ [.int .u8 (c.toNat : Int)] := by simp [byteC]
theorem byteC_length (l : List UInt8) : (byteC l).length = l.length := by simp [byteC]
/-- How keyCode ends. -/
def KeyOut (s : ByteArray) (p R : Nat) (w : World) (e : Ending) (w' : World) : Prop :=
  (∃ key j, rkAt s p [] = some (key, j) ∧ e = .returned (.string ⟨key.toArray⟩) ∧ RdrAt w' R s j ∧ w.grownBy w' (some R)) ∨ (rkAt s p [] = none ∧ e = .panicked [msgE] ∧ w.grownBy w' (some R))
theorem infoByteK : (Tryd.prog.info? 5).map (fun i => (i.zero, i.size, i.bytes)) = some (some (.int .u8 0), 1, 1) := by kernel_rfl
set_option maxRecDepth 100000 in
/-- An owned slice of bytes, turned into a string. -/
theorem conv_own {w : World} {base n cap : Nat} {a : Option Addr} (l : List UInt8) (hn : n = l.length) (h : w.ownsRow base 5 1 (.slice a n cap) n (byteC l)) :
    (convert 22 9 (.slice a n cap)).run Tryd.prog w = .ok (.string ⟨l.toArray⟩) w := by
  subst hn
  rcases h.2 with ⟨hv, h0⟩ | ⟨g, c, cur, hv, _, _, _⟩
  · injection hv with ha
    subst ha
    have : l = [] := List.eq_nil_of_length_eq_zero h0
    subst this
    exact Lib.run_convert_nil_bytes w 22 9 5 cap Tryd.underlying22 Tryd.underlying5 Tryd.underlying9
  · have ha : a = some ⟨g, 0, none⟩ := by injection hv
    subst ha
    refine run_convert_bytes_back (P := Tryd.prog) w 22 9 5 ⟨g, 0, none⟩ cap l Tryd.underlying22 Tryd.underlying5 Tryd.underlying9 (fun j hj => ?_)
    have e : (⟨g, 0, none⟩ : Addr).add j = ⟨g, j, none⟩ := by
      unfold Addr.add
      split
      · rename_i h0; subst h0; rfl
      · simp
    rw [e, h.cellAt j (by omega)]
    simp [byteC, hj]
theorem own_gb {w w' : World} {base e s n R : Nat} {v : Value} {xs : List Value} (h : w.ownsRow base e s v n xs) (hg : w.grownBy w' (some R)) (hR : R < base) : w'.ownsRow base e s v n xs := by
  refine h.kept hg ?_
  rcases h.2 with ⟨rfl, _⟩ | ⟨g, c, cur, rfl, hb, _⟩
  · exact .inl rfl
  · right
    intro he
    have : g = R := by simpa [Value.ownBlock] using he
    omega
theorem gb_then {a b c : World} {R : Nat} {row : Option Nat} (h : a.grownBy b (some R)) (k : b.grownBy c row) (hr : ∀ g, row = some g → a.heap.size ≤ g) : a.grownBy c (some R) :=
  ⟨k.os.trans h.os, k.tape.trans h.tape, k.output.trans h.output, Nat.le_trans h.size k.size, fun i hi hne => (k.block i (Nat.lt_of_lt_of_le hi h.size) (fun e => by have := hr i e.symm; omega)).trans (h.block i hi hne)⟩
theorem RdrAt.gb {w w' : World} {R : Nat} {s : ByteArray} {p : Nat} {row : Option Nat} (h : RdrAt w R s p) (hg : w.grownBy w' row) (hR : R < w.heap.size) (hne : some R ≠ row) : RdrAt w' R s p := by
  have hb := hg.block R hR hne
  exact ⟨(World.cell?_of_block (a := ⟨R, 0, none⟩) hb).trans h.1, (World.cell?_of_block (a := ⟨R, 1, none⟩) hb).trans h.2.1, (World.frozen?_of_block (a := ⟨R, 1, none⟩) hb).trans h.2.2⟩
theorem own_block_ge {w : World} {base e s n : Nat} {v : Value} {xs : List Value} (h : w.ownsRow base e s v n xs) (g : Nat) (hg : v.ownBlock = some g) : base ≤ g := by
  rcases h.2 with ⟨rfl, _⟩ | ⟨g', c, cur, rfl, hb, _⟩
  · cases hg
  · have : g' = g := by simpa [Value.ownBlock] using hg
    omega
theorem own_slice {w : World} {base e s n : Nat} {v : Value} {xs : List Value} (h : w.ownsRow base e s v n xs) : ∃ a cap, v = .slice a n cap := by
  rcases h.2 with ⟨rfl, rfl⟩ | ⟨g', c, cur, rfl, _⟩
  · exact ⟨_, _, rfl⟩
  · exact ⟨_, _, rfl⟩
/-- What a round has gathered: the relation of the loop. -/
def KeyRel (s : ByteArray) (p R : Nat) (w : World) (q : Nat) (acc : List UInt8) (a : Option Addr) (cap : Nat) (wr : World) : Prop :=
  acc.length ≤ 12 ∧ wr.ownsRow w.heap.size 5 1 (.slice a acc.length cap) acc.length (byteC acc) ∧ RdrAt wr R s q ∧ w.grownBy wr (some R) ∧ rkAt s q acc = rkAt s p []
/-- A byte is appended. -/
theorem KeyRel.push {s : ByteArray} {p R : Nat} {w wr w1 : World} {q : Nat} {acc : List UInt8} {a : Option Addr} {cap : Nat} {v : Value} {o : Obj} (c : UInt8) (hR : R < w.heap.size) (hl : acc.length < 12)
    (hO : wr.ownsRow w.heap.size 5 1 (.slice a acc.length cap) acc.length (byteC acc)) (hr : RdrAt wr R s q) (hg : w.grownBy wr (some R)) (hk : rkAt s q (acc ++ [c]) = rkAt s p [])
    (hO1 : w1.ownsRow w.heap.size 5 1 v (acc.length + 1) (byteC acc ++ [.int .u8 (c.toNat : Int)])) (hg1 : (wr.alloc o).grownBy w1 (Value.slice a acc.length cap).ownBlock) :
    ∃ a' cap', v = .slice a' (acc ++ [c]).length cap' ∧ KeyRel s p R w q (acc ++ [c]) a' cap' w1 := by
  have hge := own_block_ge hO
  have hsz := hg.size
  have hne : some R ≠ (Value.slice a acc.length cap).ownBlock := fun e => by have := hge R e.symm; omega
  obtain ⟨a', cap', rfl⟩ := own_slice hO1
  refine ⟨a', cap', by simp, by simp; omega, by rw [byteC_snoc]; simpa using hO1, ?_, ?_, hk⟩
  · exact (hr.gb (gb_of_below ((Below.refl _ _).alloc (Nat.le_refl _) o) none) (by omega) (by simp)).gb hg1 (by simp; omega) hne
  · exact gb_then (gb_then hg (gb_of_below ((Below.refl _ _).alloc (Nat.le_refl _) o) none) (by simp)) hg1 hge
set_option maxRecDepth 100000 in
set_option maxHeartbeats 4000000 in
theorem keyCode_any (R : Nat) (s : ByteArray) (p : Nat) (w : World) (hs : s.size ≤ 1099511627776) (hp : p ≤ s.size) (hR : R < w.heap.size) (h : RdrAt w R s p) :
    Calls Tryd.prog 50 #[.pointer (some ⟨R, 0, none⟩)] w (KeyOut s p R w) := by
  obtain ⟨i0, hi, hz0, hz1, hz2⟩ := info_parts infoByteK
  have hsm : s.size ≤ maxLen := by unfold maxLen; omega
  go_enter Tryd.func50, Tryd.ntmps50
  go_wp2
  go_loopg [3] (s.size - p) (fun gk v wr => ∃ (q : Nat) (acc : List UInt8) (a : Option Addr) (cap : Nat), q ≤ s.size ∧ gk = s.size - q ∧ v = .slice a acc.length cap ∧ KeyRel s p R w q acc a cap wr)
  case atStart => exact ⟨p, [], none, 0, hp, rfl, rfl, by simp, World.ownsRow_nil _ _ _ _, h, World.grownBy.refl _ _, rfl⟩
  case round =>
    obtain ⟨q, acc, a, cap, hq, hgk, rfl, hacc, hO, hr, hg, hk⟩ := hrel
    have Hgk := Lib.hid hgk
    have Hk := Lib.hid hk
    clear hgk hk h
    have hRr : R < wr.heap.size := Nat.lt_of_lt_of_le hR hg.size
    by_cases hlt : q < s.size
    case neg =>
      obtain rfl : q = s.size := by omega
      go_wp2_with fail
      refine (next_no R s _ hr).mono ?_
      rintro e w1 ⟨rfl, hg1⟩
      go_wp2_with fail
      exact ⟨rfl, .inr ⟨by rw [← Hk.out]; exact rkAt_end _ (Nat.le_refl _), rfl, gb_trans hg hg1⟩⟩
    go_wp2_with fail
    refine (next_yes R s q _ hsm hlt hr).mono ?_
    rintro e w1 ⟨rfl, hr1, hg1⟩
    have hO1 := own_gb hO hg1 hR
    have hG1 := gb_trans hg hg1
    have hRr1 : R < w1.heap.size := Nat.lt_of_lt_of_le hR hG1.size
    clear hg1 hr hO hg
    by_cases h0 : s[q] = 0
    case neg =>
      have hd : ((s[q].toNat : Int) == 0) = false := by
        rw [beq_eq_false_iff_ne]; intro e; apply h0; apply UInt8.toNat_inj.1; simpa using e
      by_cases hl : acc.length < 12
      case neg =>
        have hdl : decide ((acc.length : Int) < 12) = false := by simp; omega
        have E := Lib.hid (show rkAt s p [] = none by rw [← Hk.out]; exact rkAt_full hlt h0 hl)
        clear h0
        go_wp2_with fail
        refine (require_no R _).mono ?_
        rintro e w2 ⟨rfl, rfl⟩
        go_wp2_with fail
        exact ⟨rfl, .inr ⟨E.out, rfl, hG1⟩⟩
      have hdl : decide ((acc.length : Int) < 12) = true := by simp; omega
      have E := Lib.hid (show rkAt s (q + 1) (acc ++ [s[q]]) = rkAt s p [] by rw [← Hk.out]; exact (rkAt_plain hlt h0 hl).symm)
      clear h0
      go_wp2_with fail
      refine (require_yes R _).mono ?_
      rintro e w2 ⟨rfl, rfl⟩
      go_wp2_with (at_builtin; refine wpList_append_own _ rfl _ _ 22 rfl w.heap.size 5 i0 (.int .u8 0) 1 1 Tryd.underlying22 hi hz0 hz1 hz2 rfl (by decide) _ _ _ rfl (hO1.alloc _) ⟨w1.heap.size, 0, none⟩ 1 1 [.int .u8 (s[q].toNat : Int)] rfl rfl ?c1 ?c2 ?c3 ?c4 ?c5 ?_)
      case c1 =>
        intro j u hj
        match j, hj with
        | 0, hj => simp at hj; subst hj; simp [Addr.add]
      case c2 => intro u hu; simp at hu; subst hu; rfl
      case c3 => unfold maxLen; omega
      case c4 => omega
      case c5 => have := hG1.size; simp; omega
      intro v' w2 hO2 hg2 _
      obtain ⟨a', cap', rfl, hrel⟩ := KeyRel.push s[q] hR hl hO1 hr1 hG1 E.out hO2 hg2
      clear hO1 hr1 hG1 hO2 hg2
      go_wp2_with fail
      go_roundg (s.size - (q + 1))
      case measure => have := Hgk.out; omega
      case rel => exact ⟨q + 1, _, a', cap', by omega, rfl, rfl, hrel⟩
    have hd : ((s[q].toNat : Int) == 0) = true := by rw [h0]; rfl
    have H0 := Lib.hid h0
    clear h0
    by_cases hlt1 : q + 1 < s.size
    case neg =>
      have E := Lib.hid (show rkAt s p [] = none by rw [← Hk.out]; exact rkAt_cut hlt H0.out (by omega))
      obtain hqe : q + 1 = s.size := by omega
      rw [hqe] at hr1
      clear hqe
      go_wp2_with fail
      refine (next_no R s _ hr1).mono ?_
      rintro e w2 ⟨rfl, hg2⟩
      go_wp2_with fail
      exact ⟨rfl, .inr ⟨E.out, rfl, gb_trans hG1 hg2⟩⟩
    go_wp2_with fail
    refine (next_yes R s (q + 1) _ hsm hlt1 hr1).mono ?_
    rintro e w2 ⟨rfl, hr2, hg2⟩
    have hO2 := own_gb hO1 hg2 hR
    have hG2 := gb_trans hG1 hg2
    have hRr2 : R < w2.heap.size := Nat.lt_of_lt_of_le hR hG2.size
    clear hg2 hr1 hO1 hG1 hd
    by_cases hm0 : s[q + 1] = 0
    case pos =>
      have hd : ((s[q + 1].toNat : Int) == 0) = true := by rw [hm0]; rfl
      have E := Lib.hid (show rkAt s p [] = some (acc, q + 2) by rw [← Hk.out]; exact rkAt_stop hlt H0.out hlt1 hm0)
      have hcv := conv_own acc rfl hO2
      clear hm0
      go_wp2_with fail
      go_ret
      exact .inl ⟨acc, q + 2, E.out, rfl, hr2, hG2⟩
    have hd : ((s[q + 1].toNat : Int) == 0) = false := by
      rw [beq_eq_false_iff_ne]; intro e; apply hm0; apply UInt8.toNat_inj.1; simpa using e
    by_cases hm : s[q + 1] = 255
    case neg =>
      have hd2 : ((s[q + 1].toNat : Int) == 255) = false := by
        rw [beq_eq_false_iff_ne]; intro e; apply hm; apply UInt8.toNat_inj.1; have e' : s[q + 1].toNat = 255 := by omega
        exact e'
      have E := Lib.hid (show rkAt s p [] = none by rw [← Hk.out]; exact rkAt_bad hlt H0.out hlt1 hm0 hm)
      clear hm hm0
      go_wp2_with fail
      refine (require_no R _).mono ?_
      rintro e w3 ⟨rfl, rfl⟩
      go_wp2_with fail
      exact ⟨rfl, .inr ⟨E.out, rfl, hG2⟩⟩
    have hd2 : ((s[q + 1].toNat : Int) == 255) = true := by rw [hm]; rfl
    have Hm := Lib.hid hm
    clear hm hm0
    by_cases hl : acc.length < 12
    case neg =>
      have hdl : decide ((acc.length : Int) < 12) = false := by simp; omega
      have E := Lib.hid (show rkAt s p [] = none by rw [← Hk.out]; exact rkAt_mark_full hlt H0.out hlt1 Hm.out hl)
      go_wp2_with fail
      refine (require_yes R _).mono ?_
      rintro e w3 ⟨rfl, rfl⟩
      go_wp2_with fail
      refine (require_no R _).mono ?_
      rintro e w3 ⟨rfl, rfl⟩
      go_wp2_with fail
      exact ⟨rfl, .inr ⟨E.out, rfl, hG2⟩⟩
    have hdl : decide ((acc.length : Int) < 12) = true := by simp; omega
    have E := Lib.hid (show rkAt s (q + 2) (acc ++ [s[q]]) = rkAt s p [] by rw [← Hk.out, H0.out]; exact (rkAt_mark hlt H0.out hlt1 Hm.out hl).symm)
    go_wp2_with fail
    refine (require_yes R _).mono ?_
    rintro e w3 ⟨rfl, rfl⟩
    go_wp2_with fail
    refine (require_yes R _).mono ?_
    rintro e w3 ⟨rfl, rfl⟩
    go_wp2_with (at_builtin; refine wpList_append_own _ rfl _ _ 22 rfl w.heap.size 5 i0 (.int .u8 0) 1 1 Tryd.underlying22 hi hz0 hz1 hz2 rfl (by decide) _ _ _ rfl (hO2.alloc _) ⟨w2.heap.size, 0, none⟩ 1 1 [.int .u8 (s[q].toNat : Int)] rfl rfl ?d1 ?d2 ?d3 ?d4 ?d5 ?_)
    case d1 =>
      intro j u hj
      match j, hj with
      | 0, hj => simp at hj; subst hj; simp [Addr.add]
    case d2 => intro u hu; simp at hu; subst hu; rfl
    case d3 => unfold maxLen; omega
    case d4 => omega
    case d5 => have := hG2.size; simp; omega
    intro v' w3 hO3 hg3 _
    obtain ⟨a', cap', rfl, hrel⟩ := KeyRel.push s[q] hR hl hO2 hr2 hG2 E.out hO3 hg3
    clear hO2 hr2 hG2 hO3 hg3
    go_wp2_with fail
    go_roundg (s.size - (q + 2))
    case measure => have := Hgk.out; omega
    case rel => exact ⟨q + 2, _, a', cap', by omega, rfl, rfl, hrel⟩
end Go.Proofs.YtgeepfoknhhcjaaDoor
