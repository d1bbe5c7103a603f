/-
  Bits in lists of bytes: what adding a key does to the first bytes alone; a key is there exactly if adding it changes nothing. No conditions but those of each statement.
-/
import Derived.Test.YtfndodaknejhfaaSpecAdd
namespace Go.Proofs.Ytfndodaknejhfaa
open Go.RowKit
theorem getD_setL (l : List UInt8) (i q : Nat) (h : i / 8 < l.length) : (setL l i).getD q 0 = if q = i / 8 then bitC i (l.getD q 0) else l.getD q 0 := by
  unfold setL
  by_cases hq : q = i / 8
  · subst hq
    simp [List.getD, h]
  · rw [if_neg hq]
    simp only [List.getD]
    rw [List.getElem?_set_ne (fun e => hq e.symm)]
def LeB (l l' : List UInt8) : Prop := ∀ q, l.getD q 0 ||| l'.getD q 0 = l'.getD q 0
theorem LeB.refl (l : List UInt8) : LeB l l := fun _ => UInt8.or_self
theorem or_up {a b c : UInt8} (h : a ||| b = b) (h' : b ||| c = c) : a ||| c = c := by
  rw [← h', ← UInt8.or_assoc, h]
theorem LeB.trans {a b c : List UInt8} (h : LeB a b) (h' : LeB b c) : LeB a c := fun q => or_up (h q) (h' q)
theorem LeB.setL (l : List UInt8) (i : Nat) (h : i / 8 < l.length) : LeB l (setL l i) := fun q => by
  rw [getD_setL l i q h]
  split
  · unfold bitC; rw [← UInt8.or_assoc, UInt8.or_self]
  · exact UInt8.or_self
theorem hasL_setL (l : List UInt8) (i : Nat) (h : i / 8 < l.length) : hasL (setL l i) i = true := by
  unfold hasL
  rw [getD_setL l i _ h, if_pos rfl]
  simp only [bitC, beq_iff_eq]
  rw [UInt8.or_assoc, UInt8.or_self]
theorem hasL_mono {l l' : List UInt8} {i : Nat} (h : LeB l l') (hl : hasL l i = true) : hasL l' i = true := by
  have := h (i / 8)
  simp only [hasL, bitC, beq_iff_eq] at *
  generalize l.getD (i / 8) 0 = c at *
  generalize l'.getD (i / 8) 0 = c' at *
  rw [← this, UInt8.or_assoc, UInt8.or_comm c', ← UInt8.or_assoc, hl]
theorem setL_has {l : List UInt8} {i : Nat} (hl : hasL l i = true) : setL l i = l := by
  simp only [hasL, beq_iff_eq] at hl
  unfold setL
  rw [hl]
  apply List.ext_getElem?
  intro q
  by_cases hq : q = i / 8
  · subst hq
    by_cases hlt : i / 8 < l.length
    · rw [List.getElem?_set_self hlt, List.getD, List.getElem?_eq_getElem hlt]; rfl
    · rw [List.getElem?_eq_none (by simp; omega), List.getElem?_eq_none (by omega)]
  · rw [List.getElem?_set_ne (fun e => hq e.symm)]
theorem hasK_eq (n : Int) (s : ByteArray) (l : List UInt8) (h : ∀ k, plN n s k / 8 < l.length) : hasK n s l = decide (addL n s l = l) := by
  have l0 := h 0
  have l1 := h 1
  have l2 := h 2
  unfold hasK addL
  generalize plN n s 0 = a at *
  generalize plN n s 1 = b at *
  generalize plN n s 2 = c at *
  have x1 : (setL l a).length = l.length := setL_length l a
  have x2 : (setL (setL l a) b).length = l.length := by rw [setL_length, x1]
  by_cases e : setL (setL (setL l a) b) c = l
  · rw [decide_eq_true e]
    have u2 : LeB (setL l a) l := by
      have := (LeB.setL (setL l a) b (by omega)).trans (LeB.setL (setL (setL l a) b) c (by omega))
      rwa [e] at this
    have u3 : LeB (setL (setL l a) b) l := by
      have := LeB.setL (setL (setL l a) b) c (by omega)
      rwa [e] at this
    have g0 := hasL_mono u2 (hasL_setL l a l0)
    have g1 := hasL_mono u3 (hasL_setL (setL l a) b (by omega))
    have g2 := hasL_setL (setL (setL l a) b) c (by omega)
    rw [e] at g2
    rw [g0, g1, g2]; rfl
  · rw [decide_eq_false e]
    cases ha : hasL l a
    · rfl
    cases hb : hasL l b
    · rfl
    cases hc : hasL l c
    · rfl
    exfalso
    exact e (by rw [setL_has ha, setL_has hb, setL_has hc])
theorem take_setL (l : List UInt8) (i m : Nat) (h : i / 8 < m) : (setL l i).take m = setL (l.take m) i := by
  unfold setL
  rw [List.take_set]
  congr 2
  simp only [List.getD, List.getElem?_take_of_lt h]
theorem take_addL (n : Int) (s : ByteArray) (l : List UInt8) (m : Nat) (h : ∀ k, plN n s k / 8 < m) : (addL n s l).take m = addL n s (l.take m) := by
  unfold addL
  rw [take_setL _ _ _ (h 2), take_setL _ _ _ (h 1), take_setL _ _ _ (h 0)]
theorem plN_lt (n : Int) (s : ByteArray) (m : Nat) (h0 : 8 ≤ n) (h8 : n % 8 = 0) (hm : (m : Int) = n / 8) (k : Nat) : plN n s k / 8 < m := by
  have := (place_bd n s k h0).2
  omega
theorem addL_length (n : Int) (s : ByteArray) (l : List UInt8) : (addL n s l).length = l.length := by
  unfold addL; rw [setL_length, setL_length, setL_length]
theorem padL_take (x : ByteArray) : (padL x).take x.size = x.data.toList := by
  have e : x.data.toList.length = x.size := by simp
  unfold padL
  rw [List.take_append_of_le_length (by omega), List.take_of_length_le (by omega)]
theorem add_bytes (n : Int) (x s : ByteArray) (h0 : 8 ≤ n) (h8 : n % 8 = 0) (hx : (x.size : Int) = n / 8) : bytesOf n (addL n s (padL x)) = addS n s x := by
  have e : (n / 8).toNat = x.size := by omega
  unfold bytesOf addS
  rw [e, take_addL n s _ _ (plN_lt n s _ h0 h8 hx), padL_take]
theorem hasK_pad (n : Int) (x s : ByteArray) (h0 : 8 ≤ n) (h8 : n % 8 = 0) (hx : (x.size : Int) = n / 8) : hasK n s (padL x) = decide (addS n s x = x) := by
  have e : x.data.toList.length = x.size := by simp
  have hh : ∀ i, i / 8 < x.size → hasL (padL x) i = hasL x.data.toList i := by
    intro i hi
    unfold hasL
    have : (padL x).getD (i / 8) 0 = x.data.toList.getD (i / 8) 0 := by
      simp only [List.getD, padL]
      rw [List.getElem?_append_left (by omega)]
    rw [this]
  have hp := plN_lt n s _ h0 h8 hx
  have E : hasK n s (padL x) = hasK n s x.data.toList := by
    unfold hasK
    rw [hh _ (hp 0), hh _ (hp 1), hh _ (hp 2)]
  rw [E, hasK_eq n s _ (by rw [e]; exact hp), decide_eq_decide]
  constructor
  · intro h; unfold addS; rw [h]
  · intro h
    have := congrArg (fun b : ByteArray => b.data.toList) h
    exact this
end Go.Proofs.Ytfndodaknejhfaa
