/-
  The first frame of a text, and all the frames with which it begins. No conditions but those of each statement.
-/
import Derived.Test.YtpnbbedfbglekaaFrame
namespace Go.Proofs.Ytpnbbedfbglekaa
open Go.RowKit
def byAt (s : ByteArray) (i : Nat) : Nat := if h : i < s.size then s[i].toNat else 0
theorem byAt_eq {s : ByteArray} {i : Nat} (h : i < s.size) : byAt s i = s[i].toNat := dif_pos h
theorem byAt_lt (s : ByteArray) (i : Nat) : byAt s i < 256 := by
  unfold byAt
  split
  · exact UInt8.toNat_lt _
  · decide
/-- The number of the first four bytes. -/
def be4 (s : ByteArray) : Nat := byAt s 0 * 16777216 + byAt s 1 * 65536 + byAt s 2 * 256 + byAt s 3
theorem be4_lt (s : ByteArray) : be4 s < 4294967296 := by
  have h0 := byAt_lt s 0
  have h1 := byAt_lt s 1
  have h2 := byAt_lt s 2
  have h3 := byAt_lt s 3
  unfold be4
  omega
/-- The data of the first frame of a text. -/
def firstF (s : ByteArray) : Option ByteArray :=
  if s.size < 8 ∨ 100000 < be4 s ∨ s.size < 8 + be4 s then none
  else if ((crcT (s.extract 8 (8 + be4 s))).toList == (s.extract 4 8).toList) = true then some (s.extract 8 (8 + be4 s)) else none
theorem firstF_no {s : ByteArray} (h : s.size < 8 ∨ 100000 < be4 s ∨ s.size < 8 + be4 s) : firstF s = none := if_pos h
theorem firstF_sum {s : ByteArray} (h8 : 8 ≤ s.size) (hn : be4 s ≤ 100000) (hl : 8 + be4 s ≤ s.size) :
    firstF s = if ((crcT (s.extract 8 (8 + be4 s))).toList == (s.extract 4 8).toList) = true then some (s.extract 8 (8 + be4 s)) else none := by
  unfold firstF
  rw [if_neg (by omega)]
theorem firstF_size {s d : ByteArray} (h : firstF s = some d) : d.size ≤ 100000 ∧ 8 + d.size ≤ s.size ∧ d = s.extract 8 (8 + d.size) := by
  unfold firstF at h
  split at h
  · cases h
  · split at h
    · injection h with h
      have hs : d.size = be4 s := by rw [← h, ByteArray.size_extract]; omega
      rw [hs]
      exact ⟨by omega, by omega, h.symm⟩
    · cases h
theorem byI_of {z : Int} {c : UInt8} (h : z = (c.toNat : Int)) : byI z = c := by
  unfold byI
  rw [h]
  simp
theorem head4 {s : ByteArray} (h : 8 ≤ s.size) : s.extract 0 4 = lenT (be4 s) := by
  have e0 := byAt_eq (s := s) (i := 0) (by omega)
  have e1 := byAt_eq (s := s) (i := 1) (by omega)
  have e2 := byAt_eq (s := s) (i := 2) (by omega)
  have e3 := byAt_eq (s := s) (i := 3) (by omega)
  have b0 := byAt_lt s 0
  have b1 := byAt_lt s 1
  have b2 := byAt_lt s 2
  have b3 := byAt_lt s 3
  apply ByteArray.ext
  rw [ByteArray.data_extract]
  apply Array.ext
  · rw [Array.size_extract]
    show min 4 s.data.size - 0 = 4
    have : s.data.size = s.size := rfl
    omega
  · intro i h1 h2
    have h3 : i < 4 := h2
    rw [Array.getElem_extract]
    unfold lenT
    have hs : s.data.size = s.size := rfl
    rcases (show i = 0 ∨ i = 1 ∨ i = 2 ∨ i = 3 by omega) with rfl | rfl | rfl | rfl
    · exact (byI_of (by rw [show s.data[0 + 0]'(by omega) = s[0] from rfl, ← e0]; unfold be4; omega)).symm
    · exact (byI_of (by rw [show s.data[0 + 1]'(by omega) = s[1] from rfl, ← e1]; unfold be4; omega)).symm
    · exact (byI_of (by rw [show s.data[0 + 2]'(by omega) = s[2] from rfl, ← e2]; unfold be4; omega)).symm
    · exact (byI_of (by rw [show s.data[0 + 3]'(by omega) = s[3] from rfl, ← e3]; unfold be4; omega)).symm
theorem toList_inj' {a b : ByteArray} : (a.toList == b.toList) = true ↔ a = b := by
  rw [beq_iff_eq]
  refine ⟨fun h => ?_, fun h => by rw [h]⟩
  rw [ByteArray.toList_eq, ByteArray.toList_eq] at h
  exact ByteArray.ext (Array.toList_inj.1 h)
theorem app_cancel {a x y d : ByteArray} : (a ++ x ++ d = a ++ y ++ d) ↔ x = y := by
  refine ⟨fun h => ?_, fun h => by rw [h]⟩
  have h2 := congrArg (fun z => z.data.toList) h
  simp only [ByteArray.data_append, Array.toList_append] at h2
  exact ByteArray.ext (Array.toList_inj.1 (List.append_cancel_left (List.append_cancel_right h2)))
def prefB (s p : ByteArray) : Bool := decide (p.size ≤ s.size) && ((s.extract 0 p.size).toList == p.toList)
theorem pref_frame {s : ByteArray} (h8 : 8 ≤ s.size) (hn : be4 s ≤ 100000) (hl : 8 + be4 s ≤ s.size) :
    prefB s (frameS (s.extract 8 (8 + be4 s))) = ((crcT (s.extract 8 (8 + be4 s))).toList == (s.extract 4 8).toList) := by
  have hd : (s.extract 8 (8 + be4 s)).size = be4 s := by rw [ByteArray.size_extract]; omega
  have e : frameS (s.extract 8 (8 + be4 s)) = lenT (be4 s) ++ crcT (s.extract 8 (8 + be4 s)) ++ s.extract 8 (8 + be4 s) := by
    unfold frameS frameB
    rw [hd, if_pos hn]
  have hz : (frameS (s.extract 8 (8 + be4 s))).size = 8 + be4 s := by
    rw [e, ByteArray.size_append, hd]
    rfl
  unfold prefB
  rw [hz, decide_eq_true hl, Bool.true_and, Bool.eq_iff_iff, toList_inj', toList_inj', e]
  have h1 : s.extract 0 (8 + be4 s) = lenT (be4 s) ++ s.extract 4 8 ++ s.extract 8 (8 + be4 s) := by
    rw [← head4 h8, ByteArray.extract_append_extract, show min 0 4 = 0 from rfl, show max 4 8 = 8 from rfl, ByteArray.extract_append_extract, show min 0 8 = 0 from rfl, Nat.max_eq_right (Nat.le_add_right 8 (be4 s))]
  rw [h1, app_cancel]
  exact eq_comm
/-- The frames of a text behind an offset; no more than so many. -/
def framesN : Nat → ByteArray → Nat → List ByteArray
  | 0, _, _ => []
  | f + 1, s, k => match firstF (s.extract k s.size) with
    | none => []
    | some d => d :: framesN f s (k + (8 + d.size))
def framesOf (s : ByteArray) : List ByteArray := framesN (s.size + 1) s 0
/-- The bytes of frames together. -/
def totF (l : List ByteArray) : Nat := (l.map fun d => 8 + d.size).sum
theorem totF_snoc (l : List ByteArray) (d : ByteArray) : totF (l ++ [d]) = totF l + (8 + d.size) := by simp [totF]
theorem framesN_none {f k : Nat} {s : ByteArray} (h : firstF (s.extract k s.size) = none) : framesN f s k = [] := by
  cases f with
  | zero => rfl
  | succ f => rw [framesN, h]
theorem framesN_some {f k : Nat} {s d : ByteArray} (h : firstF (s.extract k s.size) = some d) : framesN (f + 1) s k = d :: framesN f s (k + (8 + d.size)) := by rw [framesN, h]
theorem totF_len (l : List ByteArray) : l.length * 8 ≤ totF l := by
  induction l with
  | nil => simp [totF]
  | cons d l ih => simp only [totF, List.map_cons, List.sum_cons, List.length_cons] at ih ⊢; omega
end Go.Proofs.Ytpnbbedfbglekaa
