/-
  What the law on frames asks of them. No conditions but those of each statement.
-/
import Derived.Test.YtpnbbedfbglekaaFrameMath
namespace Go.Proofs.Ytpnbbedfbglekaa
open Go.RowKit
theorem ext_left (a b : ByteArray) {k : Nat} (h : k ≤ a.size) : (a ++ b).extract 0 k = a.extract 0 k := by
  rw [ByteArray.extract_append]
  have e : b.extract (0 - a.size) (k - a.size) = ByteArray.empty := by
    apply ByteArray.ext
    rw [ByteArray.data_extract, show k - a.size = 0 by omega]
    simp
  rw [e]
  exact ByteArray.ext (by rw [ByteArray.data_append]; simp)
theorem ext_right (a b : ByteArray) (j k : Nat) : (a ++ b).extract (a.size + j) (a.size + k) = b.extract j k := by
  rw [ByteArray.extract_append, show a.size + j - a.size = j by omega, show a.size + k - a.size = k by omega]
  have e : a.extract (a.size + j) (a.size + k) = ByteArray.empty := by
    apply ByteArray.ext
    apply Array.eq_empty_of_size_eq_zero
    rw [ByteArray.data_extract, Array.size_extract]
    have : a.data.size = a.size := rfl
    omega
  rw [e]
  exact ByteArray.ext (by rw [ByteArray.data_append]; simp)
theorem ext_all (a : ByteArray) : a.extract 0 a.size = a := ByteArray.extract_zero_size
theorem ext_over (a : ByteArray) {k : Nat} (h : a.size ≤ k) : a.extract 0 k = a := by
  apply ByteArray.ext
  rw [ByteArray.data_extract]
  have hs : a.data.size = a.size := rfl
  apply Array.ext
  · rw [Array.size_extract]; omega
  · intro i h1 h2
    rw [Array.getElem_extract]
    congr 1
    omega
theorem frameB_size (d : ByteArray) : (frameB d).size = 8 + d.size := by
  unfold frameB
  rw [ByteArray.size_append]
  rfl
theorem lenT_inj {n m : Nat} (hn : n < 4294967296) (hm : m < 4294967296) (h : lenT n = lenT m) : n = m := by
  unfold lenT at h
  have h2 := congrArg (fun z => z.data.toList) h
  simp only [List.cons.injEq, and_true] at h2
  obtain ⟨e0, e1, e2, e3⟩ := h2
  have key : ∀ {x y : Int}, 0 ≤ x → x < 256 → 0 ≤ y → y < 256 → byI x = byI y → x = y := fun {x y} a b c d e => by
    rw [← byI_int a b, ← byI_int c d, e]
  have k0 := key (by omega) (by omega) (by omega) (by omega) e0
  have k1 := key (by omega) (by omega) (by omega) (by omega) e1
  have k2 := key (by omega) (by omega) (by omega) (by omega) e2
  have k3 := key (by omega) (by omega) (by omega) (by omega) e3
  omega
theorem lenT_size (n : Int) : (lenT n).size = 4 := rfl
theorem crcT_size (d : ByteArray) : (crcT d).size = 4 := rfl
theorem frame_four (d r : ByteArray) : (frameB d ++ r).extract 0 4 = lenT d.size := by
  have : frameB d ++ r = lenT d.size ++ (crcT d ++ (d ++ r)) := by
    unfold frameB
    rw [ByteArray.append_assoc, ByteArray.append_assoc]
  rw [this, ext_left _ _ (by rw [lenT_size]; exact Nat.le_refl _)]
  exact ext_all (lenT d.size)
theorem first_frame {d : ByteArray} (hd : d.size ≤ 100000) (r : ByteArray) : firstF (frameB d ++ r) = some d := by
  have hsz : (frameB d ++ r).size = 8 + d.size + r.size := by rw [ByteArray.size_append, frameB_size]
  have hb : be4 (frameB d ++ r) = d.size := by
    have := head4 (s := frameB d ++ r) (by omega)
    rw [frame_four] at this
    exact (lenT_inj (by omega) (be4_lt _) this).symm
  have e1 : frameB d ++ r = (lenT d.size ++ crcT d) ++ (d ++ r) := by
    unfold frameB
    rw [ByteArray.append_assoc]
  have e2 : frameB d ++ r = lenT d.size ++ (crcT d ++ (d ++ r)) := by rw [e1, ByteArray.append_assoc]
  have x1 : (frameB d ++ r).extract 8 (8 + d.size) = d := by
    rw [e1]
    have := ext_right (lenT d.size ++ crcT d) (d ++ r) 0 d.size
    rw [show (lenT d.size ++ crcT d).size = 8 from rfl] at this
    rw [show (8 : Nat) = 8 + 0 from rfl]
    rw [show 8 + 0 + d.size = 8 + d.size by omega, this, ext_left _ _ (Nat.le_refl _), ext_all]
  have x2 : (frameB d ++ r).extract 4 8 = crcT d := by
    rw [e2]
    have := ext_right (lenT d.size) (crcT d ++ (d ++ r)) 0 4
    rw [lenT_size] at this
    rw [this, ext_left _ _ (by rw [crcT_size]; exact Nat.le_refl _)]
    exact ext_all (crcT d)
  rw [firstF_sum (by omega) (by omega) (by omega), hb, x1, x2, if_pos (by simp)]
theorem frame_head {s d : ByteArray} (h : firstF s = some d) : s.extract 0 (8 + d.size) = frameB d := by
  have hz := firstF_size h
  unfold firstF at h
  split at h
  · cases h
  · rename_i hno
    split at h
    · rename_i hc
      injection h with h
      rw [toList_inj'] at hc
      have hd : d.size = be4 s := by rw [← h, ByteArray.size_extract]; omega
      unfold frameB
      rw [hd, ← head4 (s := s) (by omega)]
      rw [h] at hc
      rw [hc, ByteArray.extract_append_extract, show min 0 4 = 0 from rfl, show max 4 8 = 8 from rfl]
      conv => rhs; rw [← h]
      rw [ByteArray.extract_append_extract, show min 0 8 = 0 from rfl, Nat.max_eq_right (Nat.le_add_right 8 (be4 s))]
    · cases h
/-- The frames of a text; no more than so many. -/
def framesS : Nat → ByteArray → List ByteArray
  | 0, _ => []
  | f + 1, x => match firstF x with
    | none => []
    | some d => d :: framesS f (x.extract (8 + d.size) x.size)
theorem framesS_none {f : Nat} {x : ByteArray} (h : firstF x = none) : framesS f x = [] := by
  cases f with
  | zero => rfl
  | succ f => rw [framesS, h]
theorem framesS_some {f : Nat} {x d : ByteArray} (h : firstF x = some d) : framesS (f + 1) x = d :: framesS f (x.extract (8 + d.size) x.size) := by rw [framesS, h]
theorem framesN_S (s : ByteArray) : ∀ (f k : Nat), framesN f s k = framesS f (s.extract k s.size)
  | 0, k => rfl
  | f + 1, k => by
    cases h : firstF (s.extract k s.size) with
    | none => rw [framesN_none h, framesS_none h]
    | some d =>
      rw [framesN_some h, framesS_some h, framesN_S s f (k + (8 + d.size)), ByteArray.size_extract, ByteArray.extract_extract, Nat.min_self]
      have e : min (k + (s.size - k)) s.size = s.size := by omega
      rw [e]
theorem framesOf_S (s : ByteArray) : framesOf s = framesS (s.size + 1) s := by
  unfold framesOf
  rw [framesN_S, ext_all]
theorem framesS_fuel : ∀ (f g : Nat) (x : ByteArray), x.size < f → x.size < g → framesS f x = framesS g x
  | 0, _, _, h, _ => by omega
  | _, 0, _, _, h => by omega
  | f + 1, g + 1, x, hf, hg => by
    cases h : firstF x with
    | none => rw [framesS_none h, framesS_none h]
    | some d =>
      have hd := (firstF_size h).2.1
      rw [framesS_some h, framesS_some h, framesS_fuel f g _ (by rw [ByteArray.size_extract]; omega) (by rw [ByteArray.size_extract]; omega)]
theorem framesS_le : ∀ (f : Nat) (x : ByteArray), totF (framesS f x) ≤ x.size
  | 0, x => by simp [framesS, totF]
  | f + 1, x => by
    cases h : firstF x with
    | none => rw [framesS_none h]; simp [totF]
    | some d =>
      have hd := (firstF_size h).2.1
      have ih := framesS_le f (x.extract (8 + d.size) x.size)
      rw [ByteArray.size_extract] at ih
      rw [framesS_some h]
      simp only [totF, List.map_cons, List.sum_cons] at ih ⊢
      omega
theorem framesS_short : ∀ (f : Nat) (x d : ByteArray), d ∈ framesS f x → d.size ≤ 100000
  | 0, _, _, h => by cases h
  | f + 1, x, d, h => by
    cases hf : firstF x with
    | none => rw [framesS_none hf] at h; cases h
    | some e =>
      rw [framesS_some hf] at h
      rcases List.mem_cons.1 h with rfl | h
      · exact (firstF_size hf).1
      · exact framesS_short f _ d h
/-- The frames of texts, one behind the other. -/
def concatF (L : List ByteArray) : ByteArray := L.foldl (fun a d => a ++ frameB d) ⟨#[]⟩
theorem concatF_snoc (L : List ByteArray) (d : ByteArray) : concatF (L ++ [d]) = concatF L ++ frameB d := by simp [concatF]
theorem empty_app (a : ByteArray) : (⟨#[]⟩ : ByteArray) ++ a = a := ByteArray.ext (by rw [ByteArray.data_append]; simp)
theorem app_empty (a : ByteArray) : a ++ (⟨#[]⟩ : ByteArray) = a := ByteArray.ext (by rw [ByteArray.data_append]; simp)
theorem concatF_from : ∀ (L : List ByteArray) (a : ByteArray), L.foldl (fun a d => a ++ frameB d) a = a ++ concatF L
  | [], a => (app_empty a).symm
  | d :: L, a => by
    unfold concatF
    rw [List.foldl_cons, List.foldl_cons, concatF_from L, concatF_from L (⟨#[]⟩ ++ frameB d), empty_app, ByteArray.append_assoc]
theorem concatF_cons (d : ByteArray) (L : List ByteArray) : concatF (d :: L) = frameB d ++ concatF L := by
  unfold concatF
  rw [List.foldl_cons, concatF_from, empty_app]
  rfl
theorem concatF_size (L : List ByteArray) : (concatF L).size = totF L := by
  induction L with
  | nil => rfl
  | cons d L ih => rw [concatF_cons, ByteArray.size_append, ih, frameB_size]; simp [totF]
theorem frames_next {d : ByteArray} (hd : d.size ≤ 100000) (z : ByteArray) : framesOf (frameB d ++ z) = d :: framesOf z := by
  have hs : (frameB d ++ z).size = 8 + d.size + z.size := by rw [ByteArray.size_append, frameB_size]
  rw [framesOf_S, framesOf_S, framesS_some (first_frame hd z)]
  have e : (frameB d ++ z).extract (8 + d.size) (frameB d ++ z).size = z := by
    have := ext_right (frameB d) z 0 z.size
    rw [frameB_size, ext_all] at this
    rw [hs]
    exact this
  rw [e, framesS_fuel _ (z.size + 1) z (by omega) (by omega)]
theorem frames_none : framesOf ⟨#[]⟩ = [] := by
  rw [framesOf_S]
  exact framesS_none (firstF_no (.inl (by decide)))
theorem frames_concat : ∀ {L : List ByteArray}, (∀ d ∈ L, d.size ≤ 100000) → framesOf (concatF L) = L
  | [], _ => frames_none
  | d :: L, h => by rw [concatF_cons, frames_next (h d (List.mem_cons_self)), frames_concat fun x hx => h x (List.mem_cons_of_mem _ hx)]
theorem concat_frames : ∀ (f : Nat) (x : ByteArray), concatF (framesS f x) = x.extract 0 (totF (framesS f x))
  | 0, x => by
    apply ByteArray.ext
    rw [ByteArray.data_extract]
    simp [framesS, totF, concatF]
  | f + 1, x => by
    cases h : firstF x with
    | none =>
      rw [framesS_none h]
      apply ByteArray.ext
      rw [ByteArray.data_extract]
      simp [totF, concatF]
    | some d =>
      have hd := (firstF_size h).2.1
      have hl := framesS_le f (x.extract (8 + d.size) x.size)
      rw [ByteArray.size_extract, Nat.min_self] at hl
      rw [framesS_some h, concatF_cons, ← frame_head h, concat_frames f, ByteArray.extract_extract]
      have e : totF (d :: framesS f (x.extract (8 + d.size) x.size)) = 8 + d.size + totF (framesS f (x.extract (8 + d.size) x.size)) := by simp [totF]
      rw [e]
      generalize totF (framesS f (x.extract (8 + d.size) x.size)) = t at *
      rw [Nat.add_zero, Nat.min_eq_left (by omega), ByteArray.extract_append_extract, Nat.min_eq_left (Nat.zero_le _), Nat.max_eq_right (by omega)]
theorem frames_cut : ∀ {L : List ByteArray} (k : Nat), (∀ d ∈ L, d.size ≤ 100000) → ∃ j, j ≤ L.length ∧ framesOf ((concatF L).extract 0 k) = L.take j
  | [], k, _ => ⟨0, Nat.le_refl _, by
    have e : (concatF []).extract 0 k = ⟨#[]⟩ := by
      apply ByteArray.ext
      rw [ByteArray.data_extract]
      simp [concatF]
    rw [e, frames_none]; rfl⟩
  | d :: L, k, h => by
    have hd := h d (List.mem_cons_self)
    rw [concatF_cons]
    by_cases hk : k < 8 + d.size
    · refine ⟨0, Nat.zero_le _, ?_⟩
      have hx : (frameB d ++ concatF L).extract 0 k = (frameB d).extract 0 k := ext_left _ _ (by rw [frameB_size]; omega)
      have hs : ((frameB d).extract 0 k).size = k := by rw [ByteArray.size_extract, frameB_size]; omega
      rw [hx, framesOf_S]
      refine framesS_none (firstF_no ?_)
      by_cases h8 : k < 8
      · exact .inl (by omega)
      · refine .inr (.inr ?_)
        have e4 : ((frameB d).extract 0 k).extract 0 4 = lenT d.size := by
          rw [ByteArray.extract_extract, Nat.min_eq_left (by omega)]
          have := frame_four d ⟨#[]⟩
          rw [app_empty] at this
          exact this
        have hb : be4 ((frameB d).extract 0 k) = d.size := by
          have := head4 (s := (frameB d).extract 0 k) (by omega)
          rw [e4] at this
          exact (lenT_inj (by omega) (be4_lt _) this).symm
        omega
    · obtain ⟨j, hj, e⟩ := frames_cut (k - (8 + d.size)) fun x hx => h x (List.mem_cons_of_mem _ hx)
      refine ⟨j + 1, by simp only [List.length_cons]; omega, ?_⟩
      have hx : (frameB d ++ concatF L).extract 0 k = frameB d ++ (concatF L).extract 0 (k - (8 + d.size)) := by
        rw [ByteArray.extract_append, frameB_size, Nat.zero_sub, ext_over _ (by rw [frameB_size]; omega)]
      rw [hx, frames_next hd, e]; rfl
end Go.Proofs.Ytpnbbedfbglekaa
