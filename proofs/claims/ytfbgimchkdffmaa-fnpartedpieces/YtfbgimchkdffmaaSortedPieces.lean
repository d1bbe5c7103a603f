
/-
  laws.FnSortedPieces returns true for every code. No conditions.
-/
import Derived.Test.YtfbgimchkdffmaaSorted
import Derived.Test.YtfbgimchkdffmaaStepCall
namespace Go.Proofs.Ytfbgimchkdffmaa
open Go.RowKit

theorem rowsOk_sub {l : List RowV} (h : rowsOk l = true) {m : List RowV} (hs : m.Sublist l) : rowsOk m = true := by
  unfold rowsOk at h ⊢
  rw [Bool.and_eq_true] at h ⊢
  refine ⟨decide_eq_true ?_, List.all_eq_true.2 fun x hx => List.all_eq_true.1 h.2 x (hs.subset hx)⟩
  have := of_decide_eq_true h.1
  have := hs.length_le
  omega
theorem pieces_perm (l : List RowV) (k : Nat) : (sortL (l.take k) ++ l.drop k).Perm l := by
  have := (sortL_perm' (l.take k)).append_right (l.drop k)
  rwa [List.take_append_drop] at this
/-- The first k rows, and the others, of rows that can be read. -/
theorem Rd.take {w : World} {B n k : Nat} {a : Option Addr} {rs : List RowV} (h : Rd w B 3 a n (flat rs)) (hk : k ≤ n) : Rd w B 3 a k (flat (rs.take k)) := by
  have hl := h.rows_length
  refine ⟨by rw [flat_length, List.length_take, hl, Nat.min_eq_left hk], fun hp => ?_⟩
  obtain ⟨b, off, e, hb, hc⟩ := h.2 (by omega)
  exact ⟨b, off, e, hb, fun j u hu => hc j u (flat_get_take hu)⟩
theorem Rd.drop {w : World} {B n k g o : Nat} {rs : List RowV} (h : Rd w B 3 (some ⟨g, o, none⟩) n (flat rs)) (hk : k ≤ n) : Rd w B 3 (some ⟨g, o + k * 3, none⟩) (n - k) (flat (rs.drop k)) := by
  have hl := h.rows_length
  refine ⟨by rw [flat_length, List.length_drop, hl], fun hp => ?_⟩
  obtain ⟨b, off, e, hb, hc⟩ := h.2 (by omega)
  obtain ⟨rfl, rfl⟩ : g = b ∧ o = off := by injection e with e; injection e with e1 e2; exact ⟨e1, e2⟩
  refine ⟨g, o + k * 3, rfl, hb, fun j u hu => ?_⟩
  have := hc (k * 3 + j) u (flat_get_drop (by rw [hl]; exact hk) hu)
  rwa [← Nat.add_assoc] at this
theorem Rd.drop_if {w : World} {B n k cap g : Nat} {rs : List RowV} (h : Rd w B 3 (some ⟨g, 0, none⟩) n (flat rs)) (hk : k ≤ n) (hn : n ≤ cap) : Rd w B 3 (if cap = k then some ⟨g, 0, none⟩ else some ⟨g, k * 3, none⟩) (n - k) (flat (rs.drop k)) := by
  have h1 := h.drop hk
  rw [Nat.zero_add] at h1
  split
  · refine ⟨h1.1, fun hp => ?_⟩
    omega
  · exact h1
end Go.Proofs.Ytfbgimchkdffmaa
