/-
  impl.reader.rows by its contract: it returns the rows that are read, in new memory, or it panics where there are none. Conditions: those of each statement.
-/
import Derived.Test.YtlalbcdbcalaiabReadRow
namespace Go.Proofs.Ytlalbcdbcalaiab
open Go.RowKit

theorem rrAt_bd {s : ByteArray} {p q : Nat} {r : RowV} (hp : p ≤ s.size) (h : rrAt s p = some (r, q)) : p + 5 ≤ q ∧ q ≤ s.size ∧ r.key.size ≤ 12 ∧ r.val.size ≤ 12 ∧ 0 ≤ r.tag ∧ r.tag ≤ 3 := by
  cases hk : rkAt s p [] with
  | none => rw [rrAt_a hk] at h; cases h
  | some x =>
    obtain ⟨k, j⟩ := x
    have b1 := rkAt_bd hp hk
    by_cases hj : j < s.size
    · by_cases ht : s[j].toNat ≤ 3
      · cases hv : rkAt s (j + 1) [] with
        | none => rw [rrAt_d hk hj ht hv] at h; cases h
        | some y =>
          obtain ⟨v, q'⟩ := y
          have b2 := rkAt_bd (by omega) hv
          rw [rrAt_e hk hj ht hv] at h
          injection h with h
          injection h with h1 h2
          subst h1 h2
          have e1 : (⟨k.toArray⟩ : ByteArray).size = k.length := by simp [ByteArray.size]
          have e2 : (⟨v.toArray⟩ : ByteArray).size = v.length := by simp [ByteArray.size]
          exact ⟨by omega, b2.2.2, by rw [e1]; exact b1.1, by rw [e2]; exact b2.1, by simp, by simp; omega⟩
      · rw [rrAt_c hk hj ht] at h; cases h
    · rw [rrAt_b hk hj] at h; cases h
/-- Reading rows of s from place p on; acc has been read. -/
def rrs (s : ByteArray) : Nat → Nat → List RowV → Option (List RowV)
  | 0, _, _ => none
  | n + 1, p, acc => if p = s.size then some acc else if acc.length < 120 then (match rrAt s p with
    | none => none
    | some (r, q) => rrs s n q (acc ++ [r])) else none
theorem rrs_end (s : ByteArray) (n : Nat) (acc : List RowV) : rrs s (n + 1) s.size acc = some acc := by rw [rrs, if_pos rfl]
theorem rrs_full {s : ByteArray} (n : Nat) {p : Nat} {acc : List RowV} (hp : p ≠ s.size) (ha : ¬ acc.length < 120) : rrs s (n + 1) p acc = none := by rw [rrs, if_neg hp, if_neg ha]
theorem rrs_none {s : ByteArray} (n : Nat) {p : Nat} {acc : List RowV} (hp : p ≠ s.size) (h : rrAt s p = none) : rrs s (n + 1) p acc = none := by
  rw [rrs, if_neg hp]; split
  · simp only [h]
  · rfl
theorem rrs_step {s : ByteArray} (n : Nat) {p q : Nat} {acc : List RowV} {r : RowV} (hp : p ≠ s.size) (ha : acc.length < 120) (h : rrAt s p = some (r, q)) : rrs s (n + 1) p acc = rrs s n q (acc ++ [r]) := by
  rw [rrs, if_neg hp, if_pos ha]; simp only [h]
/-- What ReadRows reads. -/
def rowsOf (s : ByteArray) : Option (List RowV) := rrs s (s.size + 1) 0 []
/-- At a round's head: acc has been read up to place q. -/
def RsRel (s : ByteArray) (q : Nat) (acc : List RowV) : Prop := q ≤ s.size ∧ acc.length ≤ 120 ∧ (∀ r ∈ acc, r.Ok) ∧ ∃ n, s.size - q < n ∧ rrs s n q acc = rowsOf s
theorem RsRel.zero (s : ByteArray) : RsRel s 0 [] := ⟨Nat.zero_le _, by simp, by simp, s.size + 1, by omega, rfl⟩
theorem RsRel.end_ {s : ByteArray} {acc : List RowV} (h : RsRel s s.size acc) : rowsOf s = some acc := by
  obtain ⟨_, _, _, n, hn, e⟩ := h
  match n, hn, e with
  | n + 1, _, e => rw [← e, rrs_end]
theorem RsRel.full {s : ByteArray} {q : Nat} {acc : List RowV} (h : RsRel s q acc) (hq : q < s.size) (ha : ¬ acc.length < 120) : rowsOf s = none := by
  obtain ⟨_, _, _, n, hn, e⟩ := h
  match n, hn, e with
  | n + 1, _, e => rw [← e, rrs_full n (by omega) ha]
theorem RsRel.bad {s : ByteArray} {q : Nat} {acc : List RowV} (h : RsRel s q acc) (hq : q < s.size) (hr : rrAt s q = none) : rowsOf s = none := by
  obtain ⟨_, _, _, n, hn, e⟩ := h
  match n, hn, e with
  | n + 1, _, e => rw [← e, rrs_none n (by omega) hr]
theorem RsRel.step {s : ByteArray} {q q' : Nat} {acc : List RowV} {r : RowV} (h : RsRel s q acc) (hq : q < s.size) (ha : acc.length < 120) (hr : rrAt s q = some (r, q')) : RsRel s q' (acc ++ [r]) := by
  obtain ⟨h1, _, h2, n, hn, e⟩ := h
  have b := rrAt_bd h1 hr
  have hok : r.Ok := ⟨by unfold maxLen; omega, by simp [Lit.wf, IntKind.min, IntKind.max, IntKind.signed, IntKind.bits]; omega, by unfold maxLen; omega⟩
  match n, hn, e with
  | n + 1, hn, e =>
    refine ⟨b.2.1, by simp; omega, fun y hy => ?_, n, by omega, by rw [← e, rrs_step n (by omega) ha hr]⟩
    rcases List.mem_append.1 hy with h3 | h3
    · exact h2 y h3
    · rw [List.mem_singleton.1 h3]; exact hok
theorem infoRow' : (Try.prog.info? 32).map (fun i => (i.zero, i.size, i.bytes)) = some (some (.agg #[.string ⟨#[]⟩, .int .i64 0, .string ⟨#[]⟩]), 3, 40) := by kernel_rfl
/-- How rows ends. -/
def RowsOut (s : ByteArray) (R : Nat) (w : World) (e : Ending) (w' : World) : Prop :=
  (∃ rs a cap, rowsOf s = some rs ∧ e = .returned (.slice a rs.length cap) ∧ w'.ownsRow w.heap.size 32 3 (.slice a rs.length cap) rs.length (flat rs) ∧ RdrAt w' R s s.size ∧ w.grownBy w' (some R)) ∨ (rowsOf s = none ∧ e = .panicked [msgE] ∧ w.grownBy w' (some R))
/-- A row is appended. -/
theorem push_row {s : ByteArray} {R q : Nat} {w wr w1 : World} {acc : List RowV} {a : Option Addr} {cap : Nat} {v : Value} {o : Obj} (r : RowV) (hR : R < w.heap.size)
    (hO : wr.ownsRow w.heap.size 32 3 (.slice a acc.length cap) acc.length (flat acc)) (hr : RdrAt wr R s q) (hg : w.grownBy wr (some R))
    (hO1 : w1.ownsRow w.heap.size 32 3 v (acc.length + 1) (flat acc ++ [.string r.key, .int .i64 r.tag, .string r.val])) (hg1 : (wr.alloc o).grownBy w1 (Value.slice a acc.length cap).ownBlock) :
    ∃ a' cap', v = .slice a' (acc ++ [r]).length cap' ∧ w1.ownsRow w.heap.size 32 3 (.slice a' (acc ++ [r]).length cap') (acc ++ [r]).length (flat (acc ++ [r])) ∧ RdrAt w1 R s q ∧ w.grownBy w1 (some R) := by
  have hge := own_block_ge hO
  have hsz := hg.size
  have hne : some R ≠ (Value.slice a acc.length cap).ownBlock := fun e => by have := hge R e.symm; omega
  obtain ⟨a', cap', rfl⟩ := own_slice hO1
  refine ⟨a', cap', by simp, by rw [flat_append]; simpa [flat, RowV.cells] using hO1, ?_, ?_⟩
  · exact (hr.gb (gb_of_below ((Below.refl _ _).alloc (Nat.le_refl _) o) none) (by omega) (by simp)).gb hg1 (by simp; omega) hne
  · exact gb_then (gb_then hg (gb_of_below ((Below.refl _ _).alloc (Nat.le_refl _) o) none) (by simp)) hg1 hge
set_option maxHeartbeats 4000000 in
theorem rows_any (R : Nat) (s : ByteArray) (w : World) (hs : s.size ≤ 1099511627776) (hR : R < w.heap.size) (h : RdrAt w R s 0) :
    Calls Try.prog 56 #[.pointer (some ⟨R, 0, none⟩)] w (RowsOut s R w) := by
  obtain ⟨i0, hi, hz0, hz1, hz2⟩ := info_parts infoRow'
  go_enter Try.func56, Try.ntmps56
  go_wp2
  go_loopg [3] s.size (fun gk v wr => ∃ (q : Nat) (acc : List RowV) (a : Option Addr) (cap : Nat), gk = s.size - q ∧ v = .slice a acc.length cap ∧ RsRel s q acc ∧ wr.ownsRow w.heap.size 32 3 (.slice a acc.length cap) acc.length (flat acc) ∧ RdrAt wr R s q ∧ w.grownBy wr (some R))
  case atStart => exact ⟨0, [], none, 0, rfl, rfl, RsRel.zero s, World.ownsRow_nil _ _ _ _, h, World.grownBy.refl _ _⟩
  case round =>
    obtain ⟨q, acc, a, cap, hgk, rfl, hS, hO, hr, hg⟩ := hrel
    have Hgk := Lib.hid hgk
    clear hgk h
    have hq : q ≤ s.size := hS.1
    have hal : acc.length ≤ 120 := hS.2.1
    by_cases hlt : q < s.size
    case neg =>
      obtain rfl : q = s.size := by omega
      have E := Lib.hid hS.end_
      go_wp2_with fail
      refine (ended_any R s s.size true _ hr (by simp)).mono ?_
      rintro e w1 ⟨rfl, hr1, hb1⟩
      have hO1 := own_gb hO (gb_of_below hb1 (some R)) hR
      have hG1 := gb_trans hg (gb_of_below hb1 (some R))
      go_wp2_with fail
      go_ret
      exact .inl ⟨acc, a, cap, E.out, rfl, hO1, hr1, hG1⟩
    go_wp2_with fail
    refine (ended_any R s q false _ hr (by simp; omega)).mono ?_
    rintro e w1 ⟨rfl, hr1, hb1⟩
    have hO1 := own_gb hO (gb_of_below hb1 (some R)) hR
    have hG1 := gb_trans hg (gb_of_below hb1 (some R))
    clear hO hr hg hb1
    by_cases hl : acc.length < 120
    case neg =>
      have hd : decide ((acc.length : Int) < 120) = false := by simp; omega
      have E := Lib.hid (hS.full hlt hl)
      go_wp2_with fail
      refine (require_no R _).mono ?_
      rintro e w2 ⟨rfl, rfl⟩
      go_wp2_with fail
      exact ⟨rfl, .inr ⟨E.out, rfl, hG1⟩⟩
    have hd : decide ((acc.length : Int) < 120) = true := by simp; omega
    go_wp2_with fail
    refine (require_yes R _).mono ?_
    rintro e w2 ⟨rfl, rfl⟩
    go_wp2_with fail
    refine (row_any R s q _ hs hq (Nat.lt_of_lt_of_le hR hG1.size) hr1).mono ?_
    rintro e w2 hout
    rcases hout with ⟨r, q', hrr, rfl, hr2, hg2⟩ | ⟨hrr, rfl, hg2⟩
    case inr =>
      have E := Lib.hid (hS.bad hlt hrr)
      clear hrr
      go_wp2_with fail
      exact ⟨rfl, .inr ⟨E.out, rfl, gb_trans hG1 hg2⟩⟩
    have hS2 := hS.step hlt hl hrr
    have hq5 := rrAt_bd hq hrr
    have hO2 := own_gb hO1 hg2 hR
    have hG2 := gb_trans hG1 hg2
    obtain ⟨hq5a, hq5b, _⟩ := hq5
    clear hrr hO1 hG1 hg2 hr1 hS hd
    go_wp2_with (at_builtin; refine wpList_append_own _ rfl _ _ 38 rfl w.heap.size 32 i0 (.agg #[.string ⟨#[]⟩, .int .i64 0, .string ⟨#[]⟩]) 3 40 Try.underlying38 hi hz0 hz1 hz2 rfl (by decide) _ _ _ rfl (hO2.alloc _) ⟨w2.heap.size, 0, none⟩ 1 1 [.string r.key, .int .i64 r.tag, .string r.val] rfl rfl ?c1 ?c2 ?c3 ?c4 ?c5 ?_)
    case c1 =>
      intro j u hj
      match j, hj with
      | 0, hj => simp at hj; subst hj; simp [Addr.add]
      | 1, hj => simp at hj; subst hj; simp [Addr.add]
      | 2, hj => simp at hj; subst hj; simp [Addr.add]
    case c2 =>
      intro u hu
      simp at hu
      rcases hu with rfl | rfl | rfl <;> rfl
    case c3 => unfold maxLen; omega
    case c4 => omega
    case c5 => have := hG2.size; simp; omega
    intro v' w3 hO3 hg3 _
    obtain ⟨a', cap', rfl, hO4, hr4, hG4⟩ := push_row r hR hO2 hr2 hG2 hO3 hg3
    clear hO2 hr2 hG2 hO3 hg3
    go_wp2_with fail
    go_roundg (s.size - q')
    case measure => have := Hgk.out; omega
    case rel => exact ⟨q', _, a', cap', rfl, rfl, hS2, hO4, hr4, hG4⟩
end Go.Proofs.Ytlalbcdbcalaiab
