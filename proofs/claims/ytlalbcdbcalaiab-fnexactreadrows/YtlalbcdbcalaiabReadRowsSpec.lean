/-
  spec.ReadRows by its contract. Condition: the text has at most 1099511627776 bytes.
-/
import Derived.Test.YtlalbcdbcalaiabReadList
namespace Go.Proofs.Ytlalbcdbcalaiab
open Go.RowKit

theorem rrAt_sub (s : ByteArray) (p : Nat) (hp : p ≤ s.size) : rrAt s p = (rrAt (s.extract p s.size) 0).map fun x => (x.1, x.2 + p) := by
  have hts : (s.extract p s.size).size = s.size - p := by simp
  have hd := extract_drop s p
  cases hk : rkAt (s.extract p s.size) 0 [] with
  | none =>
    rw [rrAt_a hk, rrAt_a (s := s) (p := p) (by rw [rkAt_sub s p, hk]; rfl)]; rfl
  | some x =>
    obtain ⟨k, j⟩ := x
    have hk' : rkAt s p [] = some (k, j + p) := by rw [rkAt_sub s p, hk]; rfl
    by_cases hj : j < (s.extract p s.size).size
    · have hj' : j + p < s.size := by omega
      have hb : (s.extract p s.size)[j] = s[j + p] := by
        have e1 := drop_at (s.extract p s.size) j hj
        have e2 := drop_at s (j + p) hj'
        rw [hd, List.drop_drop, Nat.add_comm p j, e2] at e1
        injection e1 with e1 _
        exact e1.symm
      have hv' : rkAt s (j + p + 1) [] = (rkAt (s.extract p s.size) (j + 1) []).map fun x => (x.1, x.2 + p) := by
        unfold rkAt
        rw [hd, List.drop_drop, show p + (j + 1) = j + p + 1 by omega]
        have := rk_shift p _ (s.data.toList.drop (j + p + 1)) [] (j + 1) (Nat.le_refl _)
        rw [show j + 1 + p = j + p + 1 by omega] at this
        exact this
      by_cases ht : (s.extract p s.size)[j].toNat ≤ 3
      · have ht' : s[j + p].toNat ≤ 3 := by rw [← hb]; exact ht
        cases hv : rkAt (s.extract p s.size) (j + 1) [] with
        | none =>
          rw [rrAt_d hk hj ht hv, rrAt_d hk' hj' ht' (by rw [hv', hv]; rfl)]; rfl
        | some y =>
          obtain ⟨v, q⟩ := y
          rw [rrAt_e hk hj ht hv, rrAt_e hk' hj' ht' (by rw [hv', hv]; rfl)]
          simp only [Option.map_some, hb]
      · have ht' : ¬ s[j + p].toNat ≤ 3 := by rw [← hb]; exact ht
        rw [rrAt_c hk hj ht, rrAt_c hk' hj' ht']; rfl
    · have hj' : ¬ j + p < s.size := by omega
      rw [rrAt_b hk hj, rrAt_b hk' hj']; rfl
set_option maxHeartbeats 4000000 in
theorem specReadRows_any (s : ByteArray) (w : World) (hs : s.size ≤ 1099511627776) :
    Calls Try.prog 32 #[.string s] w (ReadROut s w) := by
  obtain ⟨i0, hi, hz0, hz1, hz2⟩ := info_parts infoRow'
  have hO0 : (w.alloc (.cells #[] 32)).ownsRow w.heap.size 32 3 (.slice (some ⟨w.heap.size, 0, none⟩) 0 0) 0 (flat []) := World.ownsRow_lit (base := w.heap.size) (size := 3) w #[] 0 (Nat.le_refl _) (Nat.zero_le _) rfl
  go_enter Try.func32, Try.ntmps32
  go_wp2
  go_loopw [4, 5] (fun v i wr => ∃ (q : Nat) (acc : List RowV) (a : Option Addr) (cap : Nat), i = .int .i64 q ∧ v = .slice a acc.length cap ∧ RsRel s q acc ∧ wr.ownsRow w.heap.size 32 3 (.slice a acc.length cap) acc.length (flat acc) ∧ Below w.heap.size w wr) (fun _ i _ => s.size - (intOf i).toNat)
  case atStart => exact ⟨0, [], _, 0, rfl, rfl, RsRel.zero s, hO0, bl1 _ _⟩
  case round =>
    obtain ⟨q, acc, a, cap, rfl, rfl, hS, hO, hb⟩ := hrel
    clear hO0
    have hq : q ≤ s.size := hS.1
    have hal : acc.length ≤ 120 := hS.2.1
    by_cases hlt : q < s.size
    case neg =>
      obtain rfl : q = s.size := by omega
      have E := Lib.hid hS.end_
      go_wp2_with fail
      go_ret2
      exact .inl ⟨acc, a, cap, E.out, hal, rfl, hO, hb⟩
    have hsub : (s.extract q s.size).size ≤ 1099511627776 := by simp; omega
    have Hsub := Lib.hid (rrAt_sub s q hq)
    go_wp2_with fail
    refine (specReadRow_any _ _ hsub).mono ?_
    rintro e w1 ⟨rfl, hb1⟩
    have hO1 := own_below hO hb1
    have hB1 := hb.trans (hb1.mono hb.size)
    clear hO hb hb1
    cases hv : rrAt (s.extract q s.size) 0 with
    | none =>
      have V := Lib.hid (rowRes_none hv)
      have E := Lib.hid (hS.bad hlt (by rw [Hsub.out, hv]; rfl))
      clear hv
      rw [V.out]
      go_wp2_with fail
      go_ret2
      exact .inr ⟨E.out, rfl, hB1.alloc hB1.size _⟩
    | some x =>
      obtain ⟨r, n⟩ := x
      have V := Lib.hid (rowRes_some hv)
      have Hr := Lib.hid (show rrAt s q = some (r, n + q) by rw [Hsub.out, hv]; rfl)
      clear hv
      rw [V.out]
      by_cases hl : acc.length < 120
      case neg =>
        have E := Lib.hid (hS.full hlt hl)
        have hd : ((acc.length : Int) == 120) = true := by rw [beq_iff_eq]; omega
        go_wp2_with fail
        go_ret2
        exact .inr ⟨E.out, rfl, hB1.alloc hB1.size _⟩
      have hd : ((acc.length : Int) == 120) = false := by rw [beq_eq_false_iff_ne]; omega
      have hS2 := hS.step hlt hl Hr.out
      obtain ⟨hq5a, hq5b, _⟩ := rrAt_bd hq Hr.out
      have hO2 := hO1.alloc (.cells #[.string r.key, .int .i64 r.tag, .string r.val] 32)
      have hB2 := hB1.alloc hB1.size (.cells #[.string r.key, .int .i64 r.tag, .string r.val] 32)
      clear hS
      go_wp2_with (at_builtin; refine wpList_append_own _ rfl _ _ 38 rfl w.heap.size 32 i0 (.agg #[.string ⟨#[]⟩, .int .i64 0, .string ⟨#[]⟩]) 3 40 Try.underlying38 hi hz0 hz1 hz2 rfl (by decide) _ _ _ rfl (hO2.alloc _) ⟨w1.heap.size + 1, 0, none⟩ 1 1 [.string r.key, .int .i64 r.tag, .string r.val] rfl rfl ?c1 ?c2 ?c3 ?c4 ?c5 ?_)
      case c1 =>
        intro j u hj
        match j, hj with
        | 0, hj => simp at hj; subst hj; simp [Addr.add, go_sem]
        | 1, hj => simp at hj; subst hj; simp [Addr.add, go_sem]
        | 2, hj => simp at hj; subst hj; simp [Addr.add, go_sem]
      case c2 =>
        intro u hu
        simp at hu
        rcases hu with rfl | rfl | rfl <;> rfl
      case c3 => unfold maxLen; omega
      case c4 => omega
      case c5 => have := hB1.size; simp; omega
      intro v' w3 hO3 hg3 _
      have hge := own_block_ge hO2
      have hB3 : Below w.heap.size w w3 := (hB2.alloc hB2.size _).grown hg3 (by have := hB1.size; simp; omega) (fun g e => hge g e)
      obtain ⟨a', cap', rfl⟩ := own_slice hO3
      have hO4 : w3.ownsRow w.heap.size 32 3 (.slice a' (acc ++ [r]).length cap') (acc ++ [r]).length (flat (acc ++ [r])) := by rw [flat_append]; simpa [flat, RowV.cells] using hO3
      have hnum := Lib.hid (show (acc ++ [r]).length = acc.length + 1 by simp)
      clear hO2 hO1 hB1 hB2 hO3 hg3
      go_wp2_with fail
      go_roundw
      case rel => exact ⟨n + q, acc ++ [r], a', cap', by go_num, by rw [hnum.out], hS2, hO4, hB3⟩
      case measure => simp [intOf]; omega
end Go.Proofs.Ytlalbcdbcalaiab
