/-
  spec.CutsOf by its contract. Condition: at most 1048576 rows.
-/
import Derived.Test.YtgkjpkkdcgndcaaCutsImpl
import Derived.Maps.AppendAt
namespace Go.Proofs.Ytgkjpkkdcgndcaa
open Go.RowKit

theorem compact_le (d : Array (List UInt8)) (k : Nat) : (Lib.compactUpTo d k).length ≤ k := by
  unfold Lib.compactUpTo
  rw [List.length_map]
  exact Nat.le_trans (List.length_filter_le _ _) (by simp)
theorem cut_step {K : List (List UInt8)} {M k : Nat} {s : List UInt8} (hK : K.Pairwise (· ≤ ·)) (hl : 0 < K.length) (hk : k < M - 1) (hs : (cutsL K M).toArray[k]! = s) :
    (Lib.compactUpTo (cutsL K M).toArray k = [] ∧ Lib.compactUpTo (cutsL K M).toArray (k + 1) = [s]) ∨ ∃ ys last b, Lib.compactUpTo (cutsL K M).toArray k = ys ++ [last] ∧ Op.bytesLess last s = b ∧ Lib.compactUpTo (cutsL K M).toArray (k + 1) = ys ++ [last] ++ (if b = true then [s] else []) := by
  by_cases h0 : k = 0
  · left
    subst h0
    refine ⟨rfl, ?_⟩
    rw [Lib.compactUpTo_succ, if_pos (Lib.keeps_lt_one _ 0 (by omega)), hs]; rfl
  · right
    obtain ⟨ys, hy⟩ := compact_last (cutsL K M).toArray k (by omega)
    refine ⟨ys, _, _, hy, rfl, ?_⟩
    have hle : (cutsL K M).toArray[k - 1]! ≤ (cutsL K M).toArray[k]! := by
      have := cutsL_le (j := k - 1) (n := M) hK hl (by omega)
      rwa [Nat.sub_add_cancel (by omega)] at this
    rw [Lib.compactUpTo_succ, hy, keeps_lt (by omega) hle, hs]
set_option maxRecDepth 100000 in
set_option maxHeartbeats 1000000 in
theorem specCutsOf_any (a : Option Addr) (n cap : Nat) (rs : List RowV) (N : Int) (w : World) (hm : n ≤ 1048576) (hok : ∀ r ∈ rs, r.Ok) (hR : Rd w w.heap.size 3 a n (flat rs)) :
    Calls Try.prog 139 #[.slice a n cap, .int .i64 N] w (CutsOut rs N w) := by
  obtain ⟨i0, hi, hz0, hz1, hz2⟩ := info_parts infoStr
  have hl := Lib.hid hR.rows_length
  have hw0 : Below w.heap.size w (w.alloc (.cells #[] 9)) := bl1 _ _
  have C0 := specRowsOk_any a n cap rs (w.alloc (.cells #[] 9)) hm hok ((hR.below hw0 (Nat.le_refl _)).more hw0.size)
  have hOn := Lib.hid (World.ownsRow_lit (base := w.heap.size) (e := 9) (size := 1) w #[] 0 (Nat.le_refl _) (Nat.zero_le _) rfl)
  cases hq : rowsOk rs
  case false =>
    rw [hq] at C0
    have E := Lib.hid (show (rowsOk rs && inP N) = false by rw [hq]; rfl)
    clear hq
    go_enter Try.func139, Try.ntmps139
    go_wp2_with fail
    refine C0.mono ?_
    rintro e w1 ⟨rfl, hb1⟩
    have hb := hw0.trans (hb1.mono hw0.size)
    go_wp2_with fail
    go_ret2
    refine ⟨none, 0, 0, ?_, hb, ?_⟩
    · rw [E.out]; rfl
    · rw [E.out]; exact own_none _ _
  rw [hq] at C0
  cases hp : inP N
  case false =>
    have E := Lib.hid (show (rowsOk rs && inP N) = false by rw [hp, Bool.and_false])
    have hp' := Lib.hid hp
    clear hq hp
    go_enter Try.func139, Try.ntmps139
    go_wp2_with fail
    refine C0.mono ?_
    rintro e w1 ⟨rfl, hb1⟩
    have hb0 := hw0.trans (hb1.mono hw0.size)
    go_wp2_with fail
    refine (l1In_b N false _ hp'.out).mono ?_
    rintro e w2 ⟨rfl, hb2⟩
    have hb := hb0.trans (hb2.mono hb0.size)
    go_wp2_with fail
    go_ret2
    refine ⟨none, 0, 0, ?_, hb, ?_⟩
    · rw [E.out]; rfl
    · rw [E.out]; exact own_none _ _
  have E := Lib.hid (show (rowsOk rs && inP N) = true by rw [hp, hq]; rfl)
  obtain ⟨hN1, hN8⟩ : 1 ≤ N ∧ N ≤ 8 := by simpa [inP] using hp
  obtain ⟨M, rfl⟩ : ∃ M : Nat, N = (M : Int) := ⟨N.toNat, by omega⟩
  have hp' := Lib.hid hp
  clear hq hp
  go_enter Try.func139, Try.ntmps139
  go_wp2_with fail
  refine C0.mono ?_
  rintro e w1 ⟨rfl, hb1⟩
  have hb0 := hw0.trans (hb1.mono hw0.size)
  go_wp2_with fail
  refine (l1In_b M true _ hp'.out).mono ?_
  rintro e w2 ⟨rfl, hb2⟩
  have hb := hb0.trans (hb2.mono hb0.size)
  have hO2 := own_below (own_below hOn.out hb1) hb2
  go_wp2_with fail
  refine (l3Sort_any a n cap rs w2 hm ((hR.below hb (Nat.le_refl _)).more hb.size)).mono ?_
  rintro e w3 ⟨bs, cs, rfl, hO3, hb3⟩
  have hB3 := hb.trans (hb3.mono hb.size)
  have hO2' := own_below hO2 hb3
  have hws : w.heap.size < w2.heap.size := by have := hb1.size; have := hb2.size; simp at *; omega
  have hS3 := Rd.of_own hO3
  have hne3 : ∀ b off, bs = some ⟨b, off, none⟩ → 0 < n → w2.heap.size ≤ b ∧ b < w3.heap.size := by
    intro b off e hn
    obtain ⟨g, e', h1, h2⟩ := own_form hO3 hn
    rw [e] at e'; injection e' with e'; injection e' with e'
    omega
  have hKs := Lib.hid (show sortedK rs = bytesL (keysB (sortL rs)) from rfl)
  have hKl := Lib.hid ((sortedK_length rs).trans hl.out)
  have hKp := Lib.hid (sortedK_sorted rs)
  have hRk := Lib.hid (show cutsR rs (M : Int).toNat = if n = 0 then [] else Lib.compact (cutsL (sortedK rs) M) by unfold cutsR; rw [hl.out]; rfl)
  generalize sortedK rs = K at *
  clear C0 hb1 hb2 hb0 hO2 hw0 hOn hO3
  go_wp2_with fail
  go_loopw [6, 8] (fun v i wr => ∃ (k m : Nat) (ac : Option Addr) (cc : Nat) (acc : List (List UInt8)), k + 1 ≤ M ∧ (n = 0 → k = 0) ∧ i = .int .i64 (k + 1 : Nat) ∧ v = .slice ac m cc ∧ wr.ownsRow w.heap.size 9 1 (.slice ac m cc) m (acc.map encStr) ∧ Hid (acc = Lib.compactUpTo (cutsL K M).toArray k) ∧ (∀ g, (Value.slice ac m cc).ownBlock = some g → g = w.heap.size ∨ w3.heap.size ≤ g) ∧ Rd wr w3.heap.size 3 bs n (flat (sortL rs)) ∧ Below w.heap.size w wr ∧ w3.heap.size ≤ wr.heap.size) (fun _ i _ => M - (intOf i).toNat)
  case atStart => exact ⟨0, 0, _, 0, [], by omega, fun _ => rfl, rfl, rfl, hO2', Lib.hid rfl, fun g e => .inl (by simpa [Value.ownBlock] using e.symm), hS3, hB3, Nat.le_refl _⟩
  case round =>
    obtain ⟨k, m, ac, cc, acc, hk, hk0, rfl, rfl, hO, hacc, hne, hS, hBw, hsz⟩ := hrel
    by_cases hlt : k + 1 < M
    case neg =>
      have hd : decide (((k + 1 : Nat) : Int) < (M : Int)) = false := by simp; omega
      have hE : cutsR rs (M : Int).toNat = acc := by
        rw [hRk.out, hacc.out]
        split
        · rename_i h; rw [hk0 h]; rfl
        · rw [Lib.compact, cutsL_length, show M - 1 = k by omega]
      have HE := Lib.hid hE
      clear hE
      go_wp2_with fail
      go_ret2
      refine ⟨ac, m, cc, ?_, hBw, ?_⟩
      · rw [E.out]; rfl
      · rw [E.out, if_pos rfl, HE.out]; exact hO
    by_cases hn0 : n = 0
    · have hd : decide (0 < (n : Int)) = false := by simp; omega
      have hE : cutsR rs (M : Int).toNat = acc := by
        rw [hRk.out, hacc.out, if_pos hn0, hk0 hn0]; rfl
      have HE := Lib.hid hE
      clear hE
      go_wp2_with fail
      go_ret2
      refine ⟨ac, m, cc, ?_, hBw, ?_⟩
      · rw [E.out]; rfl
      · rw [E.out, if_pos rfl, HE.out]; exact hO
    have hn : 0 < n := by omega
    obtain ⟨Q, s, hQn, ⟨hW0, hW1⟩, hQ, hs⟩ := pick_facts (K := K) hlt (by omega : M ≤ 8) hn hm hKl.out
    obtain ⟨bb, bo, r, rfl, hbb, hr, c0, _, _⟩ := hS.row hQn
    obtain ⟨hbs1, hbs2⟩ := hne3 bb bo rfl hn
    have hsr : s = r.key.data.toList := by
      have e1 : K[Q]? = some r.key.data.toList := by rw [hKs.out]; simp [bytesL, keysB, hr]
      rw [hQ, hs] at e1; injection e1
    have hds : (cutsL K M).toArray[k]! = r.key.data.toList := by
      rw [cutsL_get (by omega), hKl.out, ← hsr]
      have := (List.getElem?_eq_some_iff.1 hs)
      obtain ⟨h1, h2⟩ := this
      rw [getElem!_pos K _ h1, h2]
    have hstep := cut_step hKp.out (by rw [hKl.out]; exact hn) (show k < M - 1 by omega) hds
    rw [← hacc.out] at hstep
    have hmk : m ≤ k := by
      have h1 := hO.1
      have h2 := compact_le (cutsL K M).toArray k
      rw [← hacc.out] at h2
      simp at h1; omega
    have hml : acc.length = m := by have := hO.1; simpa using this
    clear hs hsr hds hr hQ
    rcases hstep with ⟨he, hnx⟩ | ⟨ys, last, b, he, hbl, hnx⟩
    · have Hn := Lib.hid hnx
      subst he
      obtain rfl : 0 = m := hml
      clear hnx hacc
      go_wp2_with (at_builtin; refine wpList_append_own_at _ rfl _ _ 25 rfl w.heap.size 9 i0 (.string ⟨#[]⟩) 1 16 Try.underlying25 hi hz0 hz1 hz2 rfl (by decide) _ _ _ rfl (hO.alloc _) ⟨wr.heap.size, 0, none⟩ 1 1 [.string r.key] rfl rfl (cell_one_new _ _ _) ?c2 ?c3 ?c4 ?c5 ?_)
      case c2 =>
        intro u hu
        simp at hu
        subst hu; rfl
      case c3 => unfold maxLen; omega
      case c4 => omega
      case c5 => have := hBw.size; simp; omega
      intro v' w4 hO4 hg4 _ hat
      have hne4 : ∀ g, v'.ownBlock = some g → g = w.heap.size ∨ w3.heap.size ≤ g := by
        intro g hg
        rcases hat with h | h
        · exact hne g (h ▸ hg)
        · rw [hg] at h; injection h with h; try simp at h
          right; omega
      obtain ⟨a', cap', rfl⟩ := own_slice' hO4
      have hb4 := (hBw.alloc hBw.size (.cells #[.string r.key] 9)).grown hg4 (by have := hBw.size; simp; omega) (fun q e => (own_ge hO q e).1)
      have hsz4 : w3.heap.size ≤ w4.heap.size := by have := hg4.size; simp at this; omega
      have hS4 := (hS.below ((Below.refl w3.heap.size wr).alloc hsz (.cells #[.string r.key] 9)) (Nat.le_refl _)).gb hg4 (by simp; omega) (fun b' off e h => by
        injection e with e; injection e with e
        have := hne b' h.symm
        omega)
      have hO5 : w4.ownsRow w.heap.size 9 1 (.slice a' 1 cap') 1 ([r.key.data.toList].map encStr) := by simpa [encStr] using hO4
      clear hO4 hg4 hO hat
      go_wp2_with fail
      go_roundw
      case rel => exact ⟨k + 1, 1, a', cap', _, by omega, fun h => absurd h hn0, by go_num, rfl, hO5, Lib.hid Hn.out.symm, hne4, hS4, hb4, hsz4⟩
      case measure => simp [intOf]; omega
    subst he
    obtain rfl : ys.length + 1 = m := by rw [← hml]; simp
    obtain ⟨ga, rfl, _, _⟩ := own_form hO (by omega)
    have c1 : wr.cell? ⟨ga, ys.length, none⟩ = some (.string ⟨last.toArray⟩) := by rw [hO.cellAt ys.length (by omega)]; simp
    rw [← ByteArray.toList_eq] at hbl
    generalize ys.length = q at *
    have hq0 : ((q : Int) + 1 == 0) = false := by rw [beq_eq_false_iff_ne]; omega
    clear hacc
    cases b
    · rw [if_neg (by simp), List.append_nil] at hnx
      have Hn := Lib.hid hnx
      clear hnx
      go_wp2_with fail
      go_roundw
      case rel => exact ⟨k + 1, q + 1, _, cc, _, by omega, fun h => absurd h hn0, by go_num, rfl, hO, Lib.hid Hn.out.symm, hne, hS, hBw, hsz⟩
      case measure => simp [intOf]; omega
    rw [if_pos rfl] at hnx
    have Hn := Lib.hid hnx
    clear hnx
    go_wp2_with (at_builtin; refine wpList_append_own_at _ rfl _ _ 25 rfl w.heap.size 9 i0 (.string ⟨#[]⟩) 1 16 Try.underlying25 hi hz0 hz1 hz2 rfl (by decide) _ _ _ rfl (hO.alloc _) ⟨wr.heap.size, 0, none⟩ 1 1 [.string r.key] rfl rfl (cell_one_new _ _ _) ?c2 ?c3 ?c4 ?c5 ?_)
    case c2 =>
      intro u hu
      simp at hu
      subst hu; rfl
    case c3 => unfold maxLen; omega
    case c4 => omega
    case c5 => have := hBw.size; simp; omega
    intro v' w4 hO4 hg4 _ hat
    have hne4 : ∀ g, v'.ownBlock = some g → g = w.heap.size ∨ w3.heap.size ≤ g := by
      intro g hg
      rcases hat with h | h
      · exact hne g (h ▸ hg)
      · rw [hg] at h; injection h with h; try simp at h
        right; omega
    obtain ⟨a', cap', rfl⟩ := own_slice' hO4
    have hb4 := (hBw.alloc hBw.size (.cells #[.string r.key] 9)).grown hg4 (by have := hBw.size; simp; omega) (fun q e => (own_ge hO q e).1)
    have hsz4 : w3.heap.size ≤ w4.heap.size := by have := hg4.size; simp at this; omega
    have hS4 := (hS.below ((Below.refl w3.heap.size wr).alloc hsz (.cells #[.string r.key] 9)) (Nat.le_refl _)).gb hg4 (by simp; omega) (fun b' off e h => by
      injection e with e; injection e with e
      have := hne b' h.symm
      omega)
    have hO5 : w4.ownsRow w.heap.size 9 1 (.slice a' (q + 1 + 1) cap') (q + 1 + 1) ((ys ++ [last] ++ [r.key.data.toList]).map encStr) := by simpa [encStr] using hO4
    clear hO4 hg4 hO hat c1
    go_wp2_with fail
    go_roundw
    case rel => exact ⟨k + 1, q + 1 + 1, a', cap', _, by omega, fun h => absurd h hn0, by go_num, rfl, hO5, Lib.hid Hn.out.symm, hne4, hS4, hb4, hsz4⟩
    case measure => simp [intOf]; omega
end Go.Proofs.Ytgkjpkkdcgndcaa
