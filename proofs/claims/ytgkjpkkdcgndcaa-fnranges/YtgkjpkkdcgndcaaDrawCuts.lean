/-
  The draws of cuts: (*l1Rd).cuts and spec.DrawRangeOf. Conditions: those of each statement.
-/
import Derived.Test.YtgkjpkkdcgndcaaDrawRows
import Derived.Test.YtgkjpkkdcgndcaaCutsSpec
import Derived.Test.YtgkjpkkdcgndcaaAppendAny
namespace Go.Proofs.Ytgkjpkkdcgndcaa
open Go.RowKit

def cutS (rs : List RowV) (N : Int) : List ByteArray := (if (rowsOk rs && inP N) = true then cutsR rs N.toNat else []).map fun b => ⟨b.toArray⟩
theorem cutS_le (rs : List RowV) (N : Int) : (cutS rs N).length ≤ 8 := by
  unfold cutS
  rw [List.length_map]
  split
  · rename_i h
    have hN : 1 ≤ N ∧ N ≤ 8 := by
      have h2 : inP N = true := by
        cases h3 : inP N
        · rw [h3, Bool.and_false] at h; cases h
        · rfl
      simpa [inP] using h2
    unfold cutsR
    split
    · simp
    · refine Nat.le_trans (Lib.compact_length_le _) ?_
      rw [cutsL_length]; omega
  · simp
theorem CutsOut.own {rs : List RowV} {N : Int} {w w' : World} {e : Ending} (h : CutsOut rs N w e w') : ∃ a c, e = .returned (.tuple #[.slice a (cutS rs N).length c, .bool (rowsOk rs && inP N)]) ∧ Below w.heap.size w w' ∧ w'.ownsRow w.heap.size 9 1 (.slice a (cutS rs N).length c) (cutS rs N).length (strC (cutS rs N)) := by
  obtain ⟨a, m, c, he, hb, hO⟩ := h
  have hm : m = (cutS rs N).length := by
    have := hO.1
    rw [List.length_map, Nat.mul_one] at this
    rw [← this, cutS, List.length_map]
  have hs : (if (rowsOk rs && inP N) = true then cutsR rs N.toNat else []).map encStr = strC (cutS rs N) := by
    rw [cutS, strC, List.map_map]; rfl
  subst hm
  rw [hs] at hO
  exact ⟨a, c, he, hb, hO⟩
theorem getD_mem {α : Type} [Inhabited α] (K : List α) (i : Nat) : K[i]! ∈ K ∨ K[i]! = default := by
  rcases Nat.lt_or_ge i K.length with h | h
  · rw [getElem!_pos K i h]; exact .inl (List.getElem_mem h)
  · rw [getElem!_neg K i (by omega)]; exact .inr rfl
theorem cutS_max {rs : List RowV} (N : Int) (hok : ∀ r ∈ rs, r.Ok) : MaxS (cutS rs N) := by
  intro s hs
  unfold cutS at hs
  obtain ⟨b, hb, rfl⟩ := List.mem_map.1 hs
  have key : b ∈ sortedK rs ∨ b = [] := by
    split at hb
    · unfold cutsR at hb
      split at hb
      · cases hb
      · unfold Lib.compact Lib.compactUpTo at hb
        obtain ⟨j, hj, rfl⟩ := List.mem_map.1 hb
        have hj2 := List.mem_range.1 (List.mem_filter.1 hj).1
        rw [cutsL_length] at hj2
        rw [cutsL_get hj2]
        exact getD_mem _ _
    · cases hb
  rcases key with h | h
  · unfold sortedK bytesL keysB at h
    obtain ⟨x, hx, rfl⟩ := List.mem_map.1 h
    obtain ⟨r, hr, rfl⟩ := List.mem_map.1 hx
    have := (hok r ((sortL_perm' rs).mem_iff.1 hr)).1
    exact this
  · subst h
    exact Nat.zero_le _
set_option maxRecDepth 100000 in
set_option maxHeartbeats 4000000 in
theorem cuts_any (g n : Nat) (w : World) (h : Rdr w g n) :
    Calls Try.prog 76 #[.pointer (some ⟨g, 0, none⟩)] w fun e w' => ∃ (ss : List ByteArray) (a : Option Addr) (c : Nat), e = .returned (.slice a ss.length c) ∧ ss.length ≤ 9 ∧ MaxS ss ∧ w'.ownsRow w.heap.size 9 1 (.slice a ss.length c) ss.length (strC ss) ∧ Drew w w' g n := by
  obtain ⟨i0, hi, hz0, hz1, hz2⟩ := info_parts infoStr
  have hg0 := h.lt
  go_enter Try.func76, Try.ntmps76
  go_wp2_with fail
  refine (rows_lit g n 9 _ _ h (by omega) (by omega) (by omega)).mono ?_
  rintro e w1 ⟨l, lb, lc, hll, hok, rfl, hO1, hD1⟩
  have s1 := hD1.size
  go_wp2_with fail
  refine (below_lit g n 4 _ _ hD1.rdr (by omega) (by omega) (by omega)).mono ?_
  rintro e w2 ⟨x, hx, rfl, hD2⟩
  have hO2 := hD2.own hO1 hg0
  have hD := hD1.trans hD2
  have HO := Lib.hid (Rd.of_own hO2)
  clear hO1 hO2 hD1 hD2
  go_wp2_with fail
  refine (specCutsOf_any _ l.length lc l (1 + (x : Int)) w2 (by omega) hok HO.out).mono ?_
  rintro e w3 hC
  obtain ⟨ca, cc, rfl, hb3, hO3⟩ := hC.own
  have hD3 := hD.and hb3
  have hO3 := own_base' hO3 (show w.heap.size ≤ w2.heap.size from hD.size)
  have hle := cutS_le l (1 + (x : Int))
  have hmx := cutS_max (1 + (x : Int)) hok
  generalize cutS l (1 + (x : Int)) = ss at *
  clear hC hD hb3 HO
  go_wp2_with fail
  refine (once_lit g n 20 _ _ hD3.rdr (by omega) (by omega) (by omega)).mono ?_
  rintro e w4 ⟨b, rfl, hD4⟩
  have hO4 := hD4.own hO3 hg0
  have hD5 := hD3.trans hD4
  clear hD3 hD4 hO3
  cases b
  · go_wp2_with fail
    go_ret
    exact ⟨ss, ca, cc, rfl, by omega, hmx, hO4, hD5⟩
  · by_cases h0 : 0 < ss.length
    · have hd : decide (0 < ss.length) = true := by simpa using h0
      obtain ⟨cb, rfl, _, _⟩ := own_form hO4 (by omega)
      obtain ⟨s0, hs0⟩ : ∃ s, ss[0]? = some s := ⟨_, List.getElem?_eq_getElem h0⟩
      have c0 : w4.cell? ⟨cb, 0, none⟩ = some (.string s0) := by
        rw [hO4.cellAt 0 (by omega)]
        simp [strC, hs0]
      have hm0 : s0 ∈ ss := List.mem_of_getElem? hs0
      clear hs0
      go_wp2_with (at_builtin; refine wpList_append_own _ rfl _ _ 25 rfl w.heap.size 9 i0 (.string ⟨#[]⟩) 1 16 Try.underlying25 hi hz0 hz1 hz2 rfl (by decide) _ _ _ rfl (hO4.alloc _) ⟨w4.heap.size, 0, none⟩ 1 1 [.string s0] rfl rfl ?c1 ?c2 ?c3 ?c4 ?c5 ?_)
      case c1 =>
        intro j u hj
        match j, hj with
        | 0, hj => simp at hj; subst hj; simp [Addr.add, go_sem]
      case c2 =>
        intro u hu
        simp at hu
        subst hu; rfl
      case c3 => unfold maxLen; omega
      case c4 => omega
      case c5 => have := hD5.size; simp; omega
      intro v' w6 hO6 hg6 _
      obtain ⟨a', cap', rfl⟩ := own_slice' hO6
      have hO7 : w6.ownsRow w.heap.size 9 1 (.slice a' (ss ++ [s0]).length cap') (ss ++ [s0]).length (strC (ss ++ [s0])) := by
        simpa [strC] using hO6
      have hD6 : Drew w w6 g n := (hD5.alloc _).grown hg0 hg6 (fun q e => (own_ge hO4 q e).1)
      have He := Lib.hid (show ss.length + 1 = (ss ++ [s0]).length by simp)
      have hle2 : (ss ++ [s0]).length ≤ 9 := by simp; omega
      have hmx2 : MaxS (ss ++ [s0]) := fun x hx => by
        rcases List.mem_append.1 hx with hx | hx
        · exact hmx x hx
        · rw [List.mem_singleton.1 hx]; exact hmx _ hm0
      clear hO6 hg6 hO4 hD5
      rw [He.out]
      generalize ss ++ [s0] = s2 at *
      go_wp2_with fail
      go_ret
      exact ⟨s2, a', cap', rfl, hle2, hmx2, hO7, hD6⟩
    · have hd : decide (0 < ss.length) = false := by simpa using h0
      go_wp2_with fail
      go_ret
      exact ⟨ss, ca, cc, rfl, by omega, hmx, hO4, hD5⟩
set_option maxRecDepth 100000 in
theorem drawRangeOf_any (a : Option Addr) (len cap : Nat) (w : World) (hl : len ≤ 1048576) (h : IsBy w w.heap.size a len) :
    Calls Try.prog 18 #[.slice a len cap] w fun e w' => ∃ (ss : List ByteArray) (b : Option Addr) (c : Nat) (k : ByteArray), ss.length ≤ 9 ∧ MaxS ss ∧ k.size ≤ 5 ∧ e = .returned (.tuple #[.slice b ss.length c, .string k]) ∧ Rd w' w'.heap.size 1 b ss.length (strC ss) ∧ Below w.heap.size w w' := by
  go_enter Try.func18, Try.ntmps18
  go_wp2_with fail
  refine (l1Open_any a len cap w hl h).mono ?_
  rintro e w1 ⟨rfl, hR1, hb1⟩
  have hg0 := hR1.lt
  go_wp2_with fail
  refine (cuts_any w.heap.size len _ hR1).mono ?_
  rintro e w2 ⟨ss, b, c, rfl, hle, hmx, hO, hD⟩
  have hb2 := below_drew hb1 hD
  go_wp2_with fail
  refine (key_any w.heap.size len _ hD.rdr).mono ?_
  rintro e w3 ⟨k, hk, rfl, hD3⟩
  have R3 := Rd.of_own (hD3.own hO hg0)
  have hb3 := below_drew hb1 (hD.trans hD3)
  clear hD hD3 hO hb2 hb1 hR1
  go_wp2_with fail
  go_ret2
  exact ⟨ss, b, c, k, hle, hmx, hk, rfl, R3, hb3⟩
end Go.Proofs.Ytgkjpkkdcgndcaa
