/-
  impl.CutsOf by its contract. Condition: at most 1048576 rows.
-/
import Derived.Test.YtjnljobncdpkkabCutsList
import Derived.Test.YtjnljobncdpkkabSortedList
import Derived.Test.YtjnljobncdpkkabShelf
import Derived.Deep.QuietTactic
import Derived.Lib.RowBridge
namespace Go.Proofs.Ytjnljobncdpkkab
open Go.RowKit

def inP (N : Int) : Bool := decide (1 ≤ N) && decide (N ≤ 8)
theorem partsOk_b (N : Int) (b : Bool) (w : World) (h : inP N = b) : Calls Try.prog 65 #[.int .i64 N] w fun e w' => e = .returned (.bool b) ∧ Below w.heap.size w w' := by
  unfold inP at h
  have E := Lib.hid h
  clear h
  by_cases h1 : 1 ≤ N
  · have d1 : decide (1 ≤ N) = true := by simp [h1]
    go_enter Try.func65, Try.ntmps65
    go_wp2
    go_ret
    exact ⟨ret_bool (by rw [← E.out, d1, Bool.true_and]), Below.refl _ _⟩
  · have d1 : decide (1 ≤ N) = false := by simp [h1]
    go_enter Try.func65, Try.ntmps65
    go_wp2
    go_ret
    exact ⟨ret_bool (by rw [← E.out, d1, Bool.false_and]), Below.refl _ _⟩
theorem l1In_b (N : Int) (b : Bool) (w : World) (h : inP N = b) : Calls Try.prog 67 #[.int .i64 N, .int .i64 1, .int .i64 8] w fun e w' => e = .returned (.bool b) ∧ Below w.heap.size w w' := by
  unfold inP at h
  have E := Lib.hid h
  clear h
  by_cases h1 : 1 ≤ N
  · have d1 : decide (1 ≤ N) = true := by simp [h1]
    go_enter Try.func67, Try.ntmps67
    go_wp2
    go_ret
    exact ⟨ret_bool (by rw [← E.out, d1, Bool.true_and]), Below.refl _ _⟩
  · have d1 : decide (1 ≤ N) = false := by simp [h1]
    go_enter Try.func67, Try.ntmps67
    go_wp2
    go_ret
    exact ⟨ret_bool (by rw [← E.out, d1, Bool.false_and]), Below.refl _ _⟩
/-- What CutsOf returns: nil and false, or the cuts in memory of its own. -/
def CutsOut (rs : List RowV) (N : Int) (w : World) (e : Ending) (w' : World) : Prop :=
  ∃ a m c, e = .returned (.tuple #[.slice a m c, .bool (rowsOk rs && inP N)]) ∧ Below w.heap.size w w' ∧ w'.ownsRow w.heap.size 9 1 (.slice a m c) m ((if (rowsOk rs && inP N) = true then cutsR rs N.toNat else []).map encStr)
theorem own_none (w : World) (base : Nat) : w.ownsRow base 9 1 (.slice none 0 0) 0 (([] : List (List UInt8)).map encStr) := World.ownsRow_nil w base _ _
/-- The place of a pick, as the program reckons it. -/
theorem pick_facts {K : List (List UInt8)} {k n M : Nat} (hk : k + 1 < M) (hM : M ≤ 8) (hn : 0 < n) (hm : n ≤ 1048576) (hl : K.length = n) :
    ∃ (Q : Nat) (s : List UInt8), Q < n ∧ (wrap64 (((k : Int) + 1) * (n : Int)) = ((k : Int) + 1) * (n : Int) ∧ wrap64 ((((k : Int) + 1) * (n : Int)).tdiv (M : Int)) = (Q : Int)) ∧ Q = (k + 1) * n / M ∧ K[(k + 1) * n / M]? = some s := by
  have hQ : (k + 1) * n / M < n := pick_lt hn hk
  have e1 : ((k : Int) + 1) * (n : Int) = (((k + 1) * n : Nat) : Int) := by push_cast; rfl
  have hb : (k + 1) * n ≤ 8 * 1048576 := Nat.mul_le_mul (by omega) hm
  have e2 : (((k + 1) * n : Nat) : Int).tdiv (M : Int) = (((k + 1) * n / M : Nat) : Int) := rfl
  refine ⟨(k + 1) * n / M, K[(k + 1) * n / M]'(by omega), hQ, ⟨?_, ?_⟩, rfl, List.getElem?_eq_getElem (by omega)⟩
  · rw [e1]; generalize (k + 1) * n = P at *; unfold wrap64; omega
  · rw [e1, e2]; generalize (k + 1) * n / M = P at *; unfold wrap64; omega
theorem keyAt {K : List (List UInt8)} {Q : Nat} {s : List UInt8} (h : K[Q]? = some s) : (K.map encStr)[Q]? = some (.string ⟨s.toArray⟩) := by simp [h]
theorem cuts_take_succ {K : List (List UInt8)} {k n M : Nat} {s : List UInt8} (hk : k < M - 1) (h : K[(k + 1) * n / M]? = some s) (hl : K.length = n) : ((cutsL K M).take k).map encStr ++ [.string ⟨s.toArray⟩] = ((cutsL K M).take (k + 1)).map encStr := by
  have hkl : k < (cutsL K M).length := by rw [cutsL_length]; exact hk
  rw [List.take_succ_eq_append_getElem hkl, List.map_append]
  have : (cutsL K M)[k] = s := by
    have h1 := (List.getElem?_eq_some_iff.1 h).1
    simp only [cutsL, List.getElem_map, List.getElem_range, hl]
    rw [getElem!_pos K _ h1]
    rw [List.getElem?_eq_getElem h1] at h; injection h
  rw [this]; rfl
theorem own_compact {w : World} {base e g cap q : Nat} {zs ts rest : List (List UInt8)} (h : w.ownsRow base e 1 (.slice (some ⟨g, 0, none⟩) zs.length cap) zs.length (zs.map encStr)) (hl : (ts ++ rest).length = zs.length) :
    (Sort.putRow encStr (Sort.ahead w q) g 0 (ts ++ rest).toArray).ownsRow base e 1 (.slice (some ⟨g, 0, none⟩) ts.length cap) ts.length (ts.map encStr) ∧ w.grownBy (Sort.putRow encStr (Sort.ahead w q) g 0 (ts ++ rest).toArray) (some g) := by
  rcases h.2 with ⟨h0, _⟩ | ⟨g', cap', cur, hv, hgb, hbk, h1, h2, h3, h4⟩
  · cases h0
  obtain ⟨rfl, rfl⟩ : g = g' ∧ cap = cap' := by injection hv with e1 _ e3; injection e1 with e1; injection e1 with e1; exact ⟨e1, e3⟩
  have hh := heap_sorted (n := q) (os := #[]) (ts ++ rest).toArray hbk
  have hg := grownBy_sorted (w := w) (g := g) (n := q) (os := #[]) (ts ++ rest).toArray
  rw [Sort.grow_empty] at hh hg
  refine ⟨⟨by simp, .inr ⟨g, cap, _, rfl, hgb, hh, ?_, h2, by simp [Sort.putCells, h3], ?_⟩⟩, hg⟩
  · have : ts.length ≤ (ts ++ rest).length := by simp
    omega
  · have ht := take_putCells cur (ts ++ rest) (by omega)
    rw [Nat.mul_one]
    have e : ((Sort.putCells encStr 0 (ts ++ rest).toArray cur).toList.take (ts ++ rest).length).take ts.length = (Sort.putCells encStr 0 (ts ++ rest).toArray cur).toList.take ts.length := by
      rw [List.take_take, Nat.min_eq_left (by simp)]
    rw [← e, ht]; simp
set_option maxRecDepth 100000 in
set_option maxHeartbeats 1000000 in
theorem implCutsOf_any (a : Option Addr) (n cap : Nat) (rs : List RowV) (N : Int) (w : World) (hm : n ≤ 1048576) (hok : ∀ r ∈ rs, r.Ok) (hR : Rd w w.heap.size 3 a n (flat rs)) :
    Calls Try.prog 20 #[.slice a n cap, .int .i64 N] w (CutsOut rs N w) := by
  obtain ⟨i0, hi, hz0, hz1, hz2⟩ := info_parts infoStr
  have hl := Lib.hid hR.rows_length
  have C0 := implSorted_any a n cap rs w hm hok hR
  unfold SortedOut sortedR at C0
  cases hq : rowsOk rs
  case false =>
    rw [hq, if_neg (by simp)] at C0
    have E := Lib.hid (show (rowsOk rs && inP N) = false by rw [hq]; rfl)
    clear hq
    go_enter Try.func20, Try.ntmps20
    go_wp2_with fail
    refine C0.mono ?_
    rintro e w1 ⟨b0, c0, rfl, hb1, _⟩
    go_wp2_with fail
    go_ret2
    refine ⟨none, 0, 0, ?_, hb1, ?_⟩
    · rw [E.out]; rfl
    · rw [E.out]; exact own_none _ _
  rw [hq, if_pos rfl, sortL_length, hl.out] at C0
  cases hp : inP N
  case false =>
    have E := Lib.hid (show (rowsOk rs && inP N) = false by rw [hp, Bool.and_false])
    have hp' := Lib.hid hp
    clear hq hp
    go_enter Try.func20, Try.ntmps20
    go_wp2_with fail
    refine C0.mono ?_
    rintro e w1 ⟨b0, c0, rfl, hb1, _⟩
    go_wp2_with fail
    refine (partsOk_b N false _ hp'.out).mono ?_
    rintro e w2 ⟨rfl, hb2⟩
    have hb := hb1.trans (hb2.mono hb1.size)
    go_wp2_with fail
    go_ret2
    refine ⟨none, 0, 0, ?_, hb, ?_⟩
    · rw [E.out]; rfl
    · rw [E.out]; exact own_none _ _
  have E := Lib.hid (show (rowsOk rs && inP N) = true by rw [hp, hq]; rfl)
  obtain ⟨hN1, hN8⟩ : 1 ≤ N ∧ N ≤ 8 := by simpa [inP] using hp
  obtain ⟨M, rfl⟩ : ∃ M : Nat, N = (M : Int) := ⟨N.toNat, by omega⟩
  have hp' := Lib.hid hp
  clear hq hp
  by_cases hn0 : n = 0
  · have hr0 : cutsR rs (M : Int).toNat = [] := if_pos (by rw [hl.out, hn0])
    have hr0' := Lib.hid hr0
    clear hr0
    subst hn0
    go_enter Try.func20, Try.ntmps20
    go_wp2_with fail
    refine C0.mono ?_
    rintro e w1 ⟨b0, c0, rfl, hb1, _⟩
    go_wp2_with fail
    refine (partsOk_b M true _ hp'.out).mono ?_
    rintro e w2 ⟨rfl, hb2⟩
    have hb := hb1.trans (hb2.mono hb1.size)
    go_wp2_with fail
    go_ret2
    refine ⟨none, 0, 0, ?_, hb, ?_⟩
    · rw [E.out]; rfl
    · rw [E.out, if_pos rfl, hr0'.out]; exact own_none _ _
  have hK0 : 0 < n := by omega
  have hn0' : ((n : Int) == 0) = false := by rw [beq_eq_false_iff_ne]; omega
  go_enter Try.func20, Try.ntmps20
  go_wp2_with fail
  refine C0.mono ?_
  rintro e w1 ⟨b0, c0, rfl, hb1, hS1⟩
  obtain ⟨gs, rfl, _, _⟩ := own_form hS1 hK0
  go_wp2_with fail
  refine (partsOk_b M true _ hp'.out).mono ?_
  rintro e w3 ⟨rfl, hb2⟩
  have hB3 := hb1.trans (hb2.mono hb1.size)
  have hO3 := own_below hS1 hb2
  have hKl := Lib.hid ((sortedK_length rs).trans hl.out)
  have hKg := Lib.hid (show ∀ Q r, (sortL rs)[Q]? = some r → (sortedK rs)[Q]? = some r.key.data.toList from fun Q r h => sortedK_get h)
  have hSl := Lib.hid ((sortL_length rs).trans hl.out)
  have hRk := Lib.hid (show cutsR rs (M : Int).toNat = Lib.compact (cutsL (sortedK rs) M) from if_neg (by rw [hl.out]; exact hn0))
  generalize sortedK rs = K at *
  clear C0 hb1 hb2 hS1
  go_wp2_with fail
  go_loopw [8, 9] (fun v i wr => ∃ (k : Nat) (ac : Option Addr) (cc : Nat), k + 1 ≤ M ∧ i = .int .i64 (k + 1 : Nat) ∧ v = .slice ac k cc ∧ wr.ownsRow w3.heap.size 9 1 (.slice ac k cc) k (((cutsL K M).take k).map encStr) ∧ Below w3.heap.size w3 wr) (fun _ i _ => M - (intOf i).toNat)
  case atStart => exact ⟨0, none, 0, by omega, rfl, rfl, own_none _ _, Below.refl _ _⟩
  case round =>
    obtain ⟨k, ac, cc, hk, rfl, rfl, hO, hbw⟩ := hrel
    by_cases hlt : k + 1 < M
    case neg =>
      have hcl : (cutsL K M).length = k := by rw [cutsL_length]; omega
      rw [List.take_of_length_le (by omega)] at hO
      have hBw := hB3.trans (hbw.mono hB3.size)
      have hbase := Nat.le_trans hB3.size (Nat.le_refl w3.heap.size)
      by_cases hk0 : k = 0
      · subst hk0
        have hnil := List.eq_nil_of_length_eq_zero hcl
        go_wp2_with fail
        refine (Try.slices_Compact_string_empty ac cc wr).mono ?_
        rintro e w4 ⟨rfl, rfl⟩
        go_wp2_with fail
        go_ret2
        refine ⟨ac, 0, cc, ?_, hBw, ?_⟩
        · rw [E.out]; rfl
        · rw [E.out, if_pos rfl, hRk.out, hnil]
          rw [hnil] at hO
          exact own_base' hO hbase
      obtain ⟨g, rfl, hg1, hg2⟩ := own_form hO (by omega)
      rcases hO.2 with ⟨h0, _⟩ | ⟨g', cap', cur, hv, hgb, hbk, h1, h2, h3, h4⟩
      · cases h0
      obtain ⟨rfl, rfl⟩ : g = g' ∧ cc = cap' := by injection hv with e1 _ e3; injection e1 with e1; injection e1 with e1; exact ⟨e1, e3⟩
      have C := Try.slices_Compact_string g 0 cc (cutsL K M) wr (holds_of_block hbk (by rw [hcl]; simpa using h4)) (by omega) (by omega)
      rw [hcl] at C
      clear hv hbk h3 h4
      go_wp2_with fail
      refine C.mono ?_
      rintro e w4 ⟨rfl, q, rfl⟩
      obtain ⟨hO5, hg5⟩ := own_compact (q := q) (ts := Lib.compact (cutsL K M)) (rest := List.replicate (k - (Lib.compact (cutsL K M)).length) []) (hcl ▸ hO) (by have := Lib.compact_length_le (cutsL K M); simp; omega)
      have hB5 := hBw.grown hg5 hBw.size (fun q e => by injection e with e; have := hB3.size; omega)
      generalize Sort.putRow encStr (Sort.ahead wr q) g 0 _ = w5 at *
      generalize hts : Lib.compact (cutsL K M) = ts at *
      clear C
      go_wp2_with fail
      go_ret2
      refine ⟨some ⟨g, 0, none⟩, ts.length, cc, ?_, hB5, ?_⟩
      · rw [E.out]; rfl
      · rw [E.out, if_pos rfl, hRk.out]
        exact own_base' hO5 hbase
    obtain ⟨Q, s, hQn, ⟨hW0, hW1⟩, hW2, hs⟩ := pick_facts (K := K) (by omega : k + 1 < M) (by omega : M ≤ 8) hK0 hm hKl.out
    have Hs := Lib.hid hs
    clear hs
    have HQ := Lib.hid hW2
    clear hW2
    have hO3' := own_below hO3 hbw
    have c0 : wr.cell? ⟨gs, Q * 3, none⟩ = some (.string ⟨s.toArray⟩) := by
      obtain ⟨r, hr⟩ : ∃ r, (sortL rs)[Q]? = some r := ⟨_, List.getElem?_eq_getElem (by rw [hSl.out]; exact hQn)⟩
      have h2 := hKg.out Q r hr
      rw [HQ.out, Hs.out] at h2
      injection h2 with h2
      have hk : (⟨s.toArray⟩ : ByteArray) = r.key := by rw [h2]
      rw [hk, hO3'.cellAt (Q * 3) (Nat.mul_lt_mul_of_pos_right hQn (by decide))]
      exact (flat_get _ Q r hr).1
    go_wp2_with (at_builtin; refine wpList_append_own _ rfl _ _ 24 rfl w3.heap.size 9 i0 (.string ⟨#[]⟩) 1 16 Try.underlying24 hi hz0 hz1 hz2 rfl (by decide) _ _ _ rfl (hO.alloc _) ⟨wr.heap.size, 0, none⟩ 1 1 [.string ⟨s.toArray⟩] rfl rfl ?c1 ?c2 ?c3 ?c4 ?c5 ?_)
    case c1 =>
      intro j u hj
      match j, hj with
      | 0, hj => simp at hj; subst hj; simp [Addr.add, go_sem]
    case c2 =>
      intro u hu
      simp at hu
      subst hu; rfl
    case c3 => unfold maxLen; omega
    case c4 => omega
    case c5 => have := hbw.size; simp; omega
    intro v' w4 hO4 hg4 _
    obtain ⟨a', cap', rfl⟩ := own_slice' hO4
    have hb4 := (hbw.alloc hbw.size (.cells #[.string ⟨s.toArray⟩] 9)).grown hg4 (by have := hbw.size; simp; omega) (fun q e => (own_ge hO q e).1)
    rw [← List.map_take, cuts_take_succ (by omega) Hs.out hKl.out] at hO4
    clear hg4 hO c0 hO3'
    go_wp2_with fail
    go_roundw
    case rel => exact ⟨k + 1, a', cap', by omega, by go_num, rfl, hO4, hb4⟩
    case measure => simp [intOf]; omega
end Go.Proofs.Ytjnljobncdpkkab
