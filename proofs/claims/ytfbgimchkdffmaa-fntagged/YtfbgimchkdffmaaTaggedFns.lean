/-
  impl.Tagged and spec.Tagged by their contracts. Conditions: at most 1048576 rows, texts have at most maxLen bytes.
-/
import Derived.Test.YtfbgimchkdffmaaCollect
import Derived.Test.YtfbgimchkdffmaaRowsOut
namespace Go.Proofs.Ytfbgimchkdffmaa
open Go.RowKit Go.Shelf
def taggedS (rs : List RowV) (t : Int) : List RowV := if rowsOk rs then rs.filter (fun r => r.tag == t) else []
theorem taggedS_le (rs : List RowV) (t : Int) : (taggedS rs t).length ≤ 1048576 := by
  unfold taggedS
  split
  · rename_i h
    have h1 := List.length_filter_le (fun r : RowV => r.tag == t) rs
    have h2 := rowsOk_le h
    omega
  · simp
def taggedK (rs : List RowV) (t : Int) (k : Nat) : List RowV := if rowsOk rs then (rs.take k).filter (fun r => r.tag == t) else []
theorem taggedK_zero (rs : List RowV) (t : Int) : taggedK rs t 0 = [] := by unfold taggedK; split <;> simp
theorem taggedK_all (rs : List RowV) (t : Int) (k : Nat) (h : rs.length ≤ k) : taggedS rs t = taggedK rs t k := by
  unfold taggedK taggedS; rw [List.take_of_length_le h]
theorem taggedK_no (rs : List RowV) (t : Int) (k : Nat) (h : rowsOk rs = false) : taggedS rs t = taggedK rs t k := by
  unfold taggedK taggedS; rw [h]; rfl
theorem taggedK_hit {rs : List RowV} {t : Int} {k : Nat} {r : RowV} (h2 : rowsOk rs = true) (hr : rs[k]? = some r) (hd : (r.tag == t) = true) : taggedK rs t (k + 1) = taggedK rs t k ++ [r] := by
  simp only [taggedK, h2, if_true]
  exact filter_take_succ (p := fun r => r.tag == t) hr hd
theorem taggedK_miss {rs : List RowV} {t : Int} {k : Nat} {r : RowV} (hr : rs[k]? = some r) (hd : (r.tag == t) = false) : taggedK rs t (k + 1) = taggedK rs t k := by
  unfold taggedK
  split
  · exact filter_take_skip (p := fun r => r.tag == t) hr hd
  · rfl
set_option maxRecDepth 100000 in
theorem tagged1_any (B : Nat) (t : Int) (r : RowV) (w : World) (h : w.cell? ⟨B, 0, none⟩ = some (.int .i64 t)) (hB : B < w.heap.size) :
    Calls Try.prog 66 #[rowV r, .pointer (some ⟨B, 0, none⟩)] w fun e w' => e = .returned (.bool (r.tag == t)) ∧ Below w.heap.size w w' := by
  obtain ⟨key, tag, val⟩ := r
  have hb := bl1 w (.cells #[.string key, .int .i64 tag, .string val] 61)
  replace h := (hb.cell (p := ⟨B, 0, none⟩) hB).trans h
  unfold rowV
  go_enter Try.func66, Try.ntmps66
  go_wp2_with fail
  first | go_quiet (fail) | skip
  all_goals go_wp2_with fail
  go_ret
  exact ⟨rfl, by first | exact hb | exact hb.drew⟩
set_option maxRecDepth 100000 in
set_option maxHeartbeats 1000000 in
theorem implTagged_any (a : Option Addr) (len cap : Nat) (rs : List RowV) (t : Int) (w : World) (hm : len ≤ 1048576) (hok : ∀ r ∈ rs, r.Ok) (hR : Rd w w.heap.size 3 a len (flat rs)) :
    Calls Try.prog 18 #[.slice a len cap, .int .i64 t] w (RowsOut w (taggedS rs t)) := by
  have hb := bl1 w (.cells #[.int .i64 t] 2)
  have c1 : (w.alloc (.cells #[.int .i64 t] 2)).cell? ⟨w.heap.size, 0, none⟩ = some (.int .i64 t) := by simp [go_sem]
  have hz : w.heap.size < (w.alloc (.cells #[.int .i64 t] 2)).heap.size := by simp
  replace hR := (hR.below hb (Nat.le_refl _)).more hb.size
  go_enter Try.func18, Try.ntmps18
  go_wp2_with fail
  generalize w.alloc (.cells #[.int .i64 t] 2) = w1 at *
  refine (implRowsOk_any a len cap rs _ hm hok hR).mono ?_
  rintro e w3 ⟨rfl, hb1⟩
  replace c1 := (hb1.cell (p := ⟨w.heap.size, 0, none⟩) hz).trans c1
  replace hb := hb.trans (hb1.mono (by omega))
  replace hR := (hR.below hb1 (Nat.le_refl _)).more hb1.size
  replace hz : w.heap.size < w3.heap.size := Nat.lt_of_lt_of_le hz hb1.size
  clear hb1
  cases hf2 : rowsOk rs
  · have E := Lib.hid (show taggedS rs t = [] by simp [taggedS, hf2])
    clear hf2
    go_wp2_with fail
    go_ret
    rw [E.out]
    exact RowsOut.none _ _ hb
  have E := Lib.hid (show taggedS rs t = rs.filter (fun r => r.tag == t) by simp [taggedS, hf2])
  clear hf2
  go_wp2_with fail
  refine (where_any a len cap (.func (.func 66) #[] #[.pointer (some ⟨w.heap.size, 0, none⟩)]) _ ⟨_, _, rfl⟩).mono ?_
  rintro e w7 ⟨rfl, hw7⟩
  have hb1 : Below w3.heap.size w3 w7 := by rw [hw7]; exact bl2 _ _ _
  have k0 : w7.cell? ⟨w3.heap.size, 0, none⟩ = some (.slice a len cap) := by rw [hw7]; simp [go_sem]
  have k1 : w7.cell? ⟨w3.heap.size + 1, 0, none⟩ = some (.func (.func 66) #[] #[.pointer (some ⟨w.heap.size, 0, none⟩)]) := by rw [hw7]; simp [go_sem]
  have k2 : w7.heap.size = w3.heap.size + 1 + 1 := by rw [hw7]; simp
  have H7 := Lib.hid k2
  clear hw7 k2
  replace c1 := (hb1.cell (p := ⟨w.heap.size, 0, none⟩) hz).trans c1
  replace hb := hb.trans (hb1.mono (by omega))
  replace hR := (hR.below hb1 (Nat.le_refl _)).more hb1.size
  replace hz : w.heap.size < w7.heap.size := Nat.lt_of_lt_of_le hz hb1.size
  clear hb1
  have hl := Lib.hid hR.rows_length
  have S := fun m => where_stops m w3.heap.size (w3.heap.size + 1) w7.heap.size w.heap.size 66 a len cap rs (fun r => r.tag == t) hm w7 (Nat.le_refl _)
    (fun k r W1 _ hbW => tagged1_any w.heap.size t r W1 ((hbW.cell (p := ⟨w.heap.size, 0, none⟩) hz).trans c1) (Nat.lt_of_lt_of_le hz hbW.size))
    (enters_of Try.func66 (by kernel_rfl) rfl) k0 k1 (by have := H7.out; omega) (by have := H7.out; omega) hR
  have C := collect_any 111 _ _ rs.length _ w7 (by rw [hl.out]; exact hm) (enters_of Try.func111 (by kernel_rfl) rfl) S
  clear S k0 k1 hR c1
  have hs7 : w.heap.size ≤ w7.heap.size := hb.size
  go_wp2_with fail
  refine C.mono ?_
  clear C
  rintro e w8 ⟨v, rfl, hO, hb1⟩
  replace hb := hb.trans (hb1.mono hb.size)
  clear hb1
  go_wp2_with fail
  go_ret
  rw [E.out]
  exact RowsOut.of hb hO hs7
set_option maxRecDepth 100000 in
set_option maxHeartbeats 1000000 in
theorem specTagged_any (a : Option Addr) (len cap : Nat) (rs : List RowV) (t : Int) (w : World) (hm : len ≤ 1048576) (hok : ∀ r ∈ rs, r.Ok) (hR : Rd w w.heap.size 3 a len (flat rs)) :
    Calls Try.prog 16 #[.slice a len cap, .int .i64 t] w (RowsOut w (taggedS rs t)) := by
  have hl := Lib.hid hR.rows_length
  obtain ⟨i0, hi, hz0, hz1, hz2⟩ := info_parts infoRow
  go_enter Try.func16, Try.ntmps16
  go_wp2_with fail
  have hO0 : (w.alloc (.cells #[] 61)).ownsRow w.heap.size 61 3 (.slice (some ⟨w.heap.size, 0, none⟩) 0 0) 0 (flat (taggedK rs t 0)) := by
    rw [taggedK_zero]
    exact World.ownsRow_lit (base := w.heap.size) (size := 3) w #[] 0 (Nat.le_refl _) (Nat.zero_le _) rfl
  go_loopw [5, 6] (fun v i wr => ∃ (k q : Nat) (b : Option Addr) (c : Nat), k ≤ len ∧ i = .int .i64 k ∧ v = .slice b q c ∧ q ≤ k ∧ Hid ((taggedK rs t k).length = q) ∧ wr.ownsRow w.heap.size 61 3 (.slice b q c) q (flat (taggedK rs t k)) ∧ Below w.heap.size w wr) (fun _ i _ => len - (intOf i).toNat)
  case atStart => exact ⟨0, 0, _, 0, Nat.zero_le _, rfl, rfl, Nat.le_refl _, Lib.hid (by rw [taggedK_zero]; rfl), hO0, bl1 _ _⟩
  case round =>
    obtain ⟨k, q, b, c, hk, rfl, rfl, hqk, HQ, hO, hbr⟩ := hrel
    clear hO0
    by_cases hlt : k < len
    · have hRr := (hR.below hbr (Nat.le_refl _)).more hbr.size
      cases hf2 : rowsOk rs
      · have E := Lib.hid (taggedK_no rs t k hf2)
        go_wp2_with fail
        refine (specRowsOk_any a len cap rs _ hm hok hRr).mono ?_
        rintro e w3 ⟨rfl, hb1⟩
        rw [hf2]
        clear hf2
        have hO1 := own_below hO hb1
        replace hbr := hbr.trans (hb1.mono hbr.size)
        clear hb1 hO hRr
        go_wp2_with fail
        go_ret
        rw [E.out]
        exact RowsOut.of hbr (by rw [HQ.out]; exact hO1) (Nat.le_refl _)
      go_wp2_with fail
      refine (specRowsOk_any a len cap rs _ hm hok hRr).mono ?_
      rintro e w3 ⟨rfl, hb1⟩
      rw [hf2]
      replace hO := own_below hO hb1
      replace hbr := hbr.trans (hb1.mono hbr.size)
      clear hb1 hRr
      have K := Lib.hid hf2
      clear hf2
      obtain ⟨b1, off, r, rfl, hB1, hrk, z0, z1, z2⟩ := (hR.below hbr (Nat.le_refl _)).row hlt
      have Hr := Lib.hid hrk
      clear hrk
      obtain ⟨key, tag, val⟩ := r
      cases hd : (tag == t)
      · have M := Lib.hid (taggedK_miss Hr.out hd)
        go_wp2_with fail
        clear hd
        go_roundw
        case rel => exact ⟨k + 1, q, b, c, by omega, by go_num, rfl, by omega, Lib.hid (by rw [M.out]; exact HQ.out), by rw [M.out]; exact hO, hbr⟩
        case measure => simp [intOf]; omega
      · have M := Lib.hid (taggedK_hit K.out Hr.out hd)
        go_wp2_with (at_builtin; refine wpList_append_own _ rfl _ _ 24 rfl w.heap.size 61 i0 (.agg #[.string ⟨#[]⟩, .int .i64 0, .string ⟨#[]⟩]) 3 40 Try.underlying24 hi hz0 hz1 hz2 rfl (by decide) _ _ _ rfl (hO.alloc _) ⟨w3.heap.size, 0, none⟩ 1 1 [.string key, .int .i64 tag, .string val] rfl rfl (cell_row_new w3 ⟨key, tag, val⟩ _) (by simp [Value.oneCell']) (by unfold maxLen; omega) (by omega) (by have := hbr.size; simp; omega) ?_)
        intro v' w6 hO6 hg6 _
        obtain ⟨a', cap', rfl⟩ := own_slice' hO6
        have hb6 := (hbr.alloc hbr.size (.cells #[.string key, .int .i64 tag, .string val] 61)).grown hg6 (by have := hbr.size; simp; omega) (fun q e => (own_ge hO q e).1)
        rw [← flat_snoc _ ⟨key, tag, val⟩, ← M.out] at hO6
        clear hg6 hO z0 z1 z2 hd
        go_wp2_with fail
        go_roundw
        case rel => exact ⟨k + 1, q + 1, a', cap', by omega, by go_num, rfl, by omega, Lib.hid (by rw [M.out, List.length_append, HQ.out]; rfl), hO6, hb6⟩
        case measure => simp [intOf]; omega
    · obtain rfl : k = len := by omega
      have E := Lib.hid (taggedK_all rs t k (by rw [hl.out]; omega))
      go_wp2_with fail
      go_ret
      rw [E.out]
      exact RowsOut.of hbr (by rw [HQ.out]; exact hO) (Nat.le_refl _)
end Go.Proofs.Ytfbgimchkdffmaa
