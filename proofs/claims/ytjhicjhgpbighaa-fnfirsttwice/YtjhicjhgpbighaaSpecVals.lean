/-
  spec.l5Vals and spec.l5Keys by their contracts: the values of the rows of a key, and the keys, each once. Conditions: at most 1048576 rows.
-/
import Derived.Maps.AppendAt
import Derived.Test.YtjhicjhgpbighaaRdIn
import Derived.Test.YtjhicjhgpbighaaJoinKeys
import Derived.Test.YtjhicjhgpbighaaStrMem
namespace Go.Proofs.Ytjhicjhgpbighaa
open Go.RowKit
def StrsOut (w : World) (ss : List ByteArray) (e : Ending) (w' : World) : Prop := ∃ a c, e = .returned (.slice a ss.length c) ∧ Below w.heap.size w w' ∧ w'.ownsRow w.heap.size 9 1 (.slice a ss.length c) ss.length (strC ss)
theorem strC_snoc (l : List ByteArray) (s : ByteArray) : strC (l ++ [s]) = strC l ++ [.string s] := by simp [strC]
theorem valsK_hit {l : List RowV} {k : Nat} {r : RowV} {key : ByteArray} (hr : l[k]? = some r) (hd : isKey key r = true) : valsK (l.take (k + 1)) key = valsK (l.take k) key ++ [r.val] := by
  unfold valsK
  rw [List.take_add_one, hr, Option.toList_some, List.filter_append, List.map_append]
  simp [hd]
theorem valsK_miss {l : List RowV} {k : Nat} {r : RowV} {key : ByteArray} (hr : l[k]? = some r) (hd : isKey key r = false) : valsK (l.take (k + 1)) key = valsK (l.take k) key := by
  unfold valsK
  rw [List.take_add_one, hr, Option.toList_some, List.filter_append, List.map_append]
  simp [hd]
theorem valsK_le (l : List RowV) (key : ByteArray) : (valsK l key).length ≤ l.length := by
  unfold valsK
  rw [List.length_map]
  exact List.length_filter_le _ _
theorem keysOf_take {l : List RowV} {k : Nat} {r : RowV} (hr : l[k]? = some r) : keysOf (l.take (k + 1)) = addKy (keysOf (l.take k)) r.key := by
  rw [List.take_add_one, hr, Option.toList_some, keysOf_snoc]
set_option maxRecDepth 100000 in
set_option maxHeartbeats 1000000 in
theorem l5Vals_any (a : Option Addr) (n cap : Nat) (rs : List RowV) (key : ByteArray) (w : World) (hm : n ≤ 1048576) (hR : Rd w w.heap.size 3 a n (flat rs)) :
    Calls Try.prog 97 #[.slice a n cap, .string key] w (StrsOut w (valsK (sortL rs) key)) := by
  obtain ⟨i0, hi, hz0, hz1, hz2⟩ := info_parts infoStr
  have hsl := Lib.hid ((sortL_length rs).trans hR.rows_length)
  have hb0 : Below w.heap.size w (w.alloc (.cells #[] 9)) := bl1 _ _
  have hOn := World.ownsRow_lit (base := w.heap.size) (e := 9) (size := 1) w #[] 0 (Nat.le_refl _) (Nat.zero_le _) rfl
  have R0 := (hR.below hb0 (Nat.le_refl _)).more hb0.size
  have H0 := Lib.hid (show (w.alloc (.cells #[] 9)).heap.size = w.heap.size + 1 by simp)
  go_enter Try.func97, Try.ntmps97
  go_wp2_with fail
  generalize w.alloc (.cells #[] 9) = w0 at *
  refine (l3Sort_any a n cap rs w0 hm R0).mono ?_
  rintro e w1 ⟨bs, cs, rfl, hS, hb1⟩
  have O1 := own_below hOn hb1
  have B1 := hb0.trans (hb1.mono hb0.size)
  have S1 := RdIn.of_own hS
  have s1 := hb1.size
  have A1 : Apart w0.heap.size w1.heap.size (.slice (some ⟨w.heap.size, 0, none⟩) 0 0) := Apart.at_ (.inl (by have := H0.out; omega))
  clear hS hOn hb1 R0
  generalize sortL rs = S at *
  go_wp2_with fail
  go_loopw [5, 7] (fun v i wr => ∃ (k q : Nat) (g : Option Addr) (c : Nat), k ≤ n ∧ i = .int .i64 k ∧ v = .slice g q c ∧ q ≤ k ∧ Hid ((valsK (S.take k) key).length = q) ∧ wr.ownsRow w.heap.size 9 1 (.slice g q c) q (strC (valsK (S.take k) key)) ∧ Below w.heap.size w wr ∧ RdIn wr w0.heap.size w1.heap.size 3 bs n (flat S) ∧ Hid (Apart w0.heap.size w1.heap.size (.slice g q c)) ∧ w1.heap.size ≤ wr.heap.size) (fun _ i _ => n - (intOf i).toNat)
  case atStart => exact ⟨0, 0, _, _, Nat.zero_le _, rfl, rfl, Nat.le_refl _, Lib.hid rfl, O1, B1, S1, Lib.hid A1, Nat.le_refl _⟩
  case round =>
    obtain ⟨k, q, g, c, hk, rfl, rfl, hqk, HQ, hO, hb, hS, HA, hs⟩ := hrel
    clear O1 B1 S1 A1
    by_cases hlt : k < n
    · obtain ⟨b, off, r, rfl, hB, hr, c0, c1, c2⟩ := hS.rd.row hlt
      cases hd : isKey key r
      · have E := Lib.hid (valsK_miss hr hd)
        have hd2 : (r.key == key) = false := by rw [beq_toListBytes]; exact hd
        have hd3 : (r.key.toList == key.toList) = false := hd
        clear hr hd
        obtain ⟨rk, rt, rv⟩ := r
        go_wp2_with fail
        go_roundw
        case rel => exact ⟨k + 1, q, g, c, by omega, by go_num, rfl, by omega, Lib.hid (by rw [E.out]; exact HQ.out), by rw [E.out]; exact hO, hb, hS, HA, hs⟩
        case measure => simp [intOf]; omega
      · have E := Lib.hid (valsK_hit hr hd)
        have hd2 : (r.key == key) = true := by rw [beq_toListBytes]; exact hd
        have hd3 : (r.key.toList == key.toList) = true := hd
        clear hr hd
        obtain ⟨rk, rt, rv⟩ := r
        have hg8 : w.heap.size ≤ wr.heap.size := hb.size
        go_wp2_with (at_builtin; refine wpList_append_own_at _ rfl _ _ 40 rfl w.heap.size 9 i0 (.string ⟨#[]⟩) 1 16 Try.underlying40 hi hz0 hz1 hz2 rfl (by decide) _ _ _ rfl (hO.alloc _) ⟨wr.heap.size, 0, none⟩ 1 1 [.string rv] rfl rfl (cell_one_new _ _ _) ?c2 ?c3 ?c4 ?c5 ?_)
        case c2 => first | rfl | (intro u hu; simp at hu; subst hu; rfl)
        case c3 => unfold maxLen; omega
        case c4 => omega
        case c5 => first | omega | (simp; omega)
        intro v' w4 hO4 hg4 _ hat
        obtain ⟨a', cap', rfl⟩ := own_slice' hO4
        have hb4 := below_grown1 hb hO hg4
        have hS4 := hS.gb1 hg4 hs HA.out
        have HA4 := Lib.hid (HA.out.next1 hat hs)
        have hs4 := size_grown1 hg4 hs
        have hO5 : w4.ownsRow w.heap.size 9 1 (.slice a' (q + 1) cap') (q + 1) (strC (valsK (S.take (k + 1)) key)) := by
          rw [E.out, strC_snoc]; exact hO4
        have HQ2 := Lib.hid (show (valsK (S.take (k + 1)) key).length = q + 1 by rw [E.out, List.length_append, HQ.out]; rfl)
        clear hg4 hat hO hO4 hS HA HQ c0 c1 c2 hb hs
        go_wp2_with fail
        go_roundw
        case rel => exact ⟨k + 1, q + 1, a', cap', by omega, by go_num, rfl, by omega, HQ2, hO5, hb4, hS4, HA4, hs4⟩
        case measure => simp [intOf]; omega
    · obtain rfl : k = n := by omega
      have e : valsK (S.take k) key = valsK S key := by rw [List.take_of_length_le (by rw [hsl.out]; omega)]
      have hl := HQ.out
      rw [e] at hO hl
      have HL := Lib.hid hl
      clear e hl
      go_wp2_with fail
      go_ret
      refine ⟨g, c, ?_, hb, ?_⟩
      · rw [HL.out]; rfl
      · rw [HL.out]; exact hO
set_option maxRecDepth 100000 in
set_option maxHeartbeats 1000000 in
theorem l5Keys_any (a : Option Addr) (n cap : Nat) (rs : List RowV) (w : World) (hm : n ≤ 1048576) (hR : Rd w w.heap.size 3 a n (flat rs)) :
    Calls Try.prog 54 #[.slice a n cap] w (StrsOut w (keysOf (sortL rs))) := by
  obtain ⟨i0, hi, hz0, hz1, hz2⟩ := info_parts infoStr
  have hsl := Lib.hid ((sortL_length rs).trans hR.rows_length)
  have hb0 : Below w.heap.size w (w.alloc (.cells #[] 9)) := bl1 _ _
  have hOn := World.ownsRow_lit (base := w.heap.size) (e := 9) (size := 1) w #[] 0 (Nat.le_refl _) (Nat.zero_le _) rfl
  have R0 := (hR.below hb0 (Nat.le_refl _)).more hb0.size
  have H0 := Lib.hid (show (w.alloc (.cells #[] 9)).heap.size = w.heap.size + 1 by simp)
  go_enter Try.func54, Try.ntmps54
  go_wp2_with fail
  generalize w.alloc (.cells #[] 9) = w0 at *
  refine (l3Sort_any a n cap rs w0 hm R0).mono ?_
  rintro e w1 ⟨bs, cs, rfl, hS, hb1⟩
  have O1 := own_below hOn hb1
  have B1 := hb0.trans (hb1.mono hb0.size)
  have S1 := RdIn.of_own hS
  have s1 := hb1.size
  have A1 : Apart w0.heap.size w1.heap.size (.slice (some ⟨w.heap.size, 0, none⟩) 0 0) := Apart.at_ (.inl (by have := H0.out; omega))
  clear hS hOn hb1 R0
  generalize sortL rs = S at *
  go_wp2_with fail
  go_loopw [3, 5] (fun v i wr => ∃ (k q : Nat) (g : Option Addr) (c : Nat), k ≤ n ∧ i = .int .i64 k ∧ v = .slice g q c ∧ q ≤ k ∧ Hid ((keysOf (S.take k)).length = q) ∧ wr.ownsRow w.heap.size 9 1 (.slice g q c) q (strC (keysOf (S.take k))) ∧ Below w.heap.size w wr ∧ RdIn wr w0.heap.size w1.heap.size 3 bs n (flat S) ∧ Hid (Apart w0.heap.size w1.heap.size (.slice g q c)) ∧ w1.heap.size ≤ wr.heap.size) (fun _ i _ => n - (intOf i).toNat)
  case atStart => exact ⟨0, 0, _, _, Nat.zero_le _, rfl, rfl, Nat.le_refl _, Lib.hid rfl, O1, B1, S1, Lib.hid A1, Nat.le_refl _⟩
  case round =>
    obtain ⟨k, q, g, c, hk, rfl, rfl, hqk, HQ, hO, hb, hS, HA, hs⟩ := hrel
    clear O1 B1 S1 A1
    by_cases hlt : k < n
    · obtain ⟨b, off, r, rfl, hB, hr, c0, c1, c2⟩ := hS.rd.row hlt
      have HE := Lib.hid (keysOf_take hr)
      clear hr
      obtain ⟨rk, rt, rv⟩ := r
      have hg8 : w.heap.size ≤ wr.heap.size := hb.size
      -- what the last key is
      by_cases hq0 : q = 0
      · subst hq0
        have hnil : keysOf (S.take k) = [] := List.eq_nil_of_length_eq_zero HQ.out
        have E := Lib.hid (show keysOf (S.take (k + 1)) = keysOf (S.take k) ++ [rk] by rw [HE.out, hnil]; rfl)
        clear hnil
        go_wp2_with fail
        go_quiet (fail)
        have HO1 := own_below hO (drewN_below wr nq)
        have hb1 := hb.trans ((drewN_below wr nq).mono hb.size)
        have hS1 := hS.below (drewN_below wr nq) hs
        have hs1 : w1.heap.size ≤ (wr.drewN nq).heap.size := Nat.le_trans hs (drewN_below wr nq).size
        have c0' := ((drewN_below wr nq).cell (p := ⟨b, off + k * 3, none⟩) (Nat.lt_of_lt_of_le hB hs)).trans c0
        have hg9 : w.heap.size ≤ (wr.drewN nq).heap.size := hb1.size
        clear hO hb hS hs c0 hg8
        generalize wr.drewN nq = w2 at *
        go_wp2_with (at_builtin; refine wpList_append_own_at _ rfl _ _ 40 rfl w.heap.size 9 i0 (.string ⟨#[]⟩) 1 16 Try.underlying40 hi hz0 hz1 hz2 rfl (by decide) _ _ _ rfl (HO1.alloc _) ⟨w2.heap.size, 0, none⟩ 1 1 [.string rk] rfl rfl (cell_one_new _ _ _) ?c2 ?c3 ?c4 ?c5 ?_)
        case c2 => first | rfl | (intro u hu; simp at hu; subst hu; rfl)
        case c3 => unfold maxLen; omega
        case c4 => omega
        case c5 => first | omega | (simp; omega)
        intro v' w4 hO4 hg4 _ hat
        obtain ⟨a', cap', rfl⟩ := own_slice' hO4
        have hb4 := below_grown1 hb1 HO1 hg4
        have hS4 := hS1.gb1 hg4 hs1 HA.out
        have HA4 := Lib.hid (HA.out.next1 hat hs1)
        have hs4 := size_grown1 hg4 hs1
        have hO5 : w4.ownsRow w.heap.size 9 1 (.slice a' (0 + 1) cap') (0 + 1) (strC (keysOf (S.take (k + 1)))) := by
          rw [E.out, strC_snoc]; exact hO4
        have HQ2 := Lib.hid (show (keysOf (S.take (k + 1))).length = 0 + 1 by rw [E.out, List.length_append, HQ.out]; rfl)
        clear hg4 hat HO1 hO4 hS1 HA HQ c0' c1 c2 hb1 hs1 
        go_wp2_with fail
        go_roundw
        case rel => exact ⟨k + 1, 0 + 1, a', cap', by omega, by go_num, rfl, by omega, HQ2, hO5, hb4, hS4, HA4, hs4⟩
        case measure => simp [intOf]; omega
      obtain ⟨p, hp1, hp2⟩ : ∃ p, p < q ∧ q = p + 1 := ⟨q - 1, by omega, by omega⟩
      obtain ⟨gb, go, lk, rfl, hGB, hlk, d0⟩ := (Rd.of_own hO).str hp1
      have hlast : (keysOf (S.take k)).getLast? = some lk := by
        rw [List.getLast?_eq_getElem?, HQ.out, hp2, Nat.add_sub_cancel]; exact hlk
      have hW : IntKind.i64.wrap ((q : Int) - 1) = (p : Int) := by rw [IntWalk.i64_in _ (by omega)]; omega
      have hp3 : q < p + 2 := by omega
      clear hp2
      cases hd : (lk.toList == rk.toList)
      · have E := Lib.hid (show keysOf (S.take (k + 1)) = keysOf (S.take k) ++ [rk] by
          rw [HE.out]; unfold addKy; rw [if_neg]; rw [hlast]; intro e; injection e with e; simp only at e; rw [e] at hd; simp at hd)
        clear hlast hlk
        go_wp2_with fail
        go_quiet (fail)
        have HO1 := own_below hO (drewN_below wr nq)
        have hb1 := hb.trans ((drewN_below wr nq).mono hb.size)
        have hS1 := hS.below (drewN_below wr nq) hs
        have hs1 : w1.heap.size ≤ (wr.drewN nq).heap.size := Nat.le_trans hs (drewN_below wr nq).size
        have c0' := ((drewN_below wr nq).cell (p := ⟨b, off + k * 3, none⟩) (Nat.lt_of_lt_of_le hB hs)).trans c0
        have hg9 : w.heap.size ≤ (wr.drewN nq).heap.size := hb1.size
        clear hO hb hS hs c0 hg8
        generalize wr.drewN nq = w2 at *
        go_wp2_with (at_builtin; refine wpList_append_own_at _ rfl _ _ 40 rfl w.heap.size 9 i0 (.string ⟨#[]⟩) 1 16 Try.underlying40 hi hz0 hz1 hz2 rfl (by decide) _ _ _ rfl (HO1.alloc _) ⟨w2.heap.size, 0, none⟩ 1 1 [.string rk] rfl rfl (cell_one_new _ _ _) ?c2 ?c3 ?c4 ?c5 ?_)
        case c2 => first | rfl | (intro u hu; simp at hu; subst hu; rfl)
        case c3 => unfold maxLen; omega
        case c4 => omega
        case c5 => first | omega | (simp; omega)
        intro v' w4 hO4 hg4 _ hat
        obtain ⟨a', cap', rfl⟩ := own_slice' hO4
        have hb4 := below_grown1 hb1 HO1 hg4
        have hS4 := hS1.gb1 hg4 hs1 HA.out
        have HA4 := Lib.hid (HA.out.next1 hat hs1)
        have hs4 := size_grown1 hg4 hs1
        have hO5 : w4.ownsRow w.heap.size 9 1 (.slice a' (q + 1) cap') (q + 1) (strC (keysOf (S.take (k + 1)))) := by
          rw [E.out, strC_snoc]; exact hO4
        have HQ2 := Lib.hid (show (keysOf (S.take (k + 1))).length = q + 1 by rw [E.out, List.length_append, HQ.out]; rfl)
        clear hg4 hat HO1 hO4 hS1 HA HQ c0' c1 c2 hb1 hs1
        go_wp2_with fail
        go_roundw
        case rel => exact ⟨k + 1, q + 1, a', cap', by omega, by go_num, rfl, by omega, HQ2, hO5, hb4, hS4, HA4, hs4⟩
        case measure => simp [intOf]; omega
      · have E := Lib.hid (show keysOf (S.take (k + 1)) = keysOf (S.take k) by
          rw [HE.out]; unfold addKy; rw [if_pos]; rw [hlast, ext_toList (eq_of_beq hd)])
        clear hlast hlk
        go_wp2_with fail
        go_quiet (fail)
        go_wp2_with fail
        go_roundw
        case rel => exact ⟨k + 1, q, _, c, by omega, by go_num, rfl, by omega, Lib.hid (by rw [E.out]; exact HQ.out), by rw [E.out]; exact own_below hO (drewN_below _ _), hb.trans ((drewN_below _ _).mono hb.size), hS.below (drewN_below _ _) hs, HA, Nat.le_trans hs (drewN_below _ _).size⟩
        case measure => simp [intOf]; omega
    · obtain rfl : k = n := by omega
      have e : keysOf (S.take k) = keysOf S := by rw [List.take_of_length_le (by rw [hsl.out]; omega)]
      have hl := HQ.out
      rw [e] at hO hl
      have HL := Lib.hid hl
      clear e hl
      go_wp2_with fail
      go_ret
      refine ⟨g, c, ?_, hb, ?_⟩
      · rw [HL.out]; rfl
      · rw [HL.out]; exact hO
end Go.Proofs.Ytjhicjhgpbighaa
