/-
  Totals as plain values: laws.szTotal, laws.szTotalS, laws.toTotal, laws.toTotalS, laws.eqTotal and laws.eqTotalS by their contracts; how a slice of laws.Total is opened. Conditions: those of each statement.
-/
import Derived.Test.YtnmlnenepceabaaRowsMem
import Derived.Test.YtnmlnenepceabaaOpen
namespace Go.Proofs.Ytnmlnenepceabaa
open Go.ChangeShapes Go.WideShapes Go.ChangeAt Go.RowKit Go.Joins Go.Deep

/-- A total, as plain values. -/
structure TotV where
  key : ByteArray
  n : Int
def TotV.Ok (t : TotV) : Prop := t.key.size ≤ maxLen ∧ (Lit.int .i64 t.n).wf = true
def TotV.cells (t : TotV) : List Value := [.string t.key, .int .i64 t.n]
def flatT (ts : List TotV) : List Value := ts.flatMap TotV.cells
theorem flatT_cons (t : TotV) (ts : List TotV) : flatT (t :: ts) = .string t.key :: .int .i64 t.n :: flatT ts := rfl
theorem flatT_append (a b : List TotV) : flatT (a ++ b) = flatT a ++ flatT b := by simp [flatT]
theorem flatT_length (ts : List TotV) : (flatT ts).length = ts.length * 2 := by
  induction ts with
  | nil => rfl
  | cons t ts ih => rw [flatT_cons]; simp only [List.length_cons, ih]; omega
theorem flatT_get : ∀ (ts : List TotV) (k : Nat) (t : TotV), ts[k]? = some t → (flatT ts)[k * 2]? = some (.string t.key) ∧ (flatT ts)[k * 2 + 1]? = some (.int .i64 t.n)
  | [], _, _, h => by simp at h
  | x :: ts, 0, t, h => by
    obtain rfl : x = t := by simpa using h
    exact ⟨rfl, rfl⟩
  | x :: ts, k + 1, t, h => by
    have g := flatT_get ts k t (by simpa using h)
    rw [flatT_cons, show (k + 1) * 2 = k * 2 + 1 + 1 by omega, show k * 2 + 1 + 1 + 1 = (k * 2 + 1) + 1 + 1 by omega]
    simpa only [List.getElem?_cons_succ] using g
/-- A total of a slice that reads as totals. -/
theorem Rd.tot {w : World} {B n k : Nat} {a : Option Addr} {ts : List TotV} (h : Rd w B 2 a n (flatT ts)) (hk : k < n) :
    ∃ b off t, a = some ⟨b, off, none⟩ ∧ b < B ∧ ts[k]? = some t ∧ w.cell? ⟨b, off + k * 2, none⟩ = some (.string t.key) ∧ w.cell? ⟨b, off + k * 2 + 1, none⟩ = some (.int .i64 t.n) := by
  obtain ⟨b, off, e, hb, hc⟩ := h.2 (by omega)
  have hl := h.1
  rw [flatT_length] at hl
  have hkl : k < ts.length := by omega
  have g := flatT_get ts k ts[k] (List.getElem?_eq_getElem hkl)
  exact ⟨b, off, ts[k], e, hb, List.getElem?_eq_getElem hkl, hc _ _ g.1, by rw [Nat.add_assoc]; exact hc _ _ g.2⟩
theorem Rd.tots_length {w : World} {B n : Nat} {a : Option Addr} {ts : List TotV} (h : Rd w B 2 a n (flatT ts)) : ts.length = n := by
  have hl := h.1
  rw [flatT_length] at hl
  omega
/-- A slice of totals that came in. -/
def IsTots (w : World) (a : Option Addr) (len cap : Nat) (ts : List TotV) : Prop := len ≤ cap ∧ cap ≤ maxLen ∧ (∀ t ∈ ts, t.Ok) ∧ Rd w w.heap.size 2 a len (flatT ts)
theorem TotV.Ok.of {ts : List TotV} {k : Nat} {t : TotV} (h : ∀ t ∈ ts, t.Ok) (hr : ts[k]? = some t) : t.Ok := h t (List.mem_of_getElem? hr)
def szT (k : ByteArray) (left : Int) : Int := if left < k.size then -1 else left - k.size
theorem szT_le (k : ByteArray) (left : Int) (h0 : 0 ≤ left) (_h1 : left ≤ 1048576) : szT k left = -1 ∨ (0 ≤ szT k left ∧ szT k left ≤ left) := by
  unfold szT; split <;> omega

set_option maxRecDepth 100000 in
theorem szTotal_any (k : ByteArray) (n : Int) (left : Int) (w : World) (hk : k.size ≤ maxLen) (h1 : left ≤ 1048576) (h0 : 0 ≤ left) :
    Calls Try.prog 93 #[.agg #[.string k, .int .i64 n], .int .i64 left] w fun e w' => e = .returned (.int .i64 (szT k left)) ∧ Below w.heap.size w w' := by
  unfold maxLen at hk
  by_cases ha : left < k.size
  · have E := Lib.hid (show szT k left = -1 from if_pos (by omega))
    go_enter Try.func93, Try.ntmps93
    go_wp2
    go_ret
    exact ⟨ret_int E.out.symm, bl1 _ _⟩
  · have E := Lib.hid (show szT k left = left - k.size from if_neg (by omega))
    go_enter Try.func93, Try.ntmps93
    go_wp2
    go_ret
    exact ⟨ret_int E.out.symm, bl1 _ _⟩
set_option maxRecDepth 100000 in
theorem toTotal_any (k : ByteArray) (n : Int) (w : World) :
    Calls Try.prog 95 #[.agg #[.string k, .int .i64 n]] w fun e w' => e = .returned (.agg #[.string k, .int .i64 n]) ∧ Below w.heap.size w w' := by
  go_enter Try.func95, Try.ntmps95
  go_wp2
  exact bodyPost_ret (v := .agg #[.string k, .int .i64 n]) (by simp [results, Try.results95, go_sem]) rfl ⟨rfl, bl3 _ _ _ _⟩
set_option maxRecDepth 100000 in
theorem eqTotal_same (t : TotV) (w : World) :
    Calls Try.prog 66 #[.agg #[.string t.key, .int .i64 t.n], .agg #[.string t.key, .int .i64 t.n]] w fun e w' => e = .returned (.bool true) ∧ Below w.heap.size w w' := by
  obtain ⟨k, n⟩ := t
  go_enter Try.func66, Try.ntmps66
  go_wp2
  go_ret
  exact ⟨rfl, bl2 _ _ _⟩
set_option maxRecDepth 100000 in
set_option maxHeartbeats 1000000 in
theorem szTotalS_any (a : Option Addr) (len cap : Nat) (ts : List TotV) (left : Int) (w : World) (hm : len ≤ maxLen) (hok : ∀ t ∈ ts, t.Ok) (hR : Rd w w.heap.size 2 a len (flatT ts)) (h0 : 0 ≤ left) (h1 : left ≤ 1048576) :
    Calls Try.prog 49 #[.slice a len cap, .int .i64 left] w (SzOut left len w) := by
  unfold maxLen at hm
  by_cases hs : left < len
  · go_enter Try.func49, Try.ntmps49
    go_wp2
    go_ret
    exact ⟨-1, rfl, Below.refl _ _, .inl rfl⟩
  go_enter Try.func49, Try.ntmps49
  go_wp2
  go_loopw [1, 5] (fun l i wr => ∃ (k : Nat) (z : Int), k ≤ len ∧ i = .int .i64 k ∧ l = .int .i64 z ∧ 0 ≤ z ∧ z ≤ left ∧ Below w.heap.size w wr) (fun _ i _ => len - (intOf i).toNat)
  case atStart => exact ⟨0, left - len, Nat.zero_le _, rfl, rfl, by omega, by omega, Below.refl _ _⟩
  case round =>
    obtain ⟨k, z, hk, rfl, rfl, hz0, hz1, hb⟩ := hrel
    by_cases hlt : k < len
    · obtain ⟨b, off, r, rfl, hB, hr, c0, c1⟩ := (hR.below hb (Nat.le_refl _)).tot hlt
      have hro := TotV.Ok.of hok hr
      clear hr
      obtain ⟨key, n⟩ := r
      obtain ⟨hkk, _⟩ := hro
      have hz2 := szT_le key z hz0 (by omega)
      go_wp2_with fail
      refine (szTotal_any key n z _ hkk (by omega) (by omega)).mono ?_
      rintro e w1 ⟨rfl, hb1⟩
      clear c0 c1
      generalize szT key z = z' at *
      rcases hz2 with rfl | ⟨hz20, hz21⟩
      · go_wp2_with fail
        go_ret
        exact ⟨-1, rfl, hb.trans (hb1.mono hb.size), .inl rfl⟩
      go_wp2_with fail
      go_roundw
      case rel => exact ⟨k + 1, z', by omega, by go_num, rfl, hz20, by omega, hb.trans (hb1.mono hb.size)⟩
      case measure => simp [intOf]; omega
    · go_wp2_with fail
      go_ret
      exact ⟨z, rfl, hb, .inr ⟨hz0, hz1, by omega⟩⟩

theorem take_set2 {xs A : List Value} {k : Nat} (a b : Value) (h : xs.take (k * 2) = A) (hl : k * 2 + 1 < xs.length) : ((xs.set (k * 2) a).set (k * 2 + 1) b).take ((k + 1) * 2) = A ++ [a, b] := by
  subst h
  apply List.ext_getElem?
  intro j
  have hlen : (xs.take (k * 2)).length = k * 2 := by simp; omega
  rcases Nat.lt_or_ge j (k * 2) with h1 | h1
  · rw [List.getElem?_append_left (by omega), List.getElem?_take_of_lt (by omega), List.getElem?_take_of_lt h1, List.getElem?_set_ne (by omega), List.getElem?_set_ne (by omega)]
  · rw [List.getElem?_append_right (by omega), hlen]
    rcases (show j = k * 2 ∨ j = k * 2 + 1 ∨ k * 2 + 2 ≤ j by omega) with e | e | e
    · rw [List.getElem?_take_of_lt (by omega), List.getElem?_set_ne (by omega), e, List.getElem?_set_self (by omega), Nat.sub_self]; rfl
    · rw [List.getElem?_take_of_lt (by omega), e, List.getElem?_set_self (by simp; omega), show k * 2 + 1 - k * 2 = 1 by omega]; rfl
    · rw [List.getElem?_eq_none (by simp; omega), List.getElem?_eq_none (by simp; omega)]
theorem flatT_take_succ {ts : List TotV} {k : Nat} {t : TotV} (h : ts[k]? = some t) : flatT (ts.take (k + 1)) = flatT (ts.take k) ++ [.string t.key, .int .i64 t.n] := by
  have hk := (List.getElem?_eq_some_iff.1 h).1
  rw [List.take_succ_eq_append_getElem hk, flatT_append]
  have : ts[k] = t := by rw [List.getElem?_eq_getElem hk] at h; injection h
  rw [this]; rfl
theorem own_store2 {w : World} {base e n g cap k : Nat} {xs : List Value} (h : w.ownsRow base e 2 (.slice (some ⟨g, 0, none⟩) n cap) n xs) (a b : Value) :
    ((w.setCell ⟨g, k * 2, none⟩ a).setCell ⟨g, k * 2 + 1, none⟩ b).ownsRow base e 2 (.slice (some ⟨g, 0, none⟩) n cap) n ((xs.set (k * 2) a).set (k * 2 + 1) b) :=
  ((h.stored (k * 2) a).1.stored (k * 2 + 1) b).1
theorem below_store2 {w W : World} {B g o o1 : Nat} (h : Below B w W) (hg : B ≤ g) (a b : Value) : Below B w ((W.setCell ⟨g, o, none⟩ a).setCell ⟨g, o1, none⟩ b) :=
  (h.setCell (p := ⟨g, o, none⟩) hg a).setCell (p := ⟨g, o1, none⟩) hg b
theorem infoTotal : (Try.prog.info? 45).map (fun i => (i.zero, i.size, i.bytes)) = some (some (.agg #[.string ⟨#[]⟩, .int .i64 0]), 2, 24) := by kernel_rfl
set_option maxRecDepth 100000 in
set_option maxHeartbeats 1000000 in
theorem toTotalS_any (a : Option Addr) (len cap : Nat) (ts : List TotV) (w : World) (hm : len ≤ 1048576) (hR : Rd w w.heap.size 2 a len (flatT ts)) :
    Calls Try.prog 51 #[.slice a len cap] w fun e w' => e = .returned (.slice (some ⟨w.heap.size, 0, none⟩) len len) ∧ Below w.heap.size w w' ∧ w'.ownsRow w.heap.size 45 2 (.slice (some ⟨w.heap.size, 0, none⟩) len len) len (flatT ts) := by
  obtain ⟨i0, hi, hz0, hz1, hz2⟩ := info_parts infoTotal
  go_enter Try.func51, Try.ntmps51
  go_wp2_with (at_make; refine wpList_make_full _ rfl _ _ 24 rfl w.heap.size 45 i0 (.agg #[.string ⟨#[]⟩, .int .i64 0]) 2 Try.underlying24 hi hz0 hz1 .i64 .i64 _ _ len rfl rfl (by omega) (by omega) (by rw [hz2]; omega) (by unfold maxLen; omega) (Nat.le_refl _) ?_; intro w1 hown hgrow)
  have hb1 := (Below.refl w.heap.size w).grown hgrow (Nat.le_refl _) (by simp)
  clear hgrow
  go_loopw [4] (fun i wr => ∃ (k : Nat) (xs : List Value), k ≤ len ∧ i = .int .i64 k ∧ Below w.heap.size w wr ∧ wr.ownsRow w.heap.size 45 2 (.slice (some ⟨w.heap.size, 0, none⟩) len len) len xs ∧ xs.take (k * 2) = flatT (ts.take k)) (fun i _ => len - (intOf i).toNat)
  case atStart => exact ⟨0, _, Nat.zero_le _, rfl, hb1, hown, by simp [flatT]⟩
  case round =>
    obtain ⟨k, xs, hk, rfl, hb, hO, hx⟩ := hrel
    have Hx := Lib.hid hx
    clear hx hown hb1
    by_cases hlt : k < len
    · obtain ⟨b, off, r, rfl, hB, hr, c0, c1⟩ := (hR.below hb (Nat.le_refl _)).tot hlt
      have Hr := Lib.hid hr
      clear hr
      go_wp2_with fail
      refine (toTotal_any r.key r.n _).mono ?_
      rintro e w2 ⟨rfl, hb2⟩
      have hO2 := own_below hO hb2
      have f0 := hO2.frozenAt (k * 2)
      have f1 := hO2.frozenAt (k * 2 + 1)
      obtain ⟨u0, e0⟩ := own_cell hO2 (j := k * 2) (by omega)
      obtain ⟨u1, e1⟩ := own_cell hO2 (j := k * 2 + 1) (by omega)
      have hB2 : Below w.heap.size w w2 := hb.trans (hb2.mono hb.size)
      have hxl : k * 2 + 1 < xs.length := by rw [hO.1]; omega
      clear c0 c1 hb2 hO
      go_wp2_with fail
      go_roundw
      case rel => exact ⟨k + 1, _, by omega, by go_num, below_store2 hB2 (Nat.le_refl _) _ _, own_store2 hO2 _ _, (take_set2 _ _ Hx.out hxl).trans (flatT_take_succ Hr.out).symm⟩
      case measure => simp [intOf]; omega
    · obtain rfl : k = len := by omega
      have hx := Hx.out
      rw [List.take_of_length_le (by rw [hO.1]; omega), List.take_of_length_le (by rw [hR.tots_length]; omega)] at hx
      subst hx
      go_wp2_with fail
      go_ret
      exact ⟨rfl, hb, hO⟩
set_option maxRecDepth 100000 in
set_option maxHeartbeats 1000000 in
theorem eqTotalS_same (a b : Option Addr) (n ca cb : Nat) (ts : List TotV) (w : World) (hm : n ≤ 1048576) (hA : Rd w w.heap.size 2 a n (flatT ts)) (hB : Rd w w.heap.size 2 b n (flatT ts)) :
    Calls Try.prog 19 #[.slice a n ca, .slice b n cb] w fun e w' => e = .returned (.bool true) ∧ Below w.heap.size w w' := by
  go_enter Try.func19, Try.ntmps19
  go_wp2
  go_loopw [5] (fun i wr => ∃ k : Nat, k ≤ n ∧ i = .int .i64 k ∧ Below w.heap.size w wr) (fun i _ => n - (intOf i).toNat)
  case atStart => exact ⟨0, Nat.zero_le _, rfl, Below.refl _ _⟩
  case round =>
    obtain ⟨k, hk, rfl, hb⟩ := hrel
    by_cases hlt : k < n
    · obtain ⟨b1, o1, r, rfl, hB1, hr, c0, c1⟩ := (hA.below hb (Nat.le_refl _)).tot hlt
      obtain ⟨b2, o2, r', rfl, hB2, hr', d0, d1⟩ := (hB.below hb (Nat.le_refl _)).tot hlt
      obtain rfl : r = r' := by rw [hr] at hr'; injection hr'
      clear hr hr'
      go_wp2_with fail
      refine wp_region_still_tail 8 (by kernel_rfl) (by kernel_rfl) ?_
      simp only [List.take_succ_cons, List.take_zero, List.drop_succ_cons, List.drop_zero]
      change wpStill _ _ wr.drew _ _ _
      repeat still_step
      refine wpStill_nil ?_
      change wpList _ _ _ _ _ wr.drew
      go_wp2_with fail
      refine (eqTotal_same r _).mono ?_
      rintro e w1 ⟨rfl, hb1⟩
      clear c0 c1 d0 d1
      go_wp2_with fail
      go_roundw
      case rel => exact ⟨k + 1, by omega, by go_num, hb.drew.trans (hb1.mono hb.size)⟩
      case measure => simp [intOf]; omega
    · go_wp2_with fail
      go_ret
      exact ⟨rfl, hb⟩
end Go.Proofs.Ytnmlnenepceabaa
