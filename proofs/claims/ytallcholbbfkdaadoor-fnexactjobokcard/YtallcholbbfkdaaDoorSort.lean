/-
  spec.l3Sort by its contract: it returns the rows, sorted by insertion, in new memory. Condition: at most 1048576 rows.
-/
import Derived.Test.YtallcholbbfkdaaDoorL1Less
import Derived.Test.YtallcholbbfkdaaDoorRowsMem
import Derived.Deep.QuietTactic
import Derived.BigQuiet
import Derived.Deep.RegionHeld
namespace Go.Proofs.YtallcholbbfkdaaDoor
open Go.RowKit

/-- The order of rows. -/
def RowV.less (a b : RowV) : Bool := lessB a.key a.tag a.val b.key b.tag b.val
/-- Where a row belongs among sorted ones: behind all that it does not precede. -/
def insPos (r : RowV) : List RowV → Nat
  | [] => 0
  | x :: xs => if r.less x = true then 0 else insPos r xs + 1
def ins (r : RowV) (out : List RowV) : List RowV := out.take (insPos r out) ++ [r] ++ out.drop (insPos r out)
def sortL (rs : List RowV) : List RowV := rs.foldl (fun out r => ins r out) []
theorem sortL_snoc (rs : List RowV) (r : RowV) : sortL (rs ++ [r]) = ins r (sortL rs) := by simp [sortL]
theorem ins_length (r : RowV) (out : List RowV) : (ins r out).length = out.length + 1 := by
  simp [ins]; omega
theorem sortL_length (rs : List RowV) : (sortL rs).length = rs.length := by
  rcases List.eq_nil_or_concat rs with rfl | ⟨l, r, rfl⟩
  · rfl
  · rw [List.concat_eq_append, sortL_snoc, ins_length, sortL_length l]; simp
termination_by rs.length
decreasing_by simp_all
/-- The row precedes none of the first k. -/
def NotLess (r : RowV) (out : List RowV) (k : Nat) : Prop := ∀ j x, j < k → out[j]? = some x → r.less x = false
theorem NotLess.succ {r x : RowV} {out : List RowV} {k : Nat} (h : NotLess r out k) (hx : out[k]? = some x) (hl : r.less x = false) : NotLess r out (k + 1) := fun j y hj hy => by
  rcases Nat.lt_or_ge j k with h1 | h1
  · exact h j y h1 hy
  · obtain rfl : j = k := by omega
    rw [hx] at hy; injection hy with e; rw [← e]; exact hl
theorem insPos_at : ∀ (r : RowV) (out : List RowV) (k : Nat), NotLess r out k → k ≤ out.length → (∀ x, out[k]? = some x → r.less x = true) → insPos r out = k
  | _, [], k, _, hk, _ => by simp at hk; rw [hk]; rfl
  | r, y :: out, 0, _, _, h => by rw [insPos, if_pos (h y rfl)]
  | r, y :: out, k + 1, hN, hk, h => by
    have h0 := hN 0 y (by omega) rfl
    rw [insPos, if_neg (by rw [h0]; simp)]
    rw [insPos_at r out k (fun j x hj hx => hN (j + 1) x (by omega) (by simpa using hx)) (by simpa using hk) (fun x hx => h x (by simpa using hx))]
theorem ins_at {r : RowV} {out : List RowV} {k : Nat} (h1 : NotLess r out k) (h2 : k ≤ out.length) (h3 : ∀ x, out[k]? = some x → r.less x = true) : flat (out.take k) ++ [.string r.key, .int .i64 r.tag, .string r.val] ++ flat (out.drop k) = flat (ins r out) := by
  unfold ins
  rw [insPos_at r out k h1 h2 h3, flat_append, flat_append]
  rfl
theorem l1Less_b (r x : RowV) (b : Bool) (w : World) (h : r.less x = b) :
    Calls Tryd.prog 109 #[.agg #[.string r.key, .int .i64 r.tag, .string r.val], .agg #[.string x.key, .int .i64 x.tag, .string x.val]] w fun e w' => e = .returned (.bool b) ∧ Below w.heap.size w w' := h ▸ l1Less_any r.key r.val r.tag x.key x.val x.tag w
theorem own_base' {w : World} {base base' e s n : Nat} {v : Value} {xs : List Value} (h : w.ownsRow base e s v n xs) (hb : base' ≤ base) : w.ownsRow base' e s v n xs := by
  refine ⟨h.1, ?_⟩
  rcases h.2 with h0 | ⟨g, c, cur, hv, hg, rest⟩
  · exact .inl h0
  · exact .inr ⟨g, c, cur, hv, Nat.le_trans hb hg, rest⟩
theorem own_ge {w : World} {base e s n : Nat} {v : Value} {xs : List Value} (h : w.ownsRow base e s v n xs) (g : Nat) (hg : v.ownBlock = some g) : base ≤ g ∧ g < w.heap.size := by
  rcases h.2 with ⟨rfl, _⟩ | ⟨g', c, cur, rfl, hb, hh, _⟩
  · cases hg
  · have e : g' = g := by simpa [Value.ownBlock] using hg
    subst e
    refine ⟨hb, ?_⟩
    rcases Nat.lt_or_ge g' w.heap.size with hlt | hge
    · exact hlt
    · rw [Array.getElem?_eq_none hge] at hh; cases hh
/-- An older owned slice is not touched by what writes into a younger one. -/
theorem own_apart {w w' : World} {base base' e s n e' s' n' B : Nat} {v v' : Value} {xs ys : List Value} (h : w.ownsRow base e s v n xs) (hg : w.grownBy w' v'.ownBlock) (hB : ∀ g, v.ownBlock = some g → g < B) (h' : w.ownsRow base' e' s' v' n' ys) (hb : B ≤ base') : w'.ownsRow base e s v n xs := by
  refine h.kept hg ?_
  cases hv : v.ownBlock with
  | none => exact .inl rfl
  | some g =>
    right
    intro he
    have h1 := hB g hv
    have h2 := (own_ge h' g he.symm).1
    omega
theorem flat_get_take {out : List RowV} {p j : Nat} {u : Value} (h : (flat (out.take p))[j]? = some u) : (flat out)[j]? = some u := by
  have e : flat out = flat (out.take p) ++ flat (out.drop p) := by rw [← flat_append, List.take_append_drop]
  rw [e, List.getElem?_append_left (List.getElem?_eq_some_iff.1 h).1]
  exact h
theorem flat_one (l : List RowV) : ∀ u ∈ flat l, u.oneCell' = true := by
  induction l with
  | nil => intro u hu; cases hu
  | cons a l ih =>
    intro u hu
    rw [show flat (a :: l) = a.cells ++ flat l from rfl, List.mem_append] at hu
    rcases hu with hu | hu
    · simp [RowV.cells] at hu
      rcases hu with rfl | rfl | rfl <;> rfl
    · exact ih u hu
theorem own_new (w : World) : (w.alloc (.cells #[] 68)).ownsRow w.heap.size 68 3 (.slice (some ⟨w.heap.size, 0, none⟩) 0 0) 0 [] := World.ownsRow_lit (base := w.heap.size) (size := 3) w #[] 0 (Nat.le_refl _) (Nat.zero_le _) rfl
theorem own_cap {w : World} {base e s n g cap : Nat} {xs : List Value} (h : w.ownsRow base e s (.slice (some ⟨g, 0, none⟩) n cap) n xs) : n ≤ cap := by
  rcases h.2 with ⟨h0, _⟩ | ⟨g', c, cur, hv, _, _, hnc, _⟩
  · cases h0
  · injection hv with _ _ e3; rw [e3]; exact hnc
theorem own_slice' {w : World} {base e s n : Nat} {v : Value} {xs : List Value} (h : w.ownsRow base e s v n xs) : ∃ a cap, v = .slice a n cap := by
  rcases h.2 with ⟨rfl, rfl⟩ | ⟨g, c, cur, rfl, _⟩
  · exact ⟨_, _, rfl⟩
  · exact ⟨_, _, rfl⟩
theorem addr_add3 (g o j : Nat) : (⟨g, o, none⟩ : Addr).add j = ⟨g, o + j, none⟩ := by unfold Addr.add; split <;> simp_all
theorem flat_get_drop {out : List RowV} {p j : Nat} {u : Value} (hp : p ≤ out.length) (h : (flat (out.drop p))[j]? = some u) : (flat out)[p * 3 + j]? = some u := by
  have e : flat out = flat (out.take p) ++ flat (out.drop p) := by rw [← flat_append, List.take_append_drop]
  have el : (flat (out.take p)).length = p * 3 := by rw [flat_length, List.length_take, Nat.min_eq_left hp]
  rw [e, List.getElem?_append_right (by omega), el, Nat.add_sub_cancel_left]
  exact h
set_option maxRecDepth 100000 in
set_option maxHeartbeats 4000000 in
theorem l3Sort_any (a : Option Addr) (n cap : Nat) (rs : List RowV) (w : World) (hm : n ≤ 1048576) (hR : Rd w w.heap.size 3 a n (flat rs)) :
    Calls Tryd.prog 82 #[.slice a n cap] w fun e w' => ∃ b c, e = .returned (.slice b n c) ∧ w'.ownsRow w.heap.size 68 3 (.slice b n c) n (flat (sortL rs)) ∧ Below w.heap.size w w' := by
  obtain ⟨i0, hi, hz0, hz1, hz2⟩ := info_parts infoRow
  have hl := Lib.hid hR.rows_length
  have hO0 : (w.alloc (.cells #[] 68)).ownsRow w.heap.size 68 3 (.slice (some ⟨w.heap.size, 0, none⟩) 0 0) 0 (flat (sortL (rs.take 0))) := World.ownsRow_lit (base := w.heap.size) (size := 3) w #[] 0 (Nat.le_refl _) (Nat.zero_le _) rfl
  go_enter Tryd.func82, Tryd.ntmps82
  go_wp2
  go_loopw [3, 4] (fun v i wr => ∃ (k g c : Nat), k ≤ n ∧ i = .int .i64 k ∧ v = .slice (some ⟨g, 0, none⟩) k c ∧ wr.ownsRow w.heap.size 68 3 (.slice (some ⟨g, 0, none⟩) k c) k (flat (sortL (rs.take k))) ∧ Below w.heap.size w wr) (fun _ i _ => n - (intOf i).toNat)
  case atStart => exact ⟨0, _, 0, Nat.zero_le _, rfl, rfl, hO0, bl1 _ _⟩
  case round =>
    obtain ⟨k, g, c, hk, rfl, rfl, hO, hb⟩ := hrel
    clear hO0
    by_cases hlt : k < n
    case neg =>
      obtain rfl : k = n := by omega
      rw [List.take_of_length_le (by rw [hl.out]; omega)] at hO
      go_wp2_with fail
      go_ret
      exact ⟨_, c, rfl, hO, hb⟩
    obtain ⟨ab, ao, r, rfl, hB, hr, _⟩ := hR.row hlt
    have Hr := Lib.hid hr
    clear hr
    have Hs := Lib.hid (show sortL (rs.take (k + 1)) = ins r (sortL (rs.take k)) by
      have hkl := (List.getElem?_eq_some_iff.1 Hr.out).1
      have e : rs[k] = r := by have := Hr.out; rw [List.getElem?_eq_getElem hkl] at this; injection this
      rw [List.take_succ_eq_append_getElem hkl, sortL_snoc, e])
    have hol := Lib.hid (show (sortL (rs.take k)).length = k by rw [sortL_length, List.length_take, hl.out]; omega)
    generalize sortL (rs.take k) = out at *
    obtain ⟨wo, hwo⟩ : ∃ x, x = wr := ⟨_, rfl⟩
    subst hwo
    go_wp2_with fail
    go_loopw [5] (fun i wq => ∃ p : Nat, p ≤ k ∧ i = .int .i64 p ∧ NotLess r out p ∧ Below wo.heap.size wo wq) (fun i _ => k - (intOf i).toNat)
    case atStart => exact ⟨0, Nat.zero_le _, rfl, fun _ _ h => absurd h (by omega), Below.refl _ _⟩
    case round =>
      obtain ⟨p, hp, rfl, hN, hbq⟩ := hrel
      by_cases hpk : p < k
      case neg =>
        have hS : ∀ x, out[p]? = some x → r.less x = true := fun x hx => by rw [List.getElem?_eq_none (by rw [hol.out]; omega)] at hx; cases hx
        have hlt' : decide ((p : Int) < (k : Int)) = false := by simp; omega
        go_wp2_with fail
        go_quiet (fail)
        have hbx := below_drewN hbq nq
        generalize wr.drewN nq = w1 at *
        have hO1 := own_below hO hbx
        have hcell1 : ∀ j u, (flat out)[j]? = some u → w1.cell? ((⟨g, 0, none⟩ : Addr).add j) = some u := hO1.cells (g := g) rfl
        have hg1 : g < w1.heap.size := (own_ge hO1 g rfl).2
        have hkc := own_cap hO
        have hpc : p ≤ c := by omega
        go_wp2_with (at_builtin; refine wpList_append_own _ rfl _ _ 27 rfl w1.heap.size 68 i0 (.agg #[.string ⟨#[]⟩, .int .i64 0, .string ⟨#[]⟩]) 3 40 Tryd.underlying27 hi hz0 hz1 hz2 rfl (by decide) _ _ _ rfl (own_new w1) ⟨g, 0, none⟩ p c (flat (out.take p)) rfl ?c0 ?c1 ?c2 ?c3 ?c4 ?c5 ?_)
        case c0 => rw [flat_length, List.length_take, hol.out, Nat.min_eq_left hp]
        case c1 =>
          intro j u hj
          have := hcell1 j u (flat_get_take hj)
          rw [World.cell?_alloc_some _ _ _ (by rw [this]; rfl)]
          exact this
        case c2 => exact flat_one _
        case c3 => unfold maxLen; omega
        case c4 => omega
        case c5 => simp
        intro v' w2 hO2 hg2 _
        obtain ⟨a', cap', rfl⟩ := own_slice' hO2
        have hb2 : Below w1.heap.size w1 w2 := ((Below.refl w1.heap.size w1).alloc (Nat.le_refl _) _).grown hg2 (by simp) (fun q e => by simp [Value.ownBlock] at e; omega)
        have hR2 := hR.below (hb.trans ((hbx.trans (hb2.mono hbx.size)).mono hb.size)) (Nat.le_refl _)
        obtain ⟨b1, o1, r1, e1, hB1, hr1, c0, c1, c2⟩ := hR2.row hlt
        obtain ⟨rfl, rfl⟩ : ab = b1 ∧ ao = o1 := by injection e1 with e; injection e with e2 e3; exact ⟨e2, e3⟩
        obtain rfl : r = r1 := by rw [Hr.out] at hr1; injection hr1
        clear hr1 e1
        go_wp2_with (at_builtin; refine wpList_append_own _ rfl _ _ 27 rfl w1.heap.size 68 i0 (.agg #[.string ⟨#[]⟩, .int .i64 0, .string ⟨#[]⟩]) 3 40 Tryd.underlying27 hi hz0 hz1 hz2 rfl (by decide) _ _ _ rfl (hO2.alloc _) ⟨w2.heap.size, 0, none⟩ 1 1 [.string r.key, .int .i64 r.tag, .string r.val] rfl rfl ?c1 ?c2 ?c3 ?c4 ?c5 ?_)
        case c1 =>
          intro j u hj
          match j, hj with
          | 0, hj => simp at hj; subst hj; simp [Addr.add, go_sem]
          | 1, hj => simp at hj; subst hj; simp [Addr.add, go_sem]
          | 2, hj => simp at hj; subst hj; simp [Addr.add, go_sem]
        case c2 =>
          intro u hu
          simp at hu
          rcases hu with rfl | rfl | rfl <;> rfl
        case c3 => unfold maxLen; omega
        case c4 => omega
        case c5 => have := hb2.size; simp; omega
        intro v' w3 hO3 hg3 _
        obtain ⟨a'', cap'', rfl⟩ := own_slice' hO3
        have hge := fun q e => (own_ge hO2 q e).1
        have hb3 : Below w1.heap.size w1 w3 := (hb2.alloc hb2.size _).grown hg3 (by have := hb2.size; simp; omega) (fun q e => hge q e)
        have hO5 := own_below hO1 hb3
        clear c0 c1 c2 hO2 hg2 hg3
        by_cases hcp : c = p
        · have hkp : k - p = 0 := by omega
          go_wp2_with (at_builtin; refine wpList_append_own _ rfl _ _ 27 rfl w1.heap.size 68 i0 (.agg #[.string ⟨#[]⟩, .int .i64 0, .string ⟨#[]⟩]) 3 40 Tryd.underlying27 hi hz0 hz1 hz2 rfl (by decide) _ _ _ rfl hO3 ⟨g, 0, none⟩ 0 0 [] rfl rfl (fun j u h => by cases h) (fun u h => by cases h) ?c3 ?c4 hb3.size ?_)
          case c3 => unfold maxLen; omega
          case c4 => omega
          intro v' w4 hO4 hg4 _
          obtain ⟨a3, cap3, rfl⟩ := own_slice' hO4
          obtain ⟨g3, rfl, _, _⟩ := own_form hO4 (by omega)
          have hE : flat (out.take p) ++ [.string r.key, .int .i64 r.tag, .string r.val] = flat (sortL (rs.take (k + 1))) := by
            rw [Hs.out, ← ins_at hN (by rw [hol.out]; exact hp) hS, List.drop_eq_nil_of_le (by rw [hol.out]; omega)]; simp [flat]
          rw [hE] at hO4
          have hn3 : p + 1 = k + 1 := by omega
          have hb4 : Below w1.heap.size w1 w4 := hb3.grown hg4 hb3.size (fun q e => (own_ge hO3 q e).1)
          have hB4 := hb.trans ((hbx.trans (hb4.mono hbx.size)).mono hb.size)
          rw [hn3] at hO4
          simp only [hn3]
          have hO6 := own_base' hO4 (show w.heap.size ≤ w1.heap.size from Nat.le_trans hb.size hbx.size)
          clear hO4 hg4 hO3 hO5 hO1 hcell1 hE
          go_wp2_with fail
          go_roundw
          case rel => exact ⟨k + 1, g3, cap3, by omega, by go_num, rfl, hO6, hB4⟩
          case measure => simp [intOf]; omega
        · have hcn : ¬ p = c := fun e => hcp e.symm
          go_wp2_with (at_builtin; refine wpList_append_own _ rfl _ _ 27 rfl w1.heap.size 68 i0 (.agg #[.string ⟨#[]⟩, .int .i64 0, .string ⟨#[]⟩]) 3 40 Tryd.underlying27 hi hz0 hz1 hz2 rfl (by decide) _ _ _ rfl hO3 ⟨g, p * 3, none⟩ (k - p) (c - p) (flat (out.drop p)) rfl ?c0 ?c1 (flat_one _) ?c3 ?c4 hb3.size ?_)
          case c0 => rw [flat_length, List.length_drop, hol.out]
          case c1 =>
            intro j u hj
            have h5 := hO5.cells (g := g) rfl (p * 3 + j) u (flat_get_drop (by rw [hol.out]; exact hp) hj)
            rw [addr_add3, Nat.zero_add] at h5
            rw [addr_add3]
            exact h5
          case c3 => unfold maxLen; omega
          case c4 => omega
          intro v' w4 hO4 hg4 _
          obtain ⟨a3, cap3, rfl⟩ := own_slice' hO4
          obtain ⟨g3, rfl, _, _⟩ := own_form hO4 (by omega)
          have hE : flat (out.take p) ++ .string r.key :: .int .i64 r.tag :: .string r.val :: flat (out.drop p) = flat (sortL (rs.take (k + 1))) := by
            rw [Hs.out, ← ins_at hN (by rw [hol.out]; exact hp) hS, List.append_assoc]; rfl
          rw [hE] at hO4
          have hn3 : p + 1 + (k - p) = k + 1 := by omega
          have hb4 : Below w1.heap.size w1 w4 := hb3.grown hg4 hb3.size (fun q e => (own_ge hO3 q e).1)
          have hB4 := hb.trans ((hbx.trans (hb4.mono hbx.size)).mono hb.size)
          rw [hn3] at hO4
          simp only [hn3]
          have hO6 := own_base' hO4 (show w.heap.size ≤ w1.heap.size from Nat.le_trans hb.size hbx.size)
          clear hO4 hg4 hO3 hO5 hO1 hcell1 hE
          go_wp2_with fail
          go_roundw
          case rel => exact ⟨k + 1, g3, cap3, by omega, by go_num, rfl, hO6, hB4⟩
          case measure => simp [intOf]; omega
      have hRq := (hR.below hb (Nat.le_refl _)).below (hbq.mono hb.size) (Nat.le_refl _)
      obtain ⟨b1, o1, r1, e1, hB1, hr1, c0, c1, c2⟩ := hRq.row hlt
      obtain ⟨rfl, rfl⟩ : ab = b1 ∧ ao = o1 := by injection e1 with e; injection e with e2 e3; exact ⟨e2, e3⟩
      obtain rfl : r = r1 := by rw [Hr.out] at hr1; injection hr1
      clear hr1 e1
      obtain ⟨b2, o2, x, e2, hB2, hx, d0, d1, d2⟩ := (Rd.of_own (own_below hO hbq)).row hpk
      obtain ⟨rfl, rfl⟩ : g = b2 ∧ 0 = o2 := by injection e2 with e; injection e with e2 e3; exact ⟨e2, e3⟩
      clear e2
      rw [Nat.zero_add] at d0 d1 d2
      have Hx := Lib.hid hx
      clear hx
      have hlt' : decide ((p : Int) < (k : Int)) = true := by simp; omega
      cases hq : r.less x
      case true =>
        have hS : ∀ x, out[p]? = some x → r.less x = true := fun y hy => by rw [Hx.out] at hy; injection hy with e; rw [← e]; exact hq
        have hq' := Lib.hid hq
        clear hq
        go_wp2_with fail
        refine wp_region_still_tail 13 (by kernel_rfl) (by kernel_rfl) ?_
        simp only [List.take_succ_cons, List.take_zero, List.drop_succ_cons, List.drop_zero]
        change wpStill _ _ wr.drew _ _ _
        repeat still_step
        refine wpStill_nil ?_
        change wpList _ _ _ _ _ wr.drew
        go_wp2_with fail
        refine (l1Less_b r x true _ hq'.out).mono ?_
        rintro e w1 ⟨rfl, hb1⟩
        clear c0 c1 c2 d0 d1 d2
        have hbx := hbq.drew.trans (hb1.mono hbq.size)
        clear hRq hB1 hB2 hb1
        have hO1 := own_below hO hbx
        have hcell1 : ∀ j u, (flat out)[j]? = some u → w1.cell? ((⟨g, 0, none⟩ : Addr).add j) = some u := hO1.cells (g := g) rfl
        have hg1 : g < w1.heap.size := (own_ge hO1 g rfl).2
        have hkc := own_cap hO
        have hpc : p ≤ c := by omega
        go_wp2_with (at_builtin; refine wpList_append_own _ rfl _ _ 27 rfl w1.heap.size 68 i0 (.agg #[.string ⟨#[]⟩, .int .i64 0, .string ⟨#[]⟩]) 3 40 Tryd.underlying27 hi hz0 hz1 hz2 rfl (by decide) _ _ _ rfl (own_new w1) ⟨g, 0, none⟩ p c (flat (out.take p)) rfl ?c0 ?c1 ?c2 ?c3 ?c4 ?c5 ?_)
        case c0 => rw [flat_length, List.length_take, hol.out, Nat.min_eq_left hp]
        case c1 =>
          intro j u hj
          have := hcell1 j u (flat_get_take hj)
          rw [World.cell?_alloc_some _ _ _ (by rw [this]; rfl)]
          exact this
        case c2 => exact flat_one _
        case c3 => unfold maxLen; omega
        case c4 => omega
        case c5 => simp
        intro v' w2 hO2 hg2 _
        obtain ⟨a', cap', rfl⟩ := own_slice' hO2
        have hb2 : Below w1.heap.size w1 w2 := ((Below.refl w1.heap.size w1).alloc (Nat.le_refl _) _).grown hg2 (by simp) (fun q e => by simp [Value.ownBlock] at e; omega)
        have hR2 := hR.below (hb.trans ((hbx.trans (hb2.mono hbx.size)).mono hb.size)) (Nat.le_refl _)
        obtain ⟨b1, o1, r1, e1, hB1, hr1, c0, c1, c2⟩ := hR2.row hlt
        obtain ⟨rfl, rfl⟩ : ab = b1 ∧ ao = o1 := by injection e1 with e; injection e with e2 e3; exact ⟨e2, e3⟩
        obtain rfl : r = r1 := by rw [Hr.out] at hr1; injection hr1
        clear hr1 e1
        go_wp2_with (at_builtin; refine wpList_append_own _ rfl _ _ 27 rfl w1.heap.size 68 i0 (.agg #[.string ⟨#[]⟩, .int .i64 0, .string ⟨#[]⟩]) 3 40 Tryd.underlying27 hi hz0 hz1 hz2 rfl (by decide) _ _ _ rfl (hO2.alloc _) ⟨w2.heap.size, 0, none⟩ 1 1 [.string r.key, .int .i64 r.tag, .string r.val] rfl rfl ?c1 ?c2 ?c3 ?c4 ?c5 ?_)
        case c1 =>
          intro j u hj
          match j, hj with
          | 0, hj => simp at hj; subst hj; simp [Addr.add, go_sem]
          | 1, hj => simp at hj; subst hj; simp [Addr.add, go_sem]
          | 2, hj => simp at hj; subst hj; simp [Addr.add, go_sem]
        case c2 =>
          intro u hu
          simp at hu
          rcases hu with rfl | rfl | rfl <;> rfl
        case c3 => unfold maxLen; omega
        case c4 => omega
        case c5 => have := hb2.size; simp; omega
        intro v' w3 hO3 hg3 _
        obtain ⟨a'', cap'', rfl⟩ := own_slice' hO3
        have hge := fun q e => (own_ge hO2 q e).1
        have hb3 : Below w1.heap.size w1 w3 := (hb2.alloc hb2.size _).grown hg3 (by have := hb2.size; simp; omega) (fun q e => hge q e)
        have hO5 := own_below hO1 hb3
        clear c0 c1 c2 hO2 hg2 hg3
        by_cases hcp : c = p
        · have hkp : k - p = 0 := by omega
          go_wp2_with (at_builtin; refine wpList_append_own _ rfl _ _ 27 rfl w1.heap.size 68 i0 (.agg #[.string ⟨#[]⟩, .int .i64 0, .string ⟨#[]⟩]) 3 40 Tryd.underlying27 hi hz0 hz1 hz2 rfl (by decide) _ _ _ rfl hO3 ⟨g, 0, none⟩ 0 0 [] rfl rfl (fun j u h => by cases h) (fun u h => by cases h) ?c3 ?c4 hb3.size ?_)
          case c3 => unfold maxLen; omega
          case c4 => omega
          intro v' w4 hO4 hg4 _
          obtain ⟨a3, cap3, rfl⟩ := own_slice' hO4
          obtain ⟨g3, rfl, _, _⟩ := own_form hO4 (by omega)
          have hE : flat (out.take p) ++ [.string r.key, .int .i64 r.tag, .string r.val] = flat (sortL (rs.take (k + 1))) := by
            rw [Hs.out, ← ins_at hN (by rw [hol.out]; exact hp) hS, List.drop_eq_nil_of_le (by rw [hol.out]; omega)]; simp [flat]
          rw [hE] at hO4
          have hn3 : p + 1 = k + 1 := by omega
          have hb4 : Below w1.heap.size w1 w4 := hb3.grown hg4 hb3.size (fun q e => (own_ge hO3 q e).1)
          have hB4 := hb.trans ((hbx.trans (hb4.mono hbx.size)).mono hb.size)
          rw [hn3] at hO4
          simp only [hn3]
          have hO6 := own_base' hO4 (show w.heap.size ≤ w1.heap.size from Nat.le_trans hb.size hbx.size)
          clear hO4 hg4 hO3 hO5 hO1 hcell1 hE
          go_wp2_with fail
          go_roundw
          case rel => exact ⟨k + 1, g3, cap3, by omega, by go_num, rfl, hO6, hB4⟩
          case measure => simp [intOf]; omega
        · have hcn : ¬ p = c := fun e => hcp e.symm
          go_wp2_with (at_builtin; refine wpList_append_own _ rfl _ _ 27 rfl w1.heap.size 68 i0 (.agg #[.string ⟨#[]⟩, .int .i64 0, .string ⟨#[]⟩]) 3 40 Tryd.underlying27 hi hz0 hz1 hz2 rfl (by decide) _ _ _ rfl hO3 ⟨g, p * 3, none⟩ (k - p) (c - p) (flat (out.drop p)) rfl ?c0 ?c1 (flat_one _) ?c3 ?c4 hb3.size ?_)
          case c0 => rw [flat_length, List.length_drop, hol.out]
          case c1 =>
            intro j u hj
            have h5 := hO5.cells (g := g) rfl (p * 3 + j) u (flat_get_drop (by rw [hol.out]; exact hp) hj)
            rw [addr_add3, Nat.zero_add] at h5
            rw [addr_add3]
            exact h5
          case c3 => unfold maxLen; omega
          case c4 => omega
          intro v' w4 hO4 hg4 _
          obtain ⟨a3, cap3, rfl⟩ := own_slice' hO4
          obtain ⟨g3, rfl, _, _⟩ := own_form hO4 (by omega)
          have hE : flat (out.take p) ++ .string r.key :: .int .i64 r.tag :: .string r.val :: flat (out.drop p) = flat (sortL (rs.take (k + 1))) := by
            rw [Hs.out, ← ins_at hN (by rw [hol.out]; exact hp) hS, List.append_assoc]; rfl
          rw [hE] at hO4
          have hn3 : p + 1 + (k - p) = k + 1 := by omega
          have hb4 : Below w1.heap.size w1 w4 := hb3.grown hg4 hb3.size (fun q e => (own_ge hO3 q e).1)
          have hB4 := hb.trans ((hbx.trans (hb4.mono hbx.size)).mono hb.size)
          rw [hn3] at hO4
          simp only [hn3]
          have hO6 := own_base' hO4 (show w.heap.size ≤ w1.heap.size from Nat.le_trans hb.size hbx.size)
          clear hO4 hg4 hO3 hO5 hO1 hcell1 hE
          go_wp2_with fail
          go_roundw
          case rel => exact ⟨k + 1, g3, cap3, by omega, by go_num, rfl, hO6, hB4⟩
          case measure => simp [intOf]; omega
      have hq' := Lib.hid hq
      have hN' := hN.succ Hx.out hq
      clear hq hN
      go_wp2_with fail
      refine wp_region_still_tail 13 (by kernel_rfl) (by kernel_rfl) ?_
      simp only [List.take_succ_cons, List.take_zero, List.drop_succ_cons, List.drop_zero]
      change wpStill _ _ wr.drew _ _ _
      repeat still_step
      refine wpStill_nil ?_
      change wpList _ _ _ _ _ wr.drew
      go_wp2_with fail
      refine (l1Less_b r x false _ hq'.out).mono ?_
      rintro e w1 ⟨rfl, hb1⟩
      clear c0 c1 c2 d0 d1 d2
      go_wp2_with fail
      go_roundw
      case rel => exact ⟨p + 1, by omega, by go_num, hN', hbq.drew.trans (hb1.mono hbq.size)⟩
      case measure => simp [intOf]; omega
end Go.Proofs.YtallcholbbfkdaaDoor
