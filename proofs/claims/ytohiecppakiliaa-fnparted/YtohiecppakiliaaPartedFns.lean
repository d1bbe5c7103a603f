/-
  impl.Parted and spec.Parted by their contracts. Condition: at most 1048576 rows.
-/
import Derived.Test.YtohiecppakiliaaDealtP
namespace Go.Proofs.Ytohiecppakiliaa
open Go.RowKit

theorem POwn.nil (w : World) (lo : Nat) : POwn w lo none 0 0 [] [] := ⟨World.ownsRow_nil w lo _ _, Fam.nil w lo, fun v hv => by cases hv⟩
def partedB (rs : List RowV) (N : Int) : Bool := rowsOk rs && inP N
def partedS (rs : List RowV) (N : Int) : List (List RowV) := if partedB rs N = true then partsL (partF N.toNat) N.toNat rs else []
/-- What Parted returns. -/
def PartedOut (rs : List RowV) (N : Int) (w : World) (e : Ending) (w' : World) : Prop :=
  ∃ a c vs, e = .returned (.tuple #[.slice a (partedS rs N).length c, .bool (partedB rs N)]) ∧ Below w.heap.size w w' ∧ POwn w' w.heap.size a (partedS rs N).length c vs (partedS rs N)
theorem rowsOk_key {rs : List RowV} (h : rowsOk rs = true) {r : RowV} (hr : r ∈ rs) : r.key.size ≤ 12 := by
  unfold rowsOk at h
  rw [Bool.and_eq_true] at h
  have := List.all_eq_true.1 h.2 r hr
  unfold RowV.ok okB at this
  exact (of_decide_eq_true this).1
theorem rowsOk_len {rs : List RowV} (h : rowsOk rs = true) : rs.length ≤ 120 := by
  unfold rowsOk at h
  rw [Bool.and_eq_true] at h
  exact of_decide_eq_true h.1
theorem POwn.base {w : World} {lo lo' n c : Nat} {a : Option Addr} {vs : List Value} {ps : List (List RowV)} (h : POwn w lo a n c vs ps) (hl : lo' ≤ lo) : POwn w lo' a n c vs ps := ⟨own_base' h.outer hl, h.fam.base hl, h.out⟩
theorem placeP_any (B M : Nat) (r : RowV) (w : World) (hk : r.key.size ≤ 12) (hM1 : 1 ≤ M) (hM8 : M ≤ 8) (hB : w.cell? ⟨B, 0, none⟩ = some (.int .i64 M)) :
    Calls Try.prog 64 #[.string r.key, .pointer (some ⟨B, 0, none⟩)] w fun e w' => e = .returned (.int .i64 (partF M r)) ∧ w = w' := by
  have E := Lib.hid (show partOf r.key M = (partF M r : Int) by
    rw [partOf, if_pos ⟨hk, by omega, by omega⟩]; exact (partF_int (by omega) r).1)
  go_enter Try.func64, Try.ntmps64
  go_wp2_with fail
  refine (implPartOf_any r.key M _ (by unfold maxLen; omega)).mono ?_
  rintro e w1 ⟨rfl, rfl⟩
  go_wp2_with fail
  go_ret
  exact ⟨ret_int E.out, rfl⟩
set_option maxRecDepth 100000 in
set_option maxHeartbeats 1000000 in
theorem implParted_any (a : Option Addr) (n cap : Nat) (rs : List RowV) (N : Int) (w : World) (hm : n ≤ 1048576) (hok : ∀ r ∈ rs, r.Ok) (hR : Rd w w.heap.size 3 a n (flat rs)) :
    Calls Try.prog 28 #[.slice a n cap, .int .i64 N] w (PartedOut rs N w) := by
  have hb0 := bl1 w (.cells #[.int .i64 N] 2)
  have d0 : (w.alloc (.cells #[.int .i64 N] 2)).cell? ⟨w.heap.size, 0, none⟩ = some (.int .i64 N) := by simp [go_sem]
  have s0 : w.heap.size < (w.alloc (.cells #[.int .i64 N] 2)).heap.size := by simp
  have C0 := implRowsOk_any a n cap rs (w.alloc (.cells #[.int .i64 N] 2)) hm hok ((hR.below hb0 (Nat.le_refl _)).more hb0.size)
  unfold PartedOut
  cases hq : rowsOk rs
  case false =>
    rw [hq] at C0
    have E : partedB rs N = false := by unfold partedB; rw [hq]; rfl
    have E2 : partedS rs N = [] := by unfold partedS; rw [E]; rfl
    rw [E2, E]
    clear hq E E2
    go_enter Try.func28, Try.ntmps28
    go_wp2_with fail
    refine C0.mono ?_
    rintro e w1 ⟨rfl, hb1⟩
    have hb := hb0.trans (hb1.mono hb0.size)
    go_wp2_with fail
    go_ret2
    exact ⟨none, 0, [], rfl, hb, POwn.nil _ _⟩
  rw [hq] at C0
  cases hp : inP N
  case false =>
    have E : partedB rs N = false := by unfold partedB; rw [hp, Bool.and_false]
    have E2 : partedS rs N = [] := by unfold partedS; rw [E]; rfl
    rw [E2, E]
    have hp' := Lib.hid hp
    clear hq hp E E2
    go_enter Try.func28, Try.ntmps28
    go_wp2_with fail
    refine C0.mono ?_
    rintro e w1 ⟨rfl, hb1⟩
    have hb := hb0.trans (hb1.mono hb0.size)
    have d1 := (hb1.cell (p := ⟨w.heap.size, 0, none⟩) s0).trans d0
    go_wp2_with fail
    refine (partsOk_b N false _ hp'.out).mono ?_
    rintro e w2 ⟨rfl, hb2⟩
    have hb' := hb.trans (hb2.mono hb.size)
    go_wp2_with fail
    go_ret2
    exact ⟨none, 0, [], rfl, hb', POwn.nil _ _⟩
  obtain ⟨hN1, hN8⟩ : 1 ≤ N ∧ N ≤ 8 := by simpa [inP] using hp
  obtain ⟨M, rfl⟩ : ∃ M : Nat, N = (M : Int) := ⟨N.toNat, by omega⟩
  have E : partedB rs M = true := by unfold partedB; rw [hp, hq]; rfl
  have E2 : partedS rs M = partsL (partF M) M rs := by unfold partedS; rw [E]; rfl
  rw [E2, E, partsL_length]
  have hp' := Lib.hid hp
  have hq' := Lib.hid hq
  clear hq hp E E2
  go_enter Try.func28, Try.ntmps28
  go_wp2_with fail
  refine C0.mono ?_
  rintro e w1 ⟨rfl, hb1⟩
  have hb := hb0.trans (hb1.mono hb0.size)
  have d1 := (hb1.cell (p := ⟨w.heap.size, 0, none⟩) s0).trans d0
  have s1 : w.heap.size < w1.heap.size := Nat.lt_of_lt_of_le s0 hb1.size
  clear C0 hb1 d0 s0 hb0
  go_wp2_with fail
  refine (partsOk_b M true _ hp'.out).mono ?_
  rintro e w2 ⟨rfl, hb2⟩
  have hb' := hb.trans (hb2.mono hb.size)
  have d2 := (hb2.cell (p := ⟨w.heap.size, 0, none⟩) s1).trans d1
  have s2 : w.heap.size < w2.heap.size := Nat.lt_of_lt_of_le s1 hb2.size
  have C2 := dealtP_any a n cap M w.heap.size rs (partF M) w2 hm (by omega) (by omega) hok ((hR.below hb' (Nat.le_refl _)).more hb'.size) (fun r _ => (partF_int (by omega) r).2)
    (fun W r hW _ hr => placeP_any w.heap.size M r W (rowsOk_key hq'.out hr) (by omega) (by omega) ((hW.cell (p := ⟨w.heap.size, 0, none⟩) s2).trans d2))
  clear d1 hb hb2 s1
  go_wp2_with fail
  refine C2.mono ?_
  rintro e w3 ⟨g, vs, rfl, hb3, hP⟩
  have hb4 := hb'.trans (hb3.mono hb'.size)
  have hP' := hP.base hb'.size
  clear C2 hP hb3
  go_wp2_with fail
  go_ret2
  exact ⟨_, M, vs, rfl, hb4, hP'⟩
set_option maxRecDepth 100000 in
set_option maxHeartbeats 1000000 in
theorem specParted_any (a : Option Addr) (n cap : Nat) (rs : List RowV) (N : Int) (w : World) (hm : n ≤ 1048576) (hok : ∀ r ∈ rs, r.Ok) (hR : Rd w w.heap.size 3 a n (flat rs)) :
    Calls Try.prog 29 #[.slice a n cap, .int .i64 N] w (PartedOut rs N w) := by
  have C0 := specRowsOk_any a n cap rs w hm hok hR
  unfold PartedOut
  cases hq : rowsOk rs
  case false =>
    rw [hq] at C0
    have E : partedB rs N = false := by unfold partedB; rw [hq]; rfl
    have E2 : partedS rs N = [] := by unfold partedS; rw [E]; rfl
    rw [E2, E]
    clear hq E E2
    go_enter Try.func29, Try.ntmps29
    go_wp2_with fail
    refine C0.mono ?_
    rintro e w1 ⟨rfl, hb1⟩
    go_wp2_with fail
    go_ret2
    exact ⟨none, 0, [], rfl, hb1, POwn.nil _ _⟩
  rw [hq] at C0
  cases hp : inP N
  case false =>
    have E : partedB rs N = false := by unfold partedB; rw [hp, Bool.and_false]
    have E2 : partedS rs N = [] := by unfold partedS; rw [E]; rfl
    rw [E2, E]
    have hp' := Lib.hid hp
    clear hq hp E E2
    go_enter Try.func29, Try.ntmps29
    go_wp2_with fail
    refine C0.mono ?_
    rintro e w1 ⟨rfl, hb1⟩
    go_wp2_with fail
    refine (l1In_b N false _ hp'.out).mono ?_
    rintro e w2 ⟨rfl, hb2⟩
    have hb' := hb1.trans (hb2.mono hb1.size)
    go_wp2_with fail
    go_ret2
    exact ⟨none, 0, [], rfl, hb', POwn.nil _ _⟩
  obtain ⟨hN1, hN8⟩ : 1 ≤ N ∧ N ≤ 8 := by simpa [inP] using hp
  obtain ⟨M, rfl⟩ : ∃ M : Nat, N = (M : Int) := ⟨N.toNat, by omega⟩
  have E : partedB rs M = true := by unfold partedB; rw [hp, hq]; rfl
  have E2 : partedS rs M = partsL (partF M) M rs := by unfold partedS; rw [E]; rfl
  rw [E2, E, partsL_length]
  have hp' := Lib.hid hp
  clear hq hp E E2
  go_enter Try.func29, Try.ntmps29
  go_wp2_with fail
  refine C0.mono ?_
  rintro e w1 ⟨rfl, hb1⟩
  go_wp2_with fail
  refine (l1In_b M true _ hp'.out).mono ?_
  rintro e w2 ⟨rfl, hb2⟩
  have hb' := hb1.trans (hb2.mono hb1.size)
  have C2 := l2Parted_any a n cap M rs w2 hm (by omega) (by omega) hok ((hR.below hb' (Nat.le_refl _)).more hb'.size)
  clear C0 hb1 hb2
  go_wp2_with fail
  refine C2.mono ?_
  rintro e w3 ⟨g, vs, rfl, hb3, hP⟩
  have hb4 := hb'.trans (hb3.mono hb'.size)
  have hP' := hP.base hb'.size
  clear C2 hP hb3
  go_wp2_with fail
  go_ret2
  exact ⟨_, M, vs, rfl, hb4, hP'⟩
theorem partedS_le (rs : List RowV) (N : Int) : (partedS rs N).length ≤ 1048576 ∧ rowsIn (partedS rs N) ≤ 1048576 := by
  unfold partedS
  split
  · rename_i h
    unfold partedB at h
    rw [Bool.and_eq_true] at h
    have h1 := rowsOk_len h.1
    obtain ⟨hN1, hN8⟩ : 1 ≤ N ∧ N ≤ 8 := by simpa [inP] using h.2
    rw [partsL_length, rowsIn_partsL _ _ _ (fun r _ => (partF_int (by omega) r).2)]
    omega
  · simp [rowsIn]
end Go.Proofs.Ytohiecppakiliaa
