/-
  Rows.FnPartedPiecesSaid: laws.FnPartedPieces returns true for every input, and each argument reads afterwards as it read before. No conditions.
-/
import Derived.Test.YtfbgimchkdffmaaDrawRows
import Derived.Test.YtfbgimchkdffmaaPartedFns
import Derived.Test.YtfbgimchkdffmaaAppendAny
import Derived.Test.YtfbgimchkdffmaaSameParts
import Derived.Test.YtfbgimchkdffmaaSortedPieces
import Derived.Test.YtfbgimchkdffmaaOpenBytes
import Derived.Deep.RegionHeld3
import Derived.Deep.DrawnRows
import Derived.Test.YtfbgimchkdffmaaOpen
namespace Go.Proofs.Ytfbgimchkdffmaa
open Go.RowKit
set_option maxRecDepth 100000 in
theorem drawParted_cap (a : Option Addr) (len cap : Nat) (w : World) (hl : len ≤ 1048576) (h : IsBy w w.heap.size a len) :
    Calls Try.prog 53 #[.slice a len cap] w fun e w' => ∃ (l : List RowV) (t : Int) (b c : Nat), l.length ≤ 12 ∧ (∀ r ∈ l, r.Ok) ∧ l.length ≤ c ∧ e = .returned (.tuple #[.slice (some ⟨b, 0, none⟩) l.length c, .int .i64 t]) ∧ Rd w' w'.heap.size 3 (some ⟨b, 0, none⟩) l.length (flat l) ∧ Below w.heap.size w w' := by
  go_enter Try.func53, Try.ntmps53
  go_wp2_with fail
  refine (l1Open_any a len cap w hl h).mono ?_
  rintro e w1 ⟨rfl, hR1, hb1⟩
  go_wp2_with fail
  refine (rows_lit w.heap.size len 12 _ _ hR1 (by omega) (by omega) (by omega)).mono ?_
  rintro e w2 ⟨l, b, c, hll, hok, rfl, hO, hD⟩
  have hlt := hR1.lt
  have hcap := own_cap hO
  go_wp2_with fail
  refine (off_any w.heap.size len 1 5 _ hD.rdr (by omega) (by omega) (by omega)).mono ?_
  rintro e w3 ⟨z, hz0, hz1, rfl, hD3⟩
  have hO3 := Rd.of_own (hD3.own hO hlt)
  have hb3 := below_drew hb1 (hD.trans hD3)
  clear hO
  go_wp2_with fail
  go_ret2
  exact ⟨l, z, b, c, hll, hok, hcap, rfl, hO3, hb3⟩
theorem partsP_yes {l : List RowV} {N : Int} (h : partedB l N = true) : partedS l N = partsL (partF N.toNat) N.toNat l := if_pos h
theorem partsP_no {l : List RowV} {N : Int} (h : partedB l N = false) : partedS l N = [] := if_neg (by rw [h]; simp)
theorem partedB_in {l : List RowV} {N : Int} (h : partedB l N = true) : 1 ≤ N ∧ N ≤ 8 := by
  unfold partedB inP at h
  simp only [Bool.and_eq_true, decide_eq_true_eq] at h
  exact h.2
theorem partsP_rows (l : List RowV) (N : Int) : rowsIn (partedS l N) ≤ l.length := by
  cases h : partedB l N
  · rw [partsP_no h]; exact Nat.zero_le _
  · have := partedB_in h
    rw [partsP_yes h, rowsIn_partsL _ _ _ (fun r _ => (partF_int (show 0 < N.toNat by omega) r).2)]; exact Nat.le_refl _
theorem partsP_len (l : List RowV) (N : Int) : (partedS l N).length ≤ 8 := by
  cases h : partedB l N
  · rw [partsP_no h]; exact Nat.zero_le _
  · have := partedB_in h
    rw [partsP_yes h, partsL_length]; omega
end Go.Proofs.Ytfbgimchkdffmaa

namespace Go.Proofs.Ytfbgimchkdffmaa
open Go.RowKit
theorem step_append_g {P : Program} {ops : Array Oper} {o : Oper} {a : Act} {w : World} {K : Act → World → Prop} {Q : Exit → Act → World → Prop} {E : Prop}
    (hw : Region.wanted o (yielded ops a.tmps) = true) (s x : Operand) (t : TypeId) (hop : o.op = Op.call { callee := Callee.builtin Builtin.append, args := #[s, x], argTypes := #[t, t] })
    (base : Nat) (e : TypeId) (i : TypeInfo) (z : Value) (size bytes : Nat) (ht : P.underlying t = some (.slice e)) (hi : P.info? e = some i) (hz : i.zero = some z)
    (hsize : i.size = size) (hby : i.bytes = bytes) (hzs : z.cells.size = size) (hsz : 0 < size)
    (v : Value) (n : Nat) (xs : List Value) (hs : a.eval s = v) (hown : w.ownsRow base e size v n xs)
    (ao : Option Addr) (B m c : Nat) (news : List Value) (hx : a.eval x = .slice ao m c) (hR : Rd w B size ao m news) (h1 : ∀ u ∈ news, u.oneCell' = true)
    (h63 : n + m ≤ maxLen) (hbytes : (n + m) * bytes ≤ 140737488355328) (hbase : base ≤ w.heap.size)
    (h : ∀ v' w', w'.ownsRow base e size v' (n + m) (xs ++ news) → w.grownBy w' v.ownBlock → (v'.ownBlock = v.ownBlock ∨ v'.ownBlock = some w.heap.size) → K (a.put o.dst v') w') :
    if Region.wanted o (yielded ops a.tmps) = true then Oper.wp P o a w K Q else E := by
  rw [if_pos hw]
  obtain ⟨v', w', hr, h2, h3, h5⟩ := run_append_rd (P := P) w base t o.type e i z size bytes ht hi hz hsize hby hzs hsz v n xs hown ao B m c news hR h1 h63 hbytes hbase
  unfold Oper.wp
  simp [execOp, hop, resolve, invoke, builtin, hs, hx, hr, Result.andThen]
  exact h v' w' h2 h3 h5
end Go.Proofs.Ytfbgimchkdffmaa

namespace Go.Proofs.Ytfbgimchkdffmaa
open Go.RowKit
attribute [local go_sem ↓] Go.wp_at_zero Go.wp_at_succ
theorem flat_one2 (l : List RowV) : ∀ u ∈ flat l, u.oneCell' = true := by
  induction l with
  | nil => simp [flat]
  | cons r l ih =>
    intro u hu
    rw [flat_cons] at hu
    simp only [List.mem_cons] at hu
    rcases hu with rfl | rfl | rfl | hu
    · rfl
    · rfl
    · rfl
    · exact ih u hu
theorem keepIn {v W W' : World} {C : World → Prop} (hC : ∀ W, Below v.heap.size v W → C W) (H : Below v.heap.size W W') (G : C W ∧ Below v.heap.size v W) : C W' ∧ Below v.heap.size v W' := ⟨hC _ (G.2.trans H), G.2.trans H⟩
theorem keepFirst {v : World} {C : World → Prop} (hC : ∀ W, Below v.heap.size v W → C W) : C v.drew ∧ Below v.heap.size v v.drew := ⟨hC _ (Below.refl _ _).drew, (Below.refl _ _).drew⟩
theorem keepNew {v W : World} {C : World → Prop} {o : Obj} (hC : ∀ W, Below v.heap.size v W → C W) (G : C W ∧ Below v.heap.size v W) : C (W.alloc o) ∧ Below v.heap.size v (W.alloc o) := ⟨hC _ (G.2.alloc G.2.size _), G.2.alloc G.2.size _⟩
theorem rowsOk_part {l : List RowV} (p : RowV → Bool) (h : rowsOk l = true) : rowsOk (l.filter p) = true := rowsOk_sub h List.filter_sublist
theorem part_again (f : RowV → Nat) (l : List RowV) (q : Nat) : (l.filter fun r => f r == q).filter (fun r => f r == q) = l.filter fun r => f r == q := by
  rw [List.filter_filter]; simp
set_option maxRecDepth 100000 in
set_option maxHeartbeats 4000000 in
theorem walk_PartedPieces (a : Option Addr) (len cap : Nat) (xs : List Value) (w : World) (hI : IsCode w a len cap xs) :
    Calls Try.prog 13 #[.slice a len cap] w fun e w' => e = .returned (.bool true) ∧ Below w.heap.size w w' := by
  obtain ⟨i0, hi, hz0, hz1, hz2⟩ := info_parts infoRow
  have hI0 := hI.by_
  obtain ⟨hlc, hcm, _, _⟩ := hI
  go_enter Try.func13, Try.ntmps13
  go_wp2_with fail
  refine (big_any a len cap w (by omega)).mono ?_
  rintro e w0 ⟨rfl, rfl⟩
  by_cases hbig : 1048576 < len
  · have hd : decide (1048576 < len) = true := by simpa using hbig
    rw [hd]
    go_wp2_with fail
    go_ret
    exact ⟨rfl, Below.refl _ _⟩
  have hd : decide (1048576 < len) = false := by simpa using hbig
  rw [hd]
  go_wp2_with fail
  refine (drawParted_cap a len cap w (by omega) hI0).mono ?_
  rintro e w1 ⟨l, N, lb, lc, hll, hok, hlcap, rfl, L, hb⟩
  have B := hb
  clear hb
  go_wp2_with fail
  refine (implParted_any _ l.length lc l N w1 (by omega) hok L).mono ?_
  rintro e w2 ⟨pa, pc, pv, rfl, hb, P⟩
  replace B := B.trans (hb.mono B.size)
  replace L := (L.below hb (Nat.le_refl _)).more hb.size
  clear hb
  replace P := P.rd
  go_wp2_with fail
  refine (specParted_any _ l.length lc l N w2 (by omega) hok L).mono ?_
  rintro e w3 ⟨ta, tc, tv, rfl, hb, T⟩
  replace B := B.trans (hb.mono B.size)
  replace L := (L.below hb (Nat.le_refl _)).more hb.size
  replace P := (P.below hb (Nat.le_refl _)).more hb.size
  clear hb
  replace T := T.rd
  have hr1 := partsP_rows l N
  have hr2 := partsP_len l N
  go_wp2_with fail
  refine (sameParts_same pa ta _ pc tc (partedS l N) w3 (by omega) (by omega) P T).mono ?_
  rintro e w4 ⟨rfl, hb⟩
  replace B := B.trans (hb.mono B.size)
  replace L := (L.below hb (Nat.le_refl _)).more hb.size
  replace P := (P.below hb (Nat.le_refl _)).more hb.size
  replace T := (T.below hb (Nat.le_refl _)).more hb.size
  clear hb
  cases hq : partedB l N
  · clear L
    go_wp2_with fail
    refine (sameParts_same pa ta _ pc tc (partedS l N) w4 (by omega) (by omega) P T).mono ?_
    rintro e w5 ⟨rfl, hb⟩
    replace B := B.trans (hb.mono B.size)
    replace P := (P.below hb (Nat.le_refl _)).more hb.size
    replace T := (T.below hb (Nat.le_refl _)).more hb.size
    clear hb
    go_wp2_with fail
    go_ret
    exact ⟨rfl, B⟩
  have hin := partedB_in hq
  obtain ⟨M, rfl⟩ : ∃ M : Nat, N = (M : Int) := ⟨N.toNat, by omega⟩
  have hM1 : 1 ≤ M := by omega
  have hM8 : M ≤ 8 := by omega
  clear hin
  have hro : rowsOk l = true := by unfold partedB at hq; exact (Bool.and_eq_true _ _ ▸ hq).1
  have hinP : inP (M : Int) = true := by unfold partedB at hq; exact (Bool.and_eq_true _ _ ▸ hq).2
  have HP := Lib.hid (show partedS l (M : Int) = partsL (partF M) M l from partsP_yes hq)
  have HPl := Lib.hid (show (partedS l (M : Int)).length = M by rw [HP.out, partsL_length])
  rw [HPl.out]
  rw [HPl.out, HP.out] at P
  clear T hr1 hr2 HPl HP hq
  obtain ⟨k, hk1, hk2⟩ : ∃ k : Nat, k ≤ l.length ∧ (k : Int) = (len : Int) % ((l.length : Int) + 1) := ⟨len % (l.length + 1), by have := Nat.mod_lt len (show 0 < l.length + 1 by omega); omega, by simp⟩
  have Hk := Lib.hid hk2
  have Hkn := Lib.hid (show len % (l.length + 1) = k by have h := hk2; exact (Int.ofNat.inj (by simpa using h)).symm)
  have hY : ∀ x, rowsOk x = true → partedB x (M : Int) = true := fun x h => by unfold partedB; rw [h, hinP]; rfl
  have hA := hY _ (rowsOk_sub hro (List.take_sublist k l))
  have hD := hY _ (rowsOk_sub hro (List.drop_sublist k l))
  have HY := Lib.hid (show ∀ q, partedB (l.filter fun r => partF M r == q) (M : Int) = true from fun q => hY _ (rowsOk_part _ hro))
  have HAs := Lib.hid (show partedS (l.take k) (M : Int) = partsL (partF M) M (l.take k) from partsP_yes hA)
  have HDs := Lib.hid (show partedS (l.drop k) (M : Int) = partsL (partF M) M (l.drop k) from partsP_yes hD)
  have HAl := Lib.hid (show (partedS (l.take k) (M : Int)).length = M by rw [HAs.out, partsL_length])
  have HDl := Lib.hid (show (partedS (l.drop k) (M : Int)).length = M by rw [HDs.out, partsL_length])
  have HA := Lib.hid hA
  have HD := Lib.hid hD
  clear hA hD hk2 hro hY hinP
  have hokA : ∀ r ∈ l.take k, r.Ok := fun r hr => hok r (List.mem_of_mem_take hr)
  have hokD : ∀ r ∈ l.drop k, r.Ok := fun r hr => hok r (List.mem_of_mem_drop hr)
  have C := implParted_any (some ⟨lb, 0, none⟩) k lc (l.take k) (M : Int) w4 (by omega) hokA (L.take hk1)
  unfold PartedOut at C
  rw [HA.out, HAl.out, HAs.out] at C
  have hr1 : 0 ≤ (len : Int) % ((l.length : Int) + 1) ∧ (len : Int) % ((l.length : Int) + 1) ≤ (lc : Int) := by rw [← Hk.out]; omega
  go_wp2_with fail
  rw [← Hk.out]
  rw [Hkn.out]
  refine C.mono ?_
  clear C hr1
  rintro e w15 ⟨aa, ac, av, rfl, hb, A⟩
  replace A := A.rd
  replace B := B.trans (hb.mono B.size)
  replace P := (P.below hb (Nat.le_refl _)).more hb.size
  replace L := (L.below hb (Nat.le_refl _)).more hb.size
  clear hb
  have hkl : (k : Int) ≤ (l.length : Int) := by omega
  have C := implParted_any _ (l.length - k) (lc - k) (l.drop k) (M : Int) w15 (by omega) hokD (L.drop_if hk1 hlcap)
  unfold PartedOut at C
  rw [HD.out, HDl.out, HDs.out] at C
  go_wp2_with fail
  all_goals
    first
      | rw [if_pos (by assumption), show lc - k = 0 by omega] at C
      | rw [if_neg (by assumption)] at C
    refine C.mono ?_
    clear C L HA HAl HAs HD HDl HDs hokA hokD
    rintro e w6 ⟨da, dc, dv, rfl, hb, D⟩
    replace D := D.rd
    replace B := B.trans (hb.mono B.size)
    replace P := (P.below hb (Nat.le_refl _)).more hb.size
    replace A := (A.below hb (Nat.le_refl _)).more hb.size
    clear hb
    go_wp2_with fail
    go_loopw [14] (fun i wr => ∃ q : Nat, q ≤ M ∧ i = .int .i64 q ∧ Below w6.heap.size w6 wr) (fun i _ => M - (intOf i).toNat)
    case atStart => exact ⟨0, Nat.zero_le _, rfl, Below.refl _ _⟩
    case round =>
      obtain ⟨q, hq, rfl, hb⟩ := hrel
      by_cases hqn : q < M
      · obtain ⟨b1, o1, a1, c1, r1, rfl, hB1, hr1, d1, R1⟩ := (A.below hb (Nat.le_refl _)).at_ hqn
        obtain ⟨b2, o2, a2, c2, r2, rfl, hB2, hr2, d2, R2⟩ := (D.below hb (Nat.le_refl _)).at_ hqn
        obtain ⟨b3, o3, a3, c3, r3, rfl, hB3, hr3, d3, R3⟩ := (P.below hb (Nat.le_refl _)).at_ hqn
        have hl3 : r3 = l.filter (fun r => partF M r == q) := by
          rw [partsL_get hqn] at hr3
          exact (Option.some.inj hr3).symm
        have R1' := R1.more hb.size
        have R2' := R2.more hb.size
        have R3' := R3.more hb.size
        clear R1 R2 R3
        have hl1 : r1.length ≤ l.length := by
          rw [partsL_get hqn] at hr1
          obtain rfl := (Option.some.inj hr1)
          have := List.length_filter_le (fun r => partF M r == q) (l.take k)
          rw [List.length_take] at this
          omega
        have hl2 : r2.length ≤ l.length := by
          rw [partsL_get hqn] at hr2
          obtain rfl := (Option.some.inj hr2)
          have := List.length_filter_le (fun r => partF M r == q) (l.drop k)
          rw [List.length_drop] at this
          omega
        have H3 := Lib.hid hl3
        clear hl3
        obtain rfl : r1 ++ r2 = r3 := by
          rw [partsL_get hqn] at hr1 hr2 hr3
          rw [← Option.some.inj hr1, ← Option.some.inj hr2, ← Option.some.inj hr3, ← List.filter_append, List.take_append_drop]
        rw [List.length_append] at d3 R3'
        have hC := Lib.hid (show ∀ w', Below wr.heap.size wr w' → w'.cell? ⟨b1, o1 + q, none⟩ = some (.slice a1 r1.length c1) ∧ w'.cell? ⟨b2, o2 + q, none⟩ = some (.slice a2 r2.length c2) ∧ w'.cell? ⟨b3, o3 + q, none⟩ = some (.slice a3 (r1.length + r2.length) c3) from fun w' h => ⟨(h.cell (p := ⟨b1, o1 + q, none⟩) (Nat.lt_of_lt_of_le hB1 hb.size)).trans d1, (h.cell (p := ⟨b2, o2 + q, none⟩) (Nat.lt_of_lt_of_le hB2 hb.size)).trans d2, (h.cell (p := ⟨b3, o3 + q, none⟩) (Nat.lt_of_lt_of_le hB3 hb.size)).trans d3⟩)
        have HB6 := Lib.hid (((Below.refl wr.heap.size wr).drew).alloc (Nat.le_refl _) (Obj.cells #[] 61))
        have HE := Lib.hid (show (wr.drew.alloc (Obj.cells #[] 61)).ownsRow wr.heap.size 61 3 (.slice (some ⟨wr.heap.size, 0, none⟩) 0 0) 0 [] from World.ownsRow_lit (base := wr.heap.size) (size := 3) wr.drew #[] 0 (Nat.le_refl _) (Nat.zero_le _) rfl)
        have HR1 := Lib.hid (R1'.below HB6.out (Nat.le_refl _))
        have HR2 := Lib.hid R2'
        have HR3 := Lib.hid R3'
        have hm1 : 0 + r1.length ≤ maxLen := by unfold maxLen; omega
        have hm2 : (0 + r1.length) * 40 ≤ 140737488355328 := by omega
        have hm3 : r1.length + r2.length ≤ maxLen := by unfold maxLen; omega
        have hm4 : (r1.length + r2.length) * 40 ≤ 140737488355328 := by omega
        clear hr1 hr2 hr3 R1' R2' R3'
        go_wp2_with fail
        go_region_held3 (fun w' => (w'.cell? ⟨b1, o1 + q, none⟩ = some (.slice a1 r1.length c1) ∧ w'.cell? ⟨b2, o2 + q, none⟩ = some (.slice a2 r2.length c2) ∧ w'.cell? ⟨b3, o3 + q, none⟩ = some (.slice a3 (r1.length + r2.length) c3)) ∧ Below wr.heap.size wr w') (first | exact keepFirst hC.out | exact keepIn hC.out hb' (by assumption) | exact keepNew hC.out (by assumption))
          (first
            | (refine step_append_g (by rfl) (.tmp 92) (.tmp 97) 24 (by rfl) wr.heap.size 61 i0 (.agg #[.string ⟨#[]⟩, .int .i64 0, .string ⟨#[]⟩]) 3 40 Try.underlying24 hi hz0 hz1 hz2 rfl (by decide) (.slice (some ⟨wr.heap.size, 0, none⟩) 0 0) 0 [] (by rfl) HE.out a1 wr.heap.size r1.length c1 (flat r1) (by rfl) HR1.out (flat_one2 _) hm1 hm2 HB6.out.size ?_; intro v6 w6 hO6 hg6 _; rw [Nat.zero_add, List.nil_append] at hO6; obtain ⟨a6, e6, rfl⟩ := own_slice' hO6; have hb' := (Below.refl wr.heap.size _).grown hg6 HB6.out.size (fun q e => (own_ge HE.out q e).1); have b6 := HB6.out.trans hb'; clear hg6)
            | (refine step_append_g (by rfl) (.tmp 98) (.tmp 103) 24 (by rfl) wr.heap.size 61 i0 (.agg #[.string ⟨#[]⟩, .int .i64 0, .string ⟨#[]⟩]) 3 40 Try.underlying24 hi hz0 hz1 hz2 rfl (by decide) (.slice a6 r1.length e6) r1.length (flat r1) (by rfl) hO6 a2 wr.heap.size r2.length c2 (flat r2) (by rfl) (HR2.out.below b6 (Nat.le_refl _)) (flat_one2 _) hm3 hm4 b6.size ?_; intro v7 w7 hO7 hg7 _; rw [← flat_append] at hO7; obtain ⟨a7, e7, rfl⟩ := own_slice' hO7; have hb' := (Below.refl wr.heap.size _).grown hg7 b6.size (fun q e => (own_ge hO6 q e).1); have b7 := b6.trans hb'; clear hg7 hO6)
            | (go_at_call 46; refine (sameRows_same a7 a3 (r1.length + r2.length) e7 c3 (r1 ++ r2) _ (by omega) (Rd.of_own hO7) ((HR3.out.below b7 (Nat.le_refl _)).more b7.size)).mono ?_; rintro e w8 ⟨rfl, hb8⟩; have hb' := hb8.mono b7.size; have b8 := b7.trans hb'))
        have b9 := hb.trans (b8.mono hb.size)
        have d3' := (b8.cell (p := ⟨b3, o3 + q, none⟩) (Nat.lt_of_lt_of_le hB3 hb.size)).trans d3
        have hB3' : b3 < w8.heap.size := by have := b8.size; have := hb.size; omega
        have R3'' := (HR3.out.below b8 (Nat.le_refl _)).more b8.size
        have hlen : r1.length + r2.length ≤ 24 := by omega
        clear hO7 b6 b7 b8 hb8 HE HB6 HR1 HR2 HR3 hC d1 d2 d3
        have hok3 : ∀ r ∈ r1 ++ r2, r.Ok := fun r hr => by rw [H3.out] at hr; exact hok r (List.mem_filter.1 hr).1
        have C2 := implParted_any a3 (r1.length + r2.length) c3 (r1 ++ r2) (M : Int) w8 (by omega) hok3 R3''
        unfold PartedOut at C2
        have hB4 : partedB (r1 ++ r2) (M : Int) = true := by rw [H3.out]; exact HY.out q
        rw [hB4, show partedS (r1 ++ r2) (M : Int) = partsL (partF M) M (r1 ++ r2) from partsP_yes hB4, partsL_length] at C2
        clear hB4
        go_wp2_with fail
        refine C2.mono ?_
        clear C2
        rintro e w9 ⟨ga, gc, gv, rfl, hb9, G⟩
        replace G := G.rd
        obtain ⟨b4, o4, a4, c4, r4, rfl, hB4, hr4, d4, R4⟩ := G.at_ hqn
        obtain rfl : r1 ++ r2 = r4 := by
          rw [partsL_get hqn] at hr4
          rw [← Option.some.inj hr4, H3.out, part_again]
        rw [List.length_append] at d4 R4
        have d5 := (hb9.cell (p := ⟨b3, o3 + q, none⟩) hB3').trans d3'
        have R5 := Lib.hid ((R3''.below hb9 (Nat.le_refl _)).more hb9.size)
        have R4' := Lib.hid R4
        have b10 := b9.trans (hb9.mono b9.size)
        have hB5 : b3 < w9.heap.size := Nat.lt_of_lt_of_le hB3' hb9.size
        clear R3'' d3' hr4 G hb9 b9 R4
        have hC := Lib.hid (show ∀ w', Below w9.heap.size w9 w' → w'.cell? ⟨b4, o4 + q, none⟩ = some (.slice a4 (r1.length + r2.length) c4) ∧ w'.cell? ⟨b3, o3 + q, none⟩ = some (.slice a3 (r1.length + r2.length) c3) from fun w' h => ⟨(h.cell (p := ⟨b4, o4 + q, none⟩) hB4).trans d4, (h.cell (p := ⟨b3, o3 + q, none⟩) hB5).trans d5⟩)
        go_wp2_with fail
        go_region_held3 (fun w' => (w'.cell? ⟨b4, o4 + q, none⟩ = some (.slice a4 (r1.length + r2.length) c4) ∧ w'.cell? ⟨b3, o3 + q, none⟩ = some (.slice a3 (r1.length + r2.length) c3)) ∧ Below w9.heap.size w9 w') (first | exact keepFirst hC.out | exact keepIn hC.out hb' (by assumption))
          ((go_at_call 46; refine (sameRows_same a4 a3 (r1.length + r2.length) c4 c3 (r1 ++ r2) _ (by omega) R4'.out.drew' R5.out.drew').mono ?_; rintro e w10 ⟨rfl, hb10⟩; have hb' : Below w9.heap.size _ w10 := hb10))
        have b11 := b10.trans (((Below.refl w9.heap.size w9).drew.trans hb10).mono b10.size)
        clear hC hb10 R4' R5 d4 d5
        go_wp2_with fail
        go_roundw
        case rel => exact ⟨q + 1, by omega, by go_num, b11⟩
        case measure => simp [intOf]; omega
      · go_wp2_with fail
        go_ret
        exact ⟨rfl, B.trans (hb.mono B.size)⟩
end Go.Proofs.Ytfbgimchkdffmaa

namespace Go.Proofs.Ytfbgimchkdffmaa
open Go.ChangeShapes Go.WideShapes Go.ChangeAt Go.RowKit Go.Joins
open Go.ChangeMaps (open_string shut_string)
namespace PartedPieces

set_option maxRecDepth 100000 in
theorem lifted (os : Os) (started : os.Started) (H : Type) (enc : TypeId × Value → H) :
    ReturnsInHanded {} Try.checked os 13 .any (Rows.fnPartedPiecesSpec.pre6 enc Try.prog Try.f13 Rows.fnPartedPiecesRow.domain false) (Rows.fnPartedPiecesSpec.post enc Try.prog Try.f13 false true false false) := by
  refine returnsInHanded_of_change (C := Try.checked) own started (by kernel_rfl) Try.func13
    (ChangeSpec.witness6 (enc := enc) (C := Try.checked) false ⟨#[], #[.slice none 0 0], []⟩ 8 (by kernel_rfl) (by kernel_rfl) (by kernel_rfl) (by kernel_rfl)) ?_
  intro W base args ds gs before hval0 hW _ _
  have hval : ∀ (j : Nat) t v, Try.f13.params[j]? = some t → args[j]? = some v → Value.okWide Try.prog W .any base t v := hval0
  have hW' := hW
  obtain ⟨p, q, hA0, hV, rfl, _, _⟩ := hW
  have hA : DataW.TrodAll enc Try.prog W 0 (fun _ => true) true Try.f13.params.toList args.toList ds p := hA0
  rw [Try.params13] at hA hval
  obtain ⟨v0, vs0, d0, ds0, p0, q0, hargs, rfl, rfl, h0, r0⟩ := trodAll_cons hA
  obtain ⟨rfl, rfl, rfl⟩ := trodAll_nil r0
  obtain rfl : args = #[v0] := by cases args; simp_all
  obtain ⟨rfl, rfl⟩ := trodVars_none hV
  have k0 := h0
  have lt0 : ∀ x ∈ p0, x.block < W.heap.size := by obtain ⟨m, hm⟩ := k0; exact DataW.trod_lt m _ _ _ hm
  obtain ⟨a0, len0, cap0, z0, rfl, w0⟩ := open_Bytes (hval 0 55 v0 rfl rfl) h0
  clear hA0 hval0
  refine (walk_PartedPieces a0 len0 cap0 z0 W w0).mono fun e W' ⟨he, bel⟩ => ?_
  subst he
  exact ⟨_, rfl, _, _, _, [], _, [], hW', trodAll_mk1 (shut_bool Try.underlying4 _), (trodAll_cons_mk (Below.trod laidOut (by kernel_rfl) (of_decide_eq_true (by kernel_rfl)) k0 bel lt0) trodAll_mk0), rfl, bel.frame _, fun h => by cases h⟩

theorem over : Rows.fnPartedPiecesRow.holds Try.pinned (OpenSpec.ofChange Rows.fnPartedPiecesSpec) :=
  OpenClaim.holds_of_wide 13 Try.f13 rfl rfl rfl rfl rfl rfl rfl ⟨rfl, rfl, rfl, rfl, rfl⟩ rfl rfl rfl rfl rfl (by kernel_rfl) Try.func13 (by kernel_rfl)
    (of_decide_eq_true (by kernel_rfl)) (by unfold Func.isWrapper; first | (rw [if_pos (by decide +kernel)]; kernel_rfl) | (rw [if_neg (by decide +kernel)]; exact ⟨rfl, rfl⟩))
    (fun os started H enc _ => lifted os started H enc)
end PartedPieces
theorem fnPartedPieces_holds : Rows.FnPartedPiecesSaid := PartedPieces.over
end Go.Proofs.Ytfbgimchkdffmaa
