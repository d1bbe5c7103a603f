/-
  laws.FnFilters returns true for every code. No conditions.
-/
import Derived.Test.YtfndodaknejhfaaFiltersMath
import Derived.Test.YtfndodaknejhfaaFilterDraws
import Derived.Test.YtfndodaknejhfaaFilterNewSpec
import Derived.Test.YtfndodaknejhfaaFilterAddSpec
import Derived.Test.YtfndodaknejhfaaOpenBytes
import Derived.Test.YtfndodaknejhfaaSame
import Derived.Test.YtfndodaknejhfaaWQ
import Derived.Laws.StructEq
namespace Go.Proofs.Ytfndodaknejhfaa
open Go.RowKit

theorem IsBy.far {w w' : World} {a : Option Addr} {n : Nat} (h : IsBy w w.heap.size a n) (hb : Below w.heap.size w w') : IsBy w' w'.heap.size a n := by
  obtain ⟨xs, h1, h2⟩ := h
  exact ⟨xs, (h1.below hb (Nat.le_refl _)).more hb.size, h2⟩
set_option maxRecDepth 100000 in
theorem fil_eql (n : Int) (x : ByteArray) (w : World) : (binOp .eql 36 (.agg #[.int .i64 n, .string x]) (.agg #[.int .i64 n, .string x])).run Try.prog w = .ok (.bool true) w := by
  have u3 := Try.underlying9
  have u4 := Try.underlying2
  have hS : Try.prog.underlying 36 = some (.struct (Try.prog.fieldsOf 36)) := by kernel_rfl
  have hp : Try.prog.stoodInHeld 36 = false := by kernel_rfl
  rw [run_eql_struct, show (10000 : Nat) = 9999 + 1 from rfl, run_equalIn_agg w 9999 36 _ _ hS hp]
  simp only [Program.fieldsOf, Try.underlying36]
  go_simp
set_option maxRecDepth 100000 in
theorem fil_neq (n : Int) (x : ByteArray) (w : World) : (binOp .neq 36 (.agg #[.int .i64 n, .string x]) (.agg #[.int .i64 n, .string x])).run Try.prog w = .ok (.bool false) w := by
  rw [run_neq_struct]
  have h := fil_eql n x w
  rw [run_eql_struct] at h
  generalize (Op.equalIn 10000 36 (.agg #[.int .i64 n, .string x]) (.agg #[.int .i64 n, .string x])).run Try.prog w = r at *
  cases r with
  | ok b w' =>
    simp only [Result.andThen] at h ⊢
    injection h with h1 h2
    injection h1 with h3
    subst h3 h2
    rfl
  | _ => simp [Result.andThen] at h
set_option maxRecDepth 100000 in
set_option maxHeartbeats 8000000 in
theorem walk_Filters (a : Option Addr) (len cap : Nat) (xs : List Value) (w : World) (hI : IsCode w a len cap xs) :
    Calls Try.prog 4 #[.slice a len cap] w fun e w' => e = .returned (.bool true) ∧ Below w.heap.size w w' := by
  have hI0 := hI.by_
  obtain ⟨hlc, hcm, _, _⟩ := hI
  go_enter Try.func4, Try.ntmps4
  go_wp2_with fail
  refine (big_any a len cap w (by omega)).mono ?_
  rintro e w0 ⟨rfl, rfl⟩
  by_cases hbig : 1048576 < len
  · have hd : decide (1048576 < len) = true := by simpa using hbig
    rw [hd]
    go_wp2_with fail
    go_ret
    exact ⟨rfl, Below.refl _ _⟩
  have hd : decide (1048576 < len) = false := by simpa using hbig
  rw [hd]
  clear hd
  go_wp2_with fail
  refine (drawFilterAdd_any a len cap w (by omega) hI0).mono ?_
  rintro e w1 ⟨n, x, s, hx, hs, rfl, hb⟩
  have B := hb
  replace hI0 := hI0.far hb
  clear hb
  have hxm : x.size ≤ maxLen := by unfold maxLen; omega
  have hsm : s.size ≤ maxLen := by unfold maxLen; omega
  have CI := fun w => implFilterAdd_any n x s w hxm hsm
  have CS := fun w => specFilterAdd_any n x s w hxm hsm
  unfold addV at CI CS
  have hT := addT_size n x s hx
  have HO : Hid (addOk n x s = true → (addN n x s = n ∧ addT n x s = addS n s x) ∧ filB n x = true) := Lib.hid (fun h => ⟨⟨by unfold addN; rw [h]; rfl, by unfold addT; rw [h]; rfl⟩, by simp only [addOk, Bool.and_eq_true] at h; exact h.1⟩)
  have HO2 : Hid (addOk n x s = true → _) := Lib.hid (fun h => add_again h)
  generalize addN n x s = an at *
  generalize addT n x s = at_ at *
  generalize addOk n x s = ok at *
  have HCI := Lib.hid CI
  have HCS := Lib.hid CS
  clear CI CS
  have VF := FVar.new w1 n x 36
  have hb := bl1 w1 (.cells #[.int .i64 n, .string x] 36)
  replace B := B.trans (hb.mono B.size)
  replace hI0 := hI0.far hb
  clear hb
  have ⟨f0, f1⟩ := VF.1
  go_wp2_with fail
  generalize w1.alloc (.cells #[.int .i64 n, .string x] 36) = w2 at *
  generalize w1.heap.size = A1 at *
  refine (HCI.out w2).mono ?_
  rintro e w3 ⟨rfl, hb⟩
  clear f0 f1
  replace B := B.trans (hb.mono B.size)
  replace hI0 := hI0.far hb
  replace VF := VF.below hb VF.2.2
  clear hb
  have VN := FVar.new w3 an at_ 36
  have hb := bl1 w3 (.cells #[.int .i64 an, .string at_] 36)
  replace B := B.trans (hb.mono B.size)
  replace hI0 := hI0.far hb
  replace VF := VF.below hb VF.2.2
  clear hb
  have ⟨f0, f1⟩ := VF.1
  go_wp2_with fail
  generalize w3.alloc (.cells #[.int .i64 an, .string at_] 36) = w4 at *
  generalize w3.heap.size = A2 at *
  refine (HCS.out w4).mono ?_
  rintro e w5 ⟨rfl, hb⟩
  clear f0 f1
  replace B := B.trans (hb.mono B.size)
  replace hI0 := hI0.far hb
  replace VF := VF.below hb VF.2.2
  replace VN := VN.below hb VN.2.2
  clear hb
  have VW := FVar.new w5 an at_ 36
  have hb := bl1 w5 (.cells #[.int .i64 an, .string at_] 36)
  replace B := B.trans (hb.mono B.size)
  replace hI0 := hI0.far hb
  replace VF := VF.below hb VF.2.2
  replace VN := VN.below hb VN.2.2
  clear hb
  go_wp2_with fail
  generalize w5.alloc (.cells #[.int .i64 an, .string at_] 36) = w6 at *
  generalize w5.heap.size = A3 at *
  refine (drawFilterHas_any a len cap w6 (by omega) hI0).mono ?_
  rintro e w7 ⟨g, gx, key, hgx, hkey, rfl, hb⟩
  replace B := B.trans (hb.mono B.size)
  replace hI0 := hI0.far hb
  replace VF := VF.below hb VF.2.2
  replace VN := VN.below hb VN.2.2
  replace VW := VW.below hb VW.2.2
  clear hb
  have VG := FVar.new w7 g gx 36
  have hb := bl1 w7 (.cells #[.int .i64 g, .string gx] 36)
  replace B := B.trans (hb.mono B.size)
  replace hI0 := hI0.far hb
  replace VF := VF.below hb VF.2.2
  replace VN := VN.below hb VN.2.2
  replace VW := VW.below hb VW.2.2
  clear hb
  go_wp2_with fail
  generalize w7.alloc (.cells #[.int .i64 g, .string gx] 36) = w8 at *
  generalize w7.heap.size = A4 at *
  refine (drawFilterNew_any a len cap w8 (by omega) hI0).mono ?_
  rintro e w9 ⟨M, hM0, hM1, rfl, hb⟩
  replace B := B.trans (hb.mono B.size)
  replace hI0 := hI0.far hb
  replace VF := VF.below hb VF.2.2
  replace VN := VN.below hb VN.2.2
  replace VW := VW.below hb VW.2.2
  replace VG := VG.below hb VG.2.2
  clear hb
  have CI := fun w => implFilterNew_any M w
  have CS := fun w => specFilterNew_any M w
  unfold ofV at CI CS
  have hE := new_size M
  have HM : Hid (ofOk [] M = true → hasB (ofN [] M) (ofT [] M) s = false) := Lib.hid (fun h => by
    have e1 : ofN [] M = M := by unfold ofN; rw [h]; rfl
    have e2 : ofT [] M = ofS [] M := by unfold ofT; rw [h]; rfl
    rw [e1, e2]
    simp only [ofOk, Bool.and_eq_true] at h
    exact new_none h.2)
  generalize ofN [] M = en at *
  generalize ofT [] M = et at *
  generalize ofOk [] M = fine at *
  have HNI := Lib.hid CI
  have HNS := Lib.hid CS
  clear CI CS
  go_wp2_with fail
  refine (HNI.out w9).mono ?_
  rintro e w10 ⟨rfl, hb⟩
  replace B := B.trans (hb.mono B.size)
  replace hI0 := hI0.far hb
  replace VF := VF.below hb VF.2.2
  replace VN := VN.below hb VN.2.2
  replace VW := VW.below hb VW.2.2
  replace VG := VG.below hb VG.2.2
  clear hb
  have VE := FVar.new w10 en et 36
  have hb := bl1 w10 (.cells #[.int .i64 en, .string et] 36)
  replace B := B.trans (hb.mono B.size)
  replace hI0 := hI0.far hb
  replace VF := VF.below hb VF.2.2
  replace VN := VN.below hb VN.2.2
  replace VW := VW.below hb VW.2.2
  replace VG := VG.below hb VG.2.2
  clear hb
  go_wp2_with fail
  generalize w10.alloc (.cells #[.int .i64 en, .string et] 36) = w11 at *
  generalize w10.heap.size = A5 at *
  refine (HNS.out w11).mono ?_
  rintro e w12 ⟨rfl, hb⟩
  replace B := B.trans (hb.mono B.size)
  replace hI0 := hI0.far hb
  replace VF := VF.below hb VF.2.2
  replace VN := VN.below hb VN.2.2
  replace VW := VW.below hb VW.2.2
  replace VG := VG.below hb VG.2.2
  replace VE := VE.below hb VE.2.2
  clear hb
  have VZ := FVar.new w12 en et 36
  have hb := bl1 w12 (.cells #[.int .i64 en, .string et] 36)
  replace B := B.trans (hb.mono B.size)
  replace hI0 := hI0.far hb
  replace VF := VF.below hb VF.2.2
  replace VN := VN.below hb VN.2.2
  replace VW := VW.below hb VW.2.2
  replace VG := VG.below hb VG.2.2
  replace VE := VE.below hb VE.2.2
  clear hb
  go_wp2_with fail
  generalize w12.alloc (.cells #[.int .i64 en, .string et] 36) = w13 at *
  generalize w12.heap.size = A6 at *
  refine (drawFilterOk_any a len cap w13 (by omega) hI0).mono ?_
  rintro e w14 ⟨xn, xt, hxt, rfl, hb⟩
  replace B := B.trans (hb.mono B.size)
  replace hI0 := hI0.far hb
  replace VF := VF.below hb VF.2.2
  replace VN := VN.below hb VN.2.2
  replace VW := VW.below hb VW.2.2
  replace VG := VG.below hb VG.2.2
  replace VE := VE.below hb VE.2.2
  replace VZ := VZ.below hb VZ.2.2
  clear hb
  clear hI0
  have VX := FVar.new w14 xn xt 36
  have hb := bl1 w14 (.cells #[.int .i64 xn, .string xt] 36)
  replace B := B.trans (hb.mono B.size)
  replace VF := VF.below hb VF.2.2
  replace VN := VN.below hb VN.2.2
  replace VW := VW.below hb VW.2.2
  replace VG := VG.below hb VG.2.2
  replace VE := VE.below hb VE.2.2
  replace VZ := VZ.below hb VZ.2.2
  clear hb
  go_wp2_with fail
  generalize w14.alloc (.cells #[.int .i64 xn, .string xt] 36) = w15 at *
  generalize w14.heap.size = A7 at *
  have ⟨fa, fb⟩ := VF.1
  replace fa := fun d os => cell_regrown fa d os
  replace fb := fun d os => cell_regrown fb d os
  have ⟨na, nb⟩ := VN.1
  replace na := fun d os => cell_regrown na d os
  replace nb := fun d os => cell_regrown nb d os
  have ⟨va, vb⟩ := VW.1
  replace va := fun d os => cell_regrown va d os
  replace vb := fun d os => cell_regrown vb d os
  have ⟨ga, gb⟩ := VG.1
  replace ga := fun d os => cell_regrown ga d os
  replace gb := fun d os => cell_regrown gb d os
  have ⟨ea, eb⟩ := VE.1
  replace ea := fun d os => cell_regrown ea d os
  replace eb := fun d os => cell_regrown eb d os
  have ⟨za, zb⟩ := VZ.1
  replace za := fun d os => cell_regrown za d os
  replace zb := fun d os => cell_regrown zb d os
  have ⟨xa, xb⟩ := VX.1
  replace xa := fun d os => cell_regrown xa d os
  replace xb := fun d os => cell_regrown xb d os
  have hgm : gx.size ≤ maxLen := by unfold maxLen; omega
  have hkm : key.size ≤ maxLen := by unfold maxLen; omega
  have hem : et.size ≤ maxLen := by unfold maxLen; omega
  have hxtm : xt.size ≤ maxLen := by unfold maxLen; omega
  have C1 := Lib.hid (fun d os => Calls.regrown_of (w := w15) (d := d) (os := os) (implFilterHas_any g gx key _ hgm hkm))
  have C2 := Lib.hid (fun d os => Calls.regrown_of (w := w15) (d := d) (os := os) (specFilterHas_any g gx key _ hgm hkm))
  have C3 := Lib.hid (fun d os => Calls.regrown_of (w := w15) (d := d) (os := os) (implFilterOk_any xn xt _ hxtm))
  have C4 := Lib.hid (fun d os => Calls.regrown_of (w := w15) (d := d) (os := os) (specFilterOk_any xn xt _ hxtm))
  have C5 := Lib.hid (fun d os => Calls.regrown_of (w := w15) (d := d) (os := os) (implFilterHas_any en et s _ hem hsm))
  have Q1 := fil_neq an at_
  have Q2 := fil_neq en et
  generalize hasB g gx key = p1 at *
  generalize filB xn xt = p2 at *
  have hfin : fine = true → hasB en et s = false := HM.out
  generalize hasB en et s = p3 at *
  clear HM
  have key_ : ∀ (Q : Prop), (fine = false → Q) → (fine = true → p3 = false → Q) → Q := fun Q h1 h2 => by
    cases fine
    · exact h1 rfl
    · exact h2 rfl (hfin rfl)
  cases ok
  · clear HO HO2
    cases fine
    · clear hfin key_
      refine wp_region_wq (by kernel_rfl) (by kernel_rfl) ?_
      repeat (refine WQ.step (fun K hK => ?_); go_simp; first | (refine hK _ ?_; clear hK K) | (apply Exists.intro; refine ⟨fun _ => ?_, hK _ ?_⟩; (first | with_reducible exact C1.out _ _ | with_reducible exact C2.out _ _ | with_reducible exact C3.out _ _ | with_reducible exact C4.out _ _ | with_reducible exact C5.out _ _); clear hK K))
      refine WQ.nil ?_
      intro _ hw'
      obtain ⟨⟨dq, osq⟩, hw''⟩ := hw'
      subst hw''
      have hb := below_regrown w15 dq osq
      replace B := B.trans (hb.mono B.size)
      replace VF := VF.below hb VF.2.2
      replace VN := VN.below hb VN.2.2
      clear hb C1 C2 C3 C4 C5 Q1 Q2 fa fb na nb va vb ga gb ea eb za zb xa xb VW VG VE VZ VX
      generalize Go.Sort.grow (redrawn w15 dq) osq = v0 at *
      go_wp2_with fail
      go_ret
      exact ⟨rfl, B⟩
    · obtain rfl := hfin rfl
      clear key_
      refine wp_region_wq (by kernel_rfl) (by kernel_rfl) ?_
      repeat (refine WQ.step (fun K hK => ?_); go_simp; first | (refine hK _ ?_; clear hK K) | (apply Exists.intro; refine ⟨fun _ => ?_, hK _ ?_⟩; (first | with_reducible exact C1.out _ _ | with_reducible exact C2.out _ _ | with_reducible exact C3.out _ _ | with_reducible exact C4.out _ _ | with_reducible exact C5.out _ _); clear hK K))
      refine WQ.nil ?_
      intro _ hw'
      obtain ⟨⟨dq, osq⟩, hw''⟩ := hw'
      subst hw''
      have hb := below_regrown w15 dq osq
      replace B := B.trans (hb.mono B.size)
      replace VF := VF.below hb VF.2.2
      replace VN := VN.below hb VN.2.2
      clear hb C1 C2 C3 C4 C5 Q1 Q2 fa fb na nb va vb ga gb ea eb za zb xa xb VW VG VE VZ VX
      generalize Go.Sort.grow (redrawn w15 dq) osq = v0 at *
      go_wp2_with fail
      go_ret
      exact ⟨rfl, B⟩
  obtain ⟨⟨rfl, rfl⟩, hfx⟩ := HO.out rfl
  obtain ⟨hf2, hh, hag, hle, hsz⟩ := HO2.out rfl
  clear HO HO2 HCI HCS HNI HNS
  have HM : Hid (∀ k : ByteArray, k.size ≤ 12 → hasB an x k = true → hasB an (addS an s x) k = true) := Lib.hid (fun k hk h => hasB_mono hfx hf2 hk hle h)
  have hts : (addS an s x).size ≤ maxLen := by rw [hsz]; exact hxm
  have HA := Lib.hid (fun w => implFilterAdd_any an (addS an s x) s w hts hsm)
  rw [addV_yes (show addOk an (addS an s x) s = true by unfold addOk; rw [hf2, decide_eq_true (show s.size ≤ 12 by omega)]; rfl), hag] at HA
  have HOk := Lib.hid (fun w => implFilterOk_any an (addS an s x) w hts)
  rw [hf2] at HOk
  have HHs := Lib.hid (fun w => implFilterHas_any an (addS an s x) s w hts hsm)
  rw [hh] at HHs
  have QE := fil_eql an (addS an s x)
  clear hf2 hh hag hle hsz hfx
  generalize addS an s x = t at *
  cases fine
  · clear hfin key_
    refine wp_region_wq (by kernel_rfl) (by kernel_rfl) ?_
    repeat (refine WQ.step (fun K hK => ?_); go_simp; first | (refine hK _ ?_; clear hK K) | (apply Exists.intro; refine ⟨fun _ => ?_, hK _ ?_⟩; (first | with_reducible exact C1.out _ _ | with_reducible exact C2.out _ _ | with_reducible exact C3.out _ _ | with_reducible exact C4.out _ _ | with_reducible exact C5.out _ _); clear hK K))
    refine WQ.nil ?_
    intro _ hw'
    obtain ⟨⟨dq, osq⟩, hw''⟩ := hw'
    subst hw''
    have hb := below_regrown w15 dq osq
    replace B := B.trans (hb.mono B.size)
    replace VF := VF.below hb VF.2.2
    replace VN := VN.below hb VN.2.2
    clear hb C1 C2 C3 C4 C5 Q1 Q2 fa fb na nb va vb ga gb ea eb za zb xa xb VW VG VE VZ VX
    generalize Go.Sort.grow (redrawn w15 dq) osq = v0 at *
    have ⟨n0, n1⟩ := VN.1
    go_wp2_with fail
    refine (HA.out v0).mono ?_
    rintro e v1 ⟨rfl, hb⟩
    clear n0 n1 HA
    replace B := B.trans (hb.mono B.size)
    replace VF := VF.below hb VF.2.2
    replace VN := VN.below hb VN.2.2
    clear hb
    have VA := (FVar.new v1 an t 36).below (bl1 _ (.cells #[.string ⟨#[]⟩, .string ⟨#[97]⟩, .string ⟨#[98]⟩, .string ⟨#[97, 98]⟩, .string ⟨#[99]⟩, .string ⟨#[107, 101, 121]⟩] 9)) (by simp)
    have hb := bl2 v1 (.cells #[.int .i64 an, .string t] 36) (.cells #[.string ⟨#[]⟩, .string ⟨#[97]⟩, .string ⟨#[98]⟩, .string ⟨#[97, 98]⟩, .string ⟨#[99]⟩, .string ⟨#[107, 101, 121]⟩] 9)
    replace B := B.trans (hb.mono B.size)
    replace VF := VF.below hb VF.2.2
    replace VN := VN.below hb VN.2.2
    have HK := Lib.hid (show ∀ (k : Nat) (s : ByteArray), sixK[k]? = some s → ((v1.alloc (.cells #[.int .i64 an, .string t] 36)).alloc (.cells #[.string ⟨#[]⟩, .string ⟨#[97]⟩, .string ⟨#[98]⟩, .string ⟨#[97, 98]⟩, .string ⟨#[99]⟩, .string ⟨#[107, 101, 121]⟩] 9)).cell? ⟨v1.heap.size + 1, k, none⟩ = some (.string s) from fun k s h => by
      have hk := (List.getElem?_eq_some_iff.1 h).1
      rcases (show k = 0 ∨ k = 1 ∨ k = 2 ∨ k = 3 ∨ k = 4 ∨ k = 5 by simp [sixK] at hk; omega) with rfl | rfl | rfl | rfl | rfl | rfl <;> simp [sixK] at h <;> subst h <;> simp [go_sem])
    have hKB : v1.heap.size + 1 < ((v1.alloc (.cells #[.int .i64 an, .string t] 36)).alloc (.cells #[.string ⟨#[]⟩, .string ⟨#[97]⟩, .string ⟨#[98]⟩, .string ⟨#[97, 98]⟩, .string ⟨#[99]⟩, .string ⟨#[107, 101, 121]⟩] 9)).heap.size := by simp
    clear hb
    go_wp2_with fail
    generalize (v1.alloc (.cells #[.int .i64 an, .string t] 36)).alloc (.cells #[.string ⟨#[]⟩, .string ⟨#[97]⟩, .string ⟨#[98]⟩, .string ⟨#[97, 98]⟩, .string ⟨#[99]⟩, .string ⟨#[107, 101, 121]⟩] 9) = v2 at *
    generalize v1.heap.size = G0 at *
    go_loopw [20] (fun i wr => ∃ k : Nat, k ≤ 6 ∧ i = .int .i64 k ∧ Below v2.heap.size v2 wr) (fun i _ => 6 - (intOf i).toNat)
    case atStart => exact ⟨0, Nat.zero_le _, rfl, Below.refl _ _⟩
    case round =>
      obtain ⟨k, hk, rfl, hb⟩ := hrel
      by_cases hlt : k < 6
      · obtain ⟨s2, hsk⟩ : ∃ s, sixK[k]? = some s := ⟨_, List.getElem?_eq_getElem (by simpa [sixK] using hlt)⟩
        have hs2 := sixK_size s2 (List.mem_of_getElem? hsk)
        have hsm2 : s2.size ≤ maxLen := by unfold maxLen; omega
        have ks := (hb.cell (p := ⟨G0 + 1, k, none⟩) hKB).trans (HK.out k s2 hsk)
        have GF := VF.below hb VF.2.2
        have GN := VN.below hb VN.2.2
        have ⟨fa, fb⟩ := GF.1
        have ⟨na, nb⟩ := GN.1
        replace fa := fun d os => cell_regrown fa d os
        replace fb := fun d os => cell_regrown fb d os
        replace na := fun d os => cell_regrown na d os
        replace nb := fun d os => cell_regrown nb d os
        replace ks := fun d os => cell_regrown ks d os
        have k0 : (0 : Int) ≤ (k : Int) := by omega
        have k6 : (k : Int) < 6 := by omega
        have hM := HM.out s2 hs2
        have C1 := Lib.hid (fun d os => Calls.regrown_of (w := wr) (d := d) (os := os) (implFilterHas_any an x s2 _ hxm hsm2))
        have C2 := Lib.hid (fun d os => Calls.regrown_of (w := wr) (d := d) (os := os) (implFilterHas_any an t s2 _ hts hsm2))
        generalize hasB an x s2 = p5 at *
        generalize hasB an t s2 = p6 at *
        clear hsk GF GN HM HOk HHs QE HK
        cases p5
        · clear hM
          go_wp2_with fail
          refine wp_region_wq (by kernel_rfl) (by kernel_rfl) ?_
          repeat (refine WQ.step (fun K hK => ?_); go_simp; first | (refine hK _ ?_; clear hK K) | (apply Exists.intro; refine ⟨fun _ => ?_, hK _ ?_⟩; (first | with_reducible exact C1.out _ _ | with_reducible exact C2.out _ _); clear hK K))
          refine WQ.nil ?_
          intro _ hw'
          obtain ⟨⟨dq, osq⟩, hw''⟩ := hw'
          subst hw''
          have b9 := hb.trans ((below_regrown wr dq osq).mono hb.size)
          clear fa fb na nb ks C1 C2
          generalize Go.Sort.grow (redrawn wr dq) osq = v4 at *
          go_wp2_with fail
          go_roundw
          case rel => exact ⟨k + 1, by omega, by go_num, b9⟩
          case measure => simp [intOf]; omega
        · obtain rfl := hM rfl
          clear hM
          go_wp2_with fail
          refine wp_region_wq (by kernel_rfl) (by kernel_rfl) ?_
          repeat (refine WQ.step (fun K hK => ?_); go_simp; first | (refine hK _ ?_; clear hK K) | (apply Exists.intro; refine ⟨fun _ => ?_, hK _ ?_⟩; (first | with_reducible exact C1.out _ _ | with_reducible exact C2.out _ _); clear hK K))
          refine WQ.nil ?_
          intro _ hw'
          obtain ⟨⟨dq, osq⟩, hw''⟩ := hw'
          subst hw''
          have b9 := hb.trans ((below_regrown wr dq osq).mono hb.size)
          clear fa fb na nb ks C1 C2
          generalize Go.Sort.grow (redrawn wr dq) osq = v4 at *
          go_wp2_with fail
          go_roundw
          case rel => exact ⟨k + 1, by omega, by go_num, b9⟩
          case measure => simp [intOf]; omega
      · obtain rfl : k = 6 := by omega
        have GA := VA.below hb VA.2.2
        have GN := VN.below hb VN.2.2
        have B7 := B.trans (hb.mono B.size)
        have ⟨a0, a1⟩ := GA.1
        have ⟨n0, n1⟩ := GN.1
        go_wp2_with fail
        refine (HOk.out wr).mono ?_
        rintro e v5 ⟨rfl, hb5⟩
        clear a0 a1 n0 n1
        replace GA := GA.below hb5 GA.2.2
        replace GN := GN.below hb5 GN.2.2
        replace B7 := B7.trans (hb5.mono B7.size)
        have ⟨a0, a1⟩ := GA.1
        have ⟨n0, n1⟩ := GN.1
        go_wp2_with fail
        refine (HHs.out v5).mono ?_
        rintro e v6 ⟨rfl, hb6⟩
        clear a0 a1 n0 n1
        replace GA := GA.below hb6 GA.2.2
        replace GN := GN.below hb6 GN.2.2
        replace B7 := B7.trans (hb6.mono B7.size)
        have ⟨a0, a1⟩ := GA.1
        have ⟨n0, n1⟩ := GN.1
        go_wp2_with fail
        go_ret
        exact ⟨rfl, B7⟩
  · obtain rfl := hfin rfl
    clear key_
    refine wp_region_wq (by kernel_rfl) (by kernel_rfl) ?_
    repeat (refine WQ.step (fun K hK => ?_); go_simp; first | (refine hK _ ?_; clear hK K) | (apply Exists.intro; refine ⟨fun _ => ?_, hK _ ?_⟩; (first | with_reducible exact C1.out _ _ | with_reducible exact C2.out _ _ | with_reducible exact C3.out _ _ | with_reducible exact C4.out _ _ | with_reducible exact C5.out _ _); clear hK K))
    refine WQ.nil ?_
    intro _ hw'
    obtain ⟨⟨dq, osq⟩, hw''⟩ := hw'
    subst hw''
    have hb := below_regrown w15 dq osq
    replace B := B.trans (hb.mono B.size)
    replace VF := VF.below hb VF.2.2
    replace VN := VN.below hb VN.2.2
    clear hb C1 C2 C3 C4 C5 Q1 Q2 fa fb na nb va vb ga gb ea eb za zb xa xb VW VG VE VZ VX
    generalize Go.Sort.grow (redrawn w15 dq) osq = v0 at *
    have ⟨n0, n1⟩ := VN.1
    go_wp2_with fail
    refine (HA.out v0).mono ?_
    rintro e v1 ⟨rfl, hb⟩
    clear n0 n1 HA
    replace B := B.trans (hb.mono B.size)
    replace VF := VF.below hb VF.2.2
    replace VN := VN.below hb VN.2.2
    clear hb
    have VA := (FVar.new v1 an t 36).below (bl1 _ (.cells #[.string ⟨#[]⟩, .string ⟨#[97]⟩, .string ⟨#[98]⟩, .string ⟨#[97, 98]⟩, .string ⟨#[99]⟩, .string ⟨#[107, 101, 121]⟩] 9)) (by simp)
    have hb := bl2 v1 (.cells #[.int .i64 an, .string t] 36) (.cells #[.string ⟨#[]⟩, .string ⟨#[97]⟩, .string ⟨#[98]⟩, .string ⟨#[97, 98]⟩, .string ⟨#[99]⟩, .string ⟨#[107, 101, 121]⟩] 9)
    replace B := B.trans (hb.mono B.size)
    replace VF := VF.below hb VF.2.2
    replace VN := VN.below hb VN.2.2
    have HK := Lib.hid (show ∀ (k : Nat) (s : ByteArray), sixK[k]? = some s → ((v1.alloc (.cells #[.int .i64 an, .string t] 36)).alloc (.cells #[.string ⟨#[]⟩, .string ⟨#[97]⟩, .string ⟨#[98]⟩, .string ⟨#[97, 98]⟩, .string ⟨#[99]⟩, .string ⟨#[107, 101, 121]⟩] 9)).cell? ⟨v1.heap.size + 1, k, none⟩ = some (.string s) from fun k s h => by
      have hk := (List.getElem?_eq_some_iff.1 h).1
      rcases (show k = 0 ∨ k = 1 ∨ k = 2 ∨ k = 3 ∨ k = 4 ∨ k = 5 by simp [sixK] at hk; omega) with rfl | rfl | rfl | rfl | rfl | rfl <;> simp [sixK] at h <;> subst h <;> simp [go_sem])
    have hKB : v1.heap.size + 1 < ((v1.alloc (.cells #[.int .i64 an, .string t] 36)).alloc (.cells #[.string ⟨#[]⟩, .string ⟨#[97]⟩, .string ⟨#[98]⟩, .string ⟨#[97, 98]⟩, .string ⟨#[99]⟩, .string ⟨#[107, 101, 121]⟩] 9)).heap.size := by simp
    clear hb
    go_wp2_with fail
    generalize (v1.alloc (.cells #[.int .i64 an, .string t] 36)).alloc (.cells #[.string ⟨#[]⟩, .string ⟨#[97]⟩, .string ⟨#[98]⟩, .string ⟨#[97, 98]⟩, .string ⟨#[99]⟩, .string ⟨#[107, 101, 121]⟩] 9) = v2 at *
    generalize v1.heap.size = G0 at *
    go_loopw [20] (fun i wr => ∃ k : Nat, k ≤ 6 ∧ i = .int .i64 k ∧ Below v2.heap.size v2 wr) (fun i _ => 6 - (intOf i).toNat)
    case atStart => exact ⟨0, Nat.zero_le _, rfl, Below.refl _ _⟩
    case round =>
      obtain ⟨k, hk, rfl, hb⟩ := hrel
      by_cases hlt : k < 6
      · obtain ⟨s2, hsk⟩ : ∃ s, sixK[k]? = some s := ⟨_, List.getElem?_eq_getElem (by simpa [sixK] using hlt)⟩
        have hs2 := sixK_size s2 (List.mem_of_getElem? hsk)
        have hsm2 : s2.size ≤ maxLen := by unfold maxLen; omega
        have ks := (hb.cell (p := ⟨G0 + 1, k, none⟩) hKB).trans (HK.out k s2 hsk)
        have GF := VF.below hb VF.2.2
        have GN := VN.below hb VN.2.2
        have ⟨fa, fb⟩ := GF.1
        have ⟨na, nb⟩ := GN.1
        replace fa := fun d os => cell_regrown fa d os
        replace fb := fun d os => cell_regrown fb d os
        replace na := fun d os => cell_regrown na d os
        replace nb := fun d os => cell_regrown nb d os
        replace ks := fun d os => cell_regrown ks d os
        have k0 : (0 : Int) ≤ (k : Int) := by omega
        have k6 : (k : Int) < 6 := by omega
        have hM := HM.out s2 hs2
        have C1 := Lib.hid (fun d os => Calls.regrown_of (w := wr) (d := d) (os := os) (implFilterHas_any an x s2 _ hxm hsm2))
        have C2 := Lib.hid (fun d os => Calls.regrown_of (w := wr) (d := d) (os := os) (implFilterHas_any an t s2 _ hts hsm2))
        generalize hasB an x s2 = p5 at *
        generalize hasB an t s2 = p6 at *
        clear hsk GF GN HM HOk HHs QE HK
        cases p5
        · clear hM
          go_wp2_with fail
          refine wp_region_wq (by kernel_rfl) (by kernel_rfl) ?_
          repeat (refine WQ.step (fun K hK => ?_); go_simp; first | (refine hK _ ?_; clear hK K) | (apply Exists.intro; refine ⟨fun _ => ?_, hK _ ?_⟩; (first | with_reducible exact C1.out _ _ | with_reducible exact C2.out _ _); clear hK K))
          refine WQ.nil ?_
          intro _ hw'
          obtain ⟨⟨dq, osq⟩, hw''⟩ := hw'
          subst hw''
          have b9 := hb.trans ((below_regrown wr dq osq).mono hb.size)
          clear fa fb na nb ks C1 C2
          generalize Go.Sort.grow (redrawn wr dq) osq = v4 at *
          go_wp2_with fail
          go_roundw
          case rel => exact ⟨k + 1, by omega, by go_num, b9⟩
          case measure => simp [intOf]; omega
        · obtain rfl := hM rfl
          clear hM
          go_wp2_with fail
          refine wp_region_wq (by kernel_rfl) (by kernel_rfl) ?_
          repeat (refine WQ.step (fun K hK => ?_); go_simp; first | (refine hK _ ?_; clear hK K) | (apply Exists.intro; refine ⟨fun _ => ?_, hK _ ?_⟩; (first | with_reducible exact C1.out _ _ | with_reducible exact C2.out _ _); clear hK K))
          refine WQ.nil ?_
          intro _ hw'
          obtain ⟨⟨dq, osq⟩, hw''⟩ := hw'
          subst hw''
          have b9 := hb.trans ((below_regrown wr dq osq).mono hb.size)
          clear fa fb na nb ks C1 C2
          generalize Go.Sort.grow (redrawn wr dq) osq = v4 at *
          go_wp2_with fail
          go_roundw
          case rel => exact ⟨k + 1, by omega, by go_num, b9⟩
          case measure => simp [intOf]; omega
      · obtain rfl : k = 6 := by omega
        have GA := VA.below hb VA.2.2
        have GN := VN.below hb VN.2.2
        have B7 := B.trans (hb.mono B.size)
        have ⟨a0, a1⟩ := GA.1
        have ⟨n0, n1⟩ := GN.1
        go_wp2_with fail
        refine (HOk.out wr).mono ?_
        rintro e v5 ⟨rfl, hb5⟩
        clear a0 a1 n0 n1
        replace GA := GA.below hb5 GA.2.2
        replace GN := GN.below hb5 GN.2.2
        replace B7 := B7.trans (hb5.mono B7.size)
        have ⟨a0, a1⟩ := GA.1
        have ⟨n0, n1⟩ := GN.1
        go_wp2_with fail
        refine (HHs.out v5).mono ?_
        rintro e v6 ⟨rfl, hb6⟩
        clear a0 a1 n0 n1
        replace GA := GA.below hb6 GA.2.2
        replace GN := GN.below hb6 GN.2.2
        replace B7 := B7.trans (hb6.mono B7.size)
        have ⟨a0, a1⟩ := GA.1
        have ⟨n0, n1⟩ := GN.1
        go_wp2_with fail
        go_ret
        exact ⟨rfl, B7⟩
end Go.Proofs.Ytfndodaknejhfaa
