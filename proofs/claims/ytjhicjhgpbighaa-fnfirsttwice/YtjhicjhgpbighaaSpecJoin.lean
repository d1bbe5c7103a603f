/-
  spec.l5Join by its contract. Conditions: at most 120 rows on each hand; a kind from 1 to 6.
-/
import Derived.Test.YtjhicjhgpbighaaSpecPairs
import Derived.Test.YtjhicjhgpbighaaStepG
import Derived.Deep.RegionHeld3
namespace Go.Proofs.Ytjhicjhgpbighaa
open Go.RowKit
/-- A goal that no walk goes on with. -/
def Halt_ (p : Prop) : Prop := p
theorem halt_ {p : Prop} (h : Halt_ p) : p := h
theorem unhalt_ {p : Prop} (h : p) : Halt_ p := h
theorem own_under {w w' : World} {base e s n B : Nat} {v : Value} {xs : List Value} (h : w.ownsRow base e s v n xs) (hb : Below B w w') (hv : ∀ g, v.ownBlock = some g → g < B) : w'.ownsRow base e s v n xs := by
  refine ⟨h.1, ?_⟩
  rcases h.2 with h0 | ⟨g, c, cur, rfl, hg, hh, h1, h2, h3, h4⟩
  · exact .inl h0
  · exact .inr ⟨g, c, cur, rfl, hg, (hb.block g (hv g (by simp [Value.ownBlock]))).trans hh, h1, h2, h3, h4⟩
theorem blk_lt {b o n c B : Nat} (h : b < B) : ∀ g, (Value.slice (some ⟨b, o, none⟩) n c).ownBlock = some g → g < B := fun g e => by
  have : b = g := by simpa [Value.ownBlock] using e
  omega
theorem RdIn.str_at {w : World} {lo hi n k kb ko : Nat} {KS : List ByteArray} {key : ByteArray} (h : RdIn w lo hi 1 (some ⟨kb, ko, none⟩) n (strC KS)) (hk : KS[k]? = some key) : w.cell? ⟨kb, ko + k, none⟩ = some (.string key) := by
  have hl : KS.length = n := by have := h.1; simpa [strC] using this
  have hkl := (List.getElem?_eq_some_iff.1 hk).1
  obtain ⟨b, off, e, _, _, hc⟩ := h.2 (by omega)
  injection e with e
  injection e with e1 e2
  subst e1 e2
  exact hc k (.string key) (by simp [strC, hk])
theorem oneK_le {n : Int} {key : ByteArray} {a b : List ByteArray} (ha : a.length ≤ 120) (hb : b.length ≤ 120) : (oneK n key a b).length ≤ 200000 := by
  rw [oneK_parts, List.length_append]
  have h1 := mainK_le (n := n) (key := key) (a := a) (b := b) (by omega) a.length
  have h2 : (tailK n key a.length b).length ≤ 120 := by
    unfold tailK
    split
    · simpa using hb
    · simp
  have h3 : a.length * 1001 ≤ 120 * 1001 := Nat.mul_le_mul_right _ ha
  omega
/-- What a join tells of the first i keys. -/
def l5JK (n : Int) (a b : List RowV) (i : Nat) : List PairV := ((keysOf (sortL (a ++ b))).take i).flatMap fun key => oneK n key (valsK (sortL a) key) (valsK (sortL b) key)
theorem l5JK_succ {n : Int} {a b : List RowV} {i : Nat} {key : ByteArray} (h : (keysOf (sortL (a ++ b)))[i]? = some key) : l5JK n a b (i + 1) = l5JK n a b i ++ oneK n key (valsK (sortL a) key) (valsK (sortL b) key) := by
  unfold l5JK
  rw [List.take_add_one, h, Option.toList_some, List.flatMap_append, List.flatMap_singleton]
theorem l5JK_all {n : Int} {a b : List RowV} {i : Nat} (h : (keysOf (sortL (a ++ b))).length ≤ i) : l5JK n a b i = l5J n a b := by
  unfold l5JK l5J
  rw [List.take_of_length_le h]
theorem flat_one5 (rs : List RowV) : ∀ u ∈ flat rs, u.oneCell' = true := by
  intro u hu
  unfold flat at hu
  obtain ⟨r, _, hr⟩ := List.mem_flatMap.1 hu
  simp [RowV.cells] at hr
  rcases hr with rfl | rfl | rfl <;> rfl
set_option maxRecDepth 100000 in
set_option maxHeartbeats 4000000 in
theorem l5Join_any (n : Int) (hn : n = 1 ∨ n = 2 ∨ n = 3 ∨ n = 4 ∨ n = 5 ∨ n = 6) (aa ba : Option Addr) (la ca lb cb : Nat) (a b : List RowV) (w : World) (hla : la ≤ 120) (hlb : lb ≤ 120) (hA : Rd w w.heap.size 3 aa la (flat a)) (hB : Rd w w.heap.size 3 ba lb (flat b)) :
    Calls Try.prog 84 #[.slice aa la ca, .slice ba lb cb, .int .i64 n] w (PairsOut w (l5J n a b)) := by
  obtain ⟨i0, hi, hz0, hz1, hz2⟩ := info_parts infoPair
  obtain ⟨j0, hj, hy0, hy1, hy2⟩ := info_parts infoRow
  have hal := hA.rows_length
  have hbl := hB.rows_length
  have hb0 : Below w.heap.size w ((w.alloc (.cells #[] 82)).alloc (.cells #[] 39)) := bl2 _ _ _
  have hs0 : (w.alloc (.cells #[] 82)).heap.size = w.heap.size + 1 := by simp
  have hOn := own_below (World.ownsRow_lit (base := w.heap.size) (e := 82) (size := 5) w #[] 0 (Nat.le_refl _) (Nat.zero_le _) rfl) (bl1 (w.alloc (.cells #[] 82)) (.cells #[] 39))
  have R0 := World.ownsRow_lit (base := (w.alloc (.cells #[] 82)).heap.size) (e := 39) (size := 3) (w.alloc (.cells #[] 82)) #[] 0 (Nat.le_refl _) (Nat.zero_le _) rfl
  rw [hs0] at R0
  clear hs0
  have A0 := hA.below hb0 (Nat.le_refl _)
  have B0 := hB.below hb0 (Nat.le_refl _)
  have g1 : 0 + la ≤ maxLen := by unfold maxLen; omega
  have g2 : (0 + la) * 40 ≤ 140737488355328 := by omega
  have g3 : w.heap.size + 1 ≤ ((w.alloc (.cells #[] 82)).alloc (.cells #[] 39)).heap.size := by simp
  have g4 : 0 + la + lb ≤ maxLen := by unfold maxLen; omega
  have g5 : (0 + la + lb) * 40 ≤ 140737488355328 := by omega
  have HA := Lib.hid hA
  have HB := Lib.hid hB
  clear hA hB
  go_enter Try.func84, Try.ntmps84
  go_wp2_with (at_builtin; refine wpList_append_rd rfl _ _ 24 rfl (w.heap.size + 1) 39 j0 (.agg #[.string ⟨#[]⟩, .int .i64 0, .string ⟨#[]⟩]) 3 40 Try.underlying24 hj hy0 hy1 hy2 rfl (by decide) _ _ _ rfl R0 _ _ _ _ _ rfl A0 (flat_one5 _) g1 g2 g3 ?_; intro v1 w1 hO1 hg1 hx1; clear hx1; refine halt_ ?_)
  refine unhalt_ ?_
  rw [List.nil_append] at hO1
  obtain ⟨a1, c1, rfl⟩ := own_slice' hO1
  have hb1 : Below (w.heap.size + 1) ((w.alloc (.cells #[] 82)).alloc (.cells #[] 39)) w1 := gb_below hg1 g3 (fun q e => (own_ge R0 q e).1)
  have O1 := own_under hOn hb1 (blk_lt (Nat.lt_succ_self _))
  have Bw1 := hb0.trans (hb1.mono (Nat.le_succ _))
  have B1 := B0.below hb1 (Nat.le_succ _)
  have g6 : w.heap.size + 1 ≤ w1.heap.size := Nat.le_trans g3 hb1.size
  clear hg1 hb1 hOn R0 A0 B0 hb0 g3
  generalize ((w.alloc (.cells #[] 82)).alloc (.cells #[] 39)) = w0 at *
  go_wp2_with (at_builtin; refine wpList_append_rd rfl _ _ 24 rfl (w.heap.size + 1) 39 j0 (.agg #[.string ⟨#[]⟩, .int .i64 0, .string ⟨#[]⟩]) 3 40 Try.underlying24 hj hy0 hy1 hy2 rfl (by decide) _ _ _ rfl hO1 _ _ _ _ _ rfl B1 (flat_one5 _) g4 g5 g6 ?_; intro v2 w2 hO2 hg2 hx2; clear hx2; refine halt_ ?_)
  refine unhalt_ ?_
  rw [← flat_append, Nat.zero_add] at hO2
  obtain ⟨a2, c2, rfl⟩ := own_slice' hO2
  have hb2 : Below (w.heap.size + 1) w1 w2 := gb_below hg2 g6 (fun q e => (own_ge hO1 q e).1)
  have O2 := own_under O1 hb2 (blk_lt (Nat.lt_succ_self _))
  have Bw2 := Bw1.trans (hb2.mono (Nat.le_succ _))
  have s2 : w.heap.size + 1 ≤ w2.heap.size := Nat.le_trans g6 hb2.size
  clear hg2 hb2 O1 Bw1 B1 hO1 g6
  go_wp2_with fail
  refine (l5Keys_any a2 (la + lb) c2 (a ++ b) w2 (by omega) (Rd.of_own hO2)).mono ?_
  rintro e w3 ⟨ka, kc, rfl, hb3, hK⟩
  have O3 := own_below O2 hb3
  have Bw3 := Bw2.trans (hb3.mono Bw2.size)
  have K3 := RdIn.of_own hK
  have s3 := hb3.size
  have hkl : (keysOf (sortL (a ++ b))).length ≤ 240 := by
    have h1 := keysOf_le (sortL (a ++ b))
    rw [sortL_length, List.length_append, hal, hbl] at h1
    omega
  have A3 : Apart w2.heap.size w3.heap.size (.slice (some ⟨w.heap.size, 0, none⟩) 0 0) := Apart.at_ (.inl (by omega))
  have HV := Lib.hid (show ∀ k, (valsK (sortL a) k).length ≤ 120 ∧ (valsK (sortL b) k).length ≤ 120 from fun k => by
    have h1 := valsK_le (sortL a) k
    have h2 := valsK_le (sortL b) k
    rw [sortL_length] at h1 h2
    omega)
  have HKey := Lib.hid (show ∀ i key, (keysOf (sortL (a ++ b)))[i]? = some key → l5JK n a b (i + 1) = l5JK n a b i ++ oneK n key (valsK (sortL a) key) (valsK (sortL b) key) from fun i key h => l5JK_succ h)
  have HAll := Lib.hid (show ∀ i, (keysOf (sortL (a ++ b))).length ≤ i → l5JK n a b i = l5J n a b from fun i h => l5JK_all h)
  have HZ := Lib.hid (show l5JK n a b 0 = [] from rfl)
  clear hO2 O2 Bw2 hK hb3 hal hbl g1 g2 g4 g5
  generalize keysOf (sortL (a ++ b)) = KS at *
  obtain ⟨kn, hkn⟩ : ∃ kn, KS.length = kn := ⟨_, rfl⟩
  rw [hkn] at K3 hkl HAll ⊢
  clear hkn
  go_wp2_with fail
  go_loopw [7, 9] (fun v i wr => ∃ (k q : Nat) (g : Option Addr) (c : Nat), k ≤ kn ∧ i = .int .i64 k ∧ v = .slice g q c ∧ q ≤ 200000 * k ∧ Hid ((l5JK n a b k).length = q) ∧ wr.ownsRow w.heap.size 82 5 (.slice g q c) q (flatP (l5JK n a b k)) ∧ Below w.heap.size w wr ∧ RdIn wr w2.heap.size w3.heap.size 1 ka kn (strC KS) ∧ Hid (Apart w2.heap.size w3.heap.size (.slice g q c)) ∧ w3.heap.size ≤ wr.heap.size) (fun _ i _ => kn - (intOf i).toNat)
  case atStart => exact ⟨0, 0, _, _, Nat.zero_le _, rfl, rfl, by omega, Lib.hid (by rw [HZ.out]; rfl), by rw [HZ.out]; exact O3, Bw3, K3, Lib.hid A3, Nat.le_refl _⟩
  case round =>
    obtain ⟨k, q, g, c, hk, rfl, rfl, hq, HQ, hO, hb, hK, HP, hs⟩ := hrel
    clear O3 Bw3 K3 A3
    by_cases hlt : k < kn
    · obtain ⟨kb, ko, key, rfl, hKB, hkey, c0⟩ := hK.rd.str hlt
      have HE := Lib.hid (HKey.out k key hkey)
      have HKS := Lib.hid hkey
      clear hkey
      obtain ⟨hv1, hv2⟩ := HV.out key
      have h1 := oneK_le (n := n) (key := key) hv1 hv2
      have hws : w.heap.size ≤ wr.heap.size := hb.size
      have hkb : kb < wr.heap.size := Nat.lt_of_lt_of_le hKB hs
      have hd := (Below.refl wr.heap.size wr).drew
      have CA := Lib.hid (l5Vals_any aa la ca a key wr.drew (by omega) ((HA.out.below hb.drew (Nat.le_refl _)).more hws))
      have CB := Lib.hid (fun (W : World) (hW : Below wr.drew.heap.size wr.drew W) => l5Vals_any ba lb cb b key W (by omega) ((HB.out.below (hb.drew.trans (hW.mono hws)) (Nat.le_refl _)).more (Nat.le_trans hws hW.size)))
      have CP := Lib.hid (fun (W : World) (x : Option Addr) (xc : Nat) (y : Option Addr) (yc : Nat) (h : Rd W W.heap.size 1 x (valsK (sortL a) key).length (strC (valsK (sortL a) key))) (h' : Rd W W.heap.size 1 y (valsK (sortL b) key).length (strC (valsK (sortL b) key))) => l5Pairs_any n hn key x y (valsK (sortL a) key).length xc (valsK (sortL b) key).length yc (valsK (sortL a) key) (valsK (sortL b) key) W (Nat.le_trans hv1 (by omega)) (Nat.le_trans hv2 (by omega)) h h')
      have HS0 := Lib.hid (show wr.drew.cell? ⟨kb, ko + k, none⟩ = some (.string key) ∧ Below w.heap.size w wr.drew from ⟨c0, hb.drew⟩)
      have HOd := Lib.hid (own_below hO hd)
      have hp1 : q + (oneK n key (valsK (sortL a) key) (valsK (sortL b) key)).length ≤ maxLen := by unfold maxLen; omega
      have hp2 : (q + (oneK n key (valsK (sortL a) key) (valsK (sortL b) key)).length) * 56 ≤ 140737488355328 := by omega
      have HKd := Lib.hid (hK.below hd hs)
      clear hd hO hb hK
      generalize oneK n key (valsK (sortL a) key) (valsK (sortL b) key) = pl at *
      go_wp2_with fail
      go_region_held3 (fun w' => w'.cell? ⟨kb, ko + k, none⟩ = some (.string key) ∧ Below w.heap.size w w') (first | exact HS0.out | exact hG4 | exact hG3 | exact hG2 | exact hG1)
        (first
          | (go_at_call 97; (with_reducible refine CA.out.mono ?_); rintro e w5 ⟨va, vac, rfl, hb5, hO5⟩; have hG1 : w5.cell? ⟨kb, ko + k, none⟩ = some (.string key) ∧ Below w.heap.size w w5 := ⟨(hb5.cell (p := ⟨kb, ko + k, none⟩) hkb).trans HS0.out.1, HS0.out.2.trans (hb5.mono hws)⟩)
          | (go_at_call 97; (with_reducible refine (CB.out w5 hb5).mono ?_); rintro e w6 ⟨vb, vbc, rfl, hb6, hO6⟩; have hG2 : w6.cell? ⟨kb, ko + k, none⟩ = some (.string key) ∧ Below w.heap.size w w6 := ⟨(hb6.cell (p := ⟨kb, ko + k, none⟩) (Nat.lt_of_lt_of_le hkb hb5.size)).trans hG1.1, hG1.2.trans (hb6.mono hG1.2.size)⟩)
          | (go_at_call 96; (with_reducible refine (CP.out w6 va vac vb vbc (Rd.of_own (own_below hO5 hb6)) (Rd.of_own hO6)).mono ?_); rintro e w7 ⟨pa, pc, rfl, hb7, hO7⟩; have hG3 : w7.cell? ⟨kb, ko + k, none⟩ = some (.string key) ∧ Below w.heap.size w w7 := ⟨(hb7.cell (p := ⟨kb, ko + k, none⟩) (Nat.lt_of_lt_of_le hkb (Nat.le_trans hb5.size hb6.size))).trans hG2.1, hG2.2.trans (hb7.mono hG2.2.size)⟩)
          | (refine step_append_g (by rfl) (.tmp 23) (.tmp 41) 46 (by rfl) w.heap.size 82 i0 (.agg #[.string ⟨#[]⟩, .string ⟨#[]⟩, .string ⟨#[]⟩, .bool false, .bool false]) 5 56 Try.underlying46 hi hz0 hz1 hz2 rfl (by decide) (.slice g q c) q (flatP (l5JK n a b k)) (by rfl) (own_below (own_below (own_below HOd.out hb5) hb6) hb7) pa _ pl.length pc (flatP pl) (by rfl) (Rd.of_own hO7) (flatP_one _) hp1 hp2 hG3.2.size ?_; intro v8 w8 hO8 hg8 hat8; rw [← flatP_append] at hO8; obtain ⟨a8, c8, rfl⟩ := own_slice' hO8; have hK7 := ((HKd.out.below hb5 hs).below hb6 (Nat.le_trans hs hb5.size)).below hb7 (Nat.le_trans hs (Nat.le_trans hb5.size hb6.size)); have hs7 : w3.heap.size ≤ w7.heap.size := Nat.le_trans hs (Nat.le_trans hb5.size (Nat.le_trans hb6.size hb7.size)); have hK8 := hK7.gb hg8 hs7 HP.out; have hG4 : w8.cell? ⟨kb, ko + k, none⟩ = some (.string key) ∧ Below w.heap.size w w8 := ⟨hK8.str_at HKS.out, hG3.2.grown hg8 hG3.2.size (fun q e => (own_ge (own_below (own_below (own_below HOd.out hb5) hb6) hb7) q e).1)⟩))
      have HP8 := Lib.hid (HP.out.next hat8 hs7)
      have hs8 : w3.heap.size ≤ w8.heap.size := Nat.le_trans hs7 hg8.size
      have HQ8 := Lib.hid (show (l5JK n a b (k + 1)).length = q + pl.length by rw [HE.out, List.length_append, HQ.out])
      rw [← HE.out] at hO8
      have hb8 := hG4.2
      clear hG1 hG2 hG3 hG4 hb5 hb6 hb7 hO5 hO6 hO7 hg8 hat8 hK7 hs7 HS0 HOd HKd CA CB CP HP HQ HE c0 hp1 hp2
      go_wp2_with fail
      go_roundw
      case rel => exact ⟨k + 1, q + pl.length, a8, c8, by omega, by go_num, rfl, by omega, HQ8, hO8, hb8, hK8, HP8, hs8⟩
      case measure => simp [intOf]; omega
    · obtain rfl : k = kn := by omega
      have e := HAll.out k (Nat.le_refl _)
      have hl := HQ.out
      rw [e] at hO hl
      have HL := Lib.hid hl
      clear e hl
      go_wp2_with fail
      go_ret
      refine ⟨g, c, ?_, hb, ?_⟩
      · rw [HL.out]; rfl
      · rw [HL.out]; exact hO
end Go.Proofs.Ytjhicjhgpbighaa
