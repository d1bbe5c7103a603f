/-
  spec.l5Pairs by its contract: what a join tells of a key. Conditions: at most 1000 values on each hand; a kind from 1 to 6.
-/
import Derived.Maps.AppendAt
import Derived.Test.YtjhicjhgpbighaaStepOne
import Derived.Test.YtjhicjhgpbighaaSpecVals
import Derived.Test.YtjhicjhgpbighaaPairRead
namespace Go.Proofs.Ytjhicjhgpbighaa
open Go.RowKit
def bothP (key x y : ByteArray) : PairV := ⟨key, x, y, true, true⟩
def leftP (key x : ByteArray) : PairV := ⟨key, x, ⟨#[]⟩, true, false⟩
def rightP (key y : ByteArray) : PairV := ⟨key, ⟨#[]⟩, y, false, true⟩
def headK (n : Int) (key x : ByteArray) (m : Nat) : List PairV := if (n = 5 ∧ 0 < m) ∨ (n = 6 ∧ m = 0) then [leftP key x] else if m = 0 ∧ (n = 2 ∨ n = 4) then [leftP key x] else []
def bodyK (n : Int) (key x : ByteArray) (b : List ByteArray) : List PairV := if n ≤ 4 then b.map (bothP key x) else []
def tailK (n : Int) (key : ByteArray) (l : Nat) (b : List ByteArray) : List PairV := if l = 0 ∧ (n = 3 ∨ n = 4) then b.map (rightP key) else []
def mainK (n : Int) (key : ByteArray) (a b : List ByteArray) (i : Nat) : List PairV := (a.take i).flatMap fun x => headK n key x b.length ++ bodyK n key x b
theorem oneK_parts (n : Int) (key : ByteArray) (a b : List ByteArray) : oneK n key a b = mainK n key a b a.length ++ tailK n key a.length b := by
  unfold mainK
  rw [List.take_length]
  rfl
theorem mainK_succ {n : Int} {key : ByteArray} {a b : List ByteArray} {i m : Nat} {x : ByteArray} (hx : a[i]? = some x) (hm : b.length = m) : mainK n key a b (i + 1) = mainK n key a b i ++ (headK n key x m ++ bodyK n key x b) := by
  unfold mainK
  rw [List.take_add_one, hx, Option.toList_some, List.flatMap_append, List.flatMap_singleton, hm]
theorem mainK_le {n : Int} {key : ByteArray} {a b : List ByteArray} (hb : b.length ≤ 1000) (i : Nat) : (mainK n key a b i).length ≤ i * 1001 := by
  unfold mainK
  have h : ∀ l : List ByteArray, (l.flatMap fun x => headK n key x b.length ++ bodyK n key x b).length ≤ l.length * 1001 := by
    intro l
    induction l with
    | nil => simp
    | cons x l ih =>
      rw [List.flatMap_cons, List.length_append, List.length_append, List.length_cons]
      have h1 : (headK n key x b.length).length ≤ 1 := by
        unfold headK
        split
        · simp
        · split <;> simp
      have h2 : (bodyK n key x b).length ≤ 1000 := by
        unfold bodyK
        split
        · simpa using hb
        · simp
      omega
  have := h (a.take i)
  rw [List.length_take] at this
  have h3 : min i a.length * 1001 ≤ i * 1001 := Nat.mul_le_mul_right _ (Nat.min_le_left _ _)
  exact Nat.le_trans this h3
theorem map_take_succ {β : Type} {b : List ByteArray} {k : Nat} {y : ByteArray} (f : ByteArray → β) (hy : b[k]? = some y) : (b.map f).take (k + 1) = (b.map f).take k ++ [f y] := by
  simp [List.take_add_one, hy]
set_option maxRecDepth 100000 in
theorem pair_one (p : PairV) : ∀ u ∈ [Value.string p.key, .string p.l, .string p.r, .bool p.hl, .bool p.hr], u.oneCell' = true := by
  intro u hu
  simp at hu
  rcases hu with rfl | rfl | rfl | rfl | rfl <;> rfl
theorem flatP_snoc' (l : List PairV) (p : PairV) : flatP (l ++ [p]) = flatP l ++ [.string p.key, .string p.l, .string p.r, .bool p.hl, .bool p.hr] := flatP_snoc l p

set_option maxRecDepth 100000 in
set_option maxHeartbeats 4000000 in
theorem l5Pairs_any (n : Int) (hn : n = 1 ∨ n = 2 ∨ n = 3 ∨ n = 4 ∨ n = 5 ∨ n = 6) (key : ByteArray) (aa ba : Option Addr) (la ca lb cb : Nat) (a b : List ByteArray) (w : World) (hla : la ≤ 1000) (hlb : lb ≤ 1000) (hA : Rd w w.heap.size 1 aa la (strC a)) (hB : Rd w w.heap.size 1 ba lb (strC b)) :
    Calls Try.prog 96 #[.string key, .slice aa la ca, .slice ba lb cb, .int .i64 n] w (PairsOut w (oneK n key a b)) := by
  obtain ⟨i0, hi, hz0, hz1, hz2⟩ := info_parts infoPair
  have h1 := Lib.hid hA.strs_length
  have h2 := Lib.hid hB.strs_length
  have HL := Lib.hid (show ∀ i, (mainK n key a b i).length ≤ i * 1001 from fun i => mainK_le (by rw [h2.out]; exact hlb) i)
  have hb0 : Below w.heap.size w (w.alloc (.cells #[] 82)) := bl1 _ _
  have hOn := World.ownsRow_lit (base := w.heap.size) (e := 82) (size := 5) w #[] 0 (Nat.le_refl _) (Nat.zero_le _) rfl
  go_enter Try.func96, Try.ntmps96
  go_wp2_with fail
  generalize w.alloc (.cells #[] 82) = w0 at *
  go_loopw [9, 10] (fun v j wr => ∃ (i q : Nat) (g : Option Addr) (c : Nat), i ≤ la ∧ j = .int .i64 i ∧ v = .slice g q c ∧ Hid ((mainK n key a b i).length = q) ∧ wr.ownsRow w.heap.size 82 5 (.slice g q c) q (flatP (mainK n key a b i)) ∧ Below w.heap.size w wr) (fun _ j _ => la - (intOf j).toNat)
  case atStart => exact ⟨0, 0, _, _, Nat.zero_le _, rfl, rfl, Lib.hid rfl, hOn, hb0⟩
  case round =>
    obtain ⟨i, q, g, c, hil, rfl, rfl, HQ, hO, hb⟩ := hrel
    clear hOn hb0
    have hq : q ≤ 1001 * 1000 := by have := HL.out i; rw [HQ.out] at this; omega
    by_cases hlt : i < la
    · obtain ⟨b1, o1, x, rfl, hB1, hx, c0⟩ := (hA.below hb (Nat.le_refl _)).str hlt
      have HE := Lib.hid (mainK_succ (n := n) (key := key) hx h2.out)
      have HX := Lib.hid (show ∀ y : ByteArray, a[i]? = some y → x = y from fun y h => by rw [hx] at h; injection h)
      clear hx
      have ha0 := bl1 wr (.cells #[.string key, .string x, .string ⟨#[]⟩, .bool true, .bool false] 82)
      have hO1 := own_below hO ha0
      have hb1 := hb.trans (ha0.mono hb.size)
      have hws : w.heap.size ≤ wr.heap.size := hb.size
      clear ha0 hO hb
      by_cases hI : n ≤ 4 ∧ 0 < lb
      · obtain ⟨hn4, hl0⟩ := hI
        have e5 : (n == 5) = false := by simp; omega
        have e6 : (n == 6) = false := by simp; omega
        have m0 : ((lb : Int) == 0) = false := by simp; omega
        have m1 : decide (0 < (lb : Int)) = true := by simp; omega
        have d4 : decide (n ≤ 4) = true := by simpa using hn4
        have HH := Lib.hid (show headK n key x lb = [] by unfold headK; rw [if_neg (by omega), if_neg (by omega)])
        have HB := Lib.hid (show bodyK n key x b = b.map (bothP key x) from if_pos hn4)
        clear hn hn4 hl0
        go_wp2_with fail
        generalize wr.alloc (.cells #[.string key, .string x, .string ⟨#[]⟩, .bool true, .bool false] 82) = w1 at *
        clear c0
        go_loopw [9, 12] (fun v j wi => ∃ (k q : Nat) (g : Option Addr) (c : Nat), k ≤ lb ∧ j = .int .i64 k ∧ v = .slice g q c ∧ q ≤ 1001 * 1000 + k ∧ Hid ((mainK n key a b i ++ (b.map (bothP key x)).take k).length = q) ∧ wi.ownsRow w.heap.size 82 5 (.slice g q c) q (flatP (mainK n key a b i ++ (b.map (bothP key x)).take k)) ∧ Below w.heap.size w wi) (fun _ j _ => lb - (intOf j).toNat)
        case atStart => exact ⟨0, q, g, c, Nat.zero_le _, rfl, rfl, by omega, Lib.hid (by rw [List.take_zero, List.append_nil]; exact HQ.out), by rw [List.take_zero, List.append_nil]; exact hO1, hb1⟩
        case round =>
          obtain ⟨k, q, g, c, hk, rfl, rfl, hq2, HQ, hO, hb⟩ := hrel
          clear hO1 hb1
          by_cases hkl : k < lb
          · obtain ⟨b2, o2, y, rfl, hB2, hy, d0⟩ := (hB.below hb (Nat.le_refl _)).str hkl
            obtain ⟨b3, o3, x3, e3, hB3, hx3, c0⟩ := (hA.below hb (Nat.le_refl _)).str hlt
            obtain ⟨rfl, rfl⟩ : b1 = b3 ∧ o1 = o3 := by injection e3 with e3; injection e3 with e3 e4; exact ⟨e3, e4⟩
            obtain rfl : x = x3 := HX.out _ hx3
            clear e3 hx3 hB3
            have HS := Lib.hid (map_take_succ (bothP key x) hy)
            clear hy
            have hws2 : w.heap.size ≤ wr.heap.size := hb.size
            have HBW := Lib.hid ((hb.alloc hb.size (.cells #[.string key, .string x, .string y, .bool true, .bool true] 82)).drew)
            have HV := Lib.hid (own_below (own_below hO (bl1 wr (.cells #[.string key, .string x, .string y, .bool true, .bool true] 82))) (Below.refl _ _).drew)
            have HN := Lib.hid (cell_pair_new wr key x y true true 82)
            have hlm : q + 1 ≤ maxLen := by unfold maxLen; omega
            have hl9 : (q + 1) * 56 ≤ 140737488355328 := by omega
            clear hO hb
            go_wp2_with fail
            go_region_law (refine step_append_one rfl (.tmp 74) (.tmp 85) 46 rfl w.heap.size 82 i0 (.agg #[.string ⟨#[]⟩, .string ⟨#[]⟩, .string ⟨#[]⟩, .bool false, .bool false]) 5 56 Try.underlying46 hi hz0 hz1 hz2 rfl (by decide) (.slice g q c) q _ rfl HV.out ⟨wr.heap.size, 0, none⟩ 1 1 [.string key, .string x, .string y, .bool true, .bool true] rfl rfl HN.out (pair_one (bothP key x y)) hlm hl9 HBW.out.size ?_; intro v' w3 hO3 hg3 _; obtain ⟨a3, c3, rfl⟩ := own_slice' hO3)
            all_goals
              have hb3 := HBW.out.grown hg3 HBW.out.size (fun q e => (own_ge HV.out q e).1)
              have HQ3 := Lib.hid (show (mainK n key a b i ++ (b.map (bothP key x)).take (k + 1)).length = q + 1 by rw [HS.out, ← List.append_assoc, List.length_append, HQ.out]; rfl)
              have hO4 : w3.ownsRow w.heap.size 82 5 (.slice a3 (q + 1) c3) (q + 1) (flatP (mainK n key a b i ++ (b.map (bothP key x)).take (k + 1))) := by
                rw [HS.out, ← List.append_assoc, flatP_snoc']; exact hO3
              clear hO3 hg3 HBW HV HN c0 d0 HQ
              go_wp2_with fail
              go_roundw
              case rel => exact ⟨k + 1, q + 1, a3, c3, by omega, by go_num, rfl, by omega, HQ3, hO4, hb3⟩
              case measure => simp [intOf]; omega
          · obtain rfl : k = lb := by omega
            have e : mainK n key a b i ++ (b.map (bothP key x)).take k = mainK n key a b (i + 1) := by
              rw [HE.out, HH.out, HB.out, List.nil_append, List.take_of_length_le (by rw [List.length_map, h2.out]; omega)]
            have HQ3 := Lib.hid HQ.out
            rw [e] at HQ3 hO
            clear e
            go_wp2_with fail
            go_roundw
            case rel => exact ⟨i + 1, q, g, c, by omega, by go_num, rfl, HQ3, hO, hb⟩
            case measure => simp [intOf]; omega
      · have hsh : (n = 1 ∧ lb = 0 ∨ n = 3 ∧ lb = 0 ∨ n = 5 ∧ lb = 0 ∨ n = 6 ∧ 0 < lb) ∨ (n = 2 ∧ lb = 0 ∨ n = 4 ∧ lb = 0 ∨ n = 5 ∧ 0 < lb ∨ n = 6 ∧ lb = 0) := by omega
        have HC := Lib.hid (cell_pair_new (wr.alloc (.cells #[.string key, .string x, .string ⟨#[]⟩, .bool true, .bool false] 82)) key x ⟨#[]⟩ true false 82)
        rw [World.size_alloc] at HC
        clear hI hn
        rcases hsh with hsh | hsh
        · rcases hsh with ⟨rfl, hl0⟩ | ⟨rfl, hl0⟩ | ⟨rfl, hl0⟩ | ⟨rfl, hl0⟩
          · subst hl0
            have HP := Lib.hid (show mainK 1 key a b (i + 1) = mainK 1 key a b i by rw [HE.out, show headK 1 key x 0 = [] by unfold headK; rw [if_neg (by omega), if_neg (by omega)], show bodyK 1 key x b = [] by unfold bodyK; rw [List.eq_nil_of_length_eq_zero h2.out]; simp, List.append_nil, List.append_nil])
            have HQ2 : Hid ((mainK 1 key a b (i + 1)).length = q) := Lib.hid (by rw [HP.out]; exact HQ.out)
            have hO5 : (wr.alloc (.cells #[.string key, .string x, .string ⟨#[]⟩, .bool true, .bool false] 82)).ownsRow w.heap.size 82 5 (.slice g q c) q (flatP (mainK 1 key a b (i + 1))) := by rw [HP.out]; exact hO1
            have hb5 := hb1
            clear hO1 hb1 HQ HC HP HE
            go_wp2_with fail
            clear c0
            generalize wr.alloc (.cells #[.string key, .string x, .string ⟨#[]⟩, .bool true, .bool false] 82) = w1 at *
            go_loopw [9, 12] (fun v j wi => j = .int .i64 0 ∧ v = .slice g q c ∧ wi.ownsRow w.heap.size 82 5 (.slice g q c) (q) (flatP (mainK 1 key a b (i + 1))) ∧ Below w.heap.size w wi) (fun _ _ _ => 0)
            case atStart => exact ⟨rfl, rfl, hO5, hb5⟩
            case round =>
              obtain ⟨rfl, rfl, hO6, hb6⟩ := hrel
              clear hO5 hb5
              go_wp2_with fail
              go_roundw
              case rel => exact ⟨i + 1, q, g, c, by omega, by go_num, rfl, HQ2, hO6, hb6⟩
              case measure => simp [intOf]; omega
          · subst hl0
            have HP := Lib.hid (show mainK 3 key a b (i + 1) = mainK 3 key a b i by rw [HE.out, show headK 3 key x 0 = [] by unfold headK; rw [if_neg (by omega), if_neg (by omega)], show bodyK 3 key x b = [] by unfold bodyK; rw [List.eq_nil_of_length_eq_zero h2.out]; simp, List.append_nil, List.append_nil])
            have HQ2 : Hid ((mainK 3 key a b (i + 1)).length = q) := Lib.hid (by rw [HP.out]; exact HQ.out)
            have hO5 : (wr.alloc (.cells #[.string key, .string x, .string ⟨#[]⟩, .bool true, .bool false] 82)).ownsRow w.heap.size 82 5 (.slice g q c) q (flatP (mainK 3 key a b (i + 1))) := by rw [HP.out]; exact hO1
            have hb5 := hb1
            clear hO1 hb1 HQ HC HP HE
            go_wp2_with fail
            clear c0
            generalize wr.alloc (.cells #[.string key, .string x, .string ⟨#[]⟩, .bool true, .bool false] 82) = w1 at *
            go_loopw [9, 12] (fun v j wi => j = .int .i64 0 ∧ v = .slice g q c ∧ wi.ownsRow w.heap.size 82 5 (.slice g q c) (q) (flatP (mainK 3 key a b (i + 1))) ∧ Below w.heap.size w wi) (fun _ _ _ => 0)
            case atStart => exact ⟨rfl, rfl, hO5, hb5⟩
            case round =>
              obtain ⟨rfl, rfl, hO6, hb6⟩ := hrel
              clear hO5 hb5
              go_wp2_with fail
              go_roundw
              case rel => exact ⟨i + 1, q, g, c, by omega, by go_num, rfl, HQ2, hO6, hb6⟩
              case measure => simp [intOf]; omega
          · subst hl0
            have HP := Lib.hid (show mainK 5 key a b (i + 1) = mainK 5 key a b i by rw [HE.out, show headK 5 key x 0 = [] by unfold headK; rw [if_neg (by omega), if_neg (by omega)], show bodyK 5 key x b = [] by exact if_neg (by omega), List.append_nil, List.append_nil])
            have HQ2 : Hid ((mainK 5 key a b (i + 1)).length = q) := Lib.hid (by rw [HP.out]; exact HQ.out)
            have hO5 : (wr.alloc (.cells #[.string key, .string x, .string ⟨#[]⟩, .bool true, .bool false] 82)).ownsRow w.heap.size 82 5 (.slice g q c) q (flatP (mainK 5 key a b (i + 1))) := by rw [HP.out]; exact hO1
            have hb5 := hb1
            clear hO1 hb1 HQ HC HP HE
            go_wp2_with fail
            clear c0
            generalize wr.alloc (.cells #[.string key, .string x, .string ⟨#[]⟩, .bool true, .bool false] 82) = w1 at *
            go_loopw [9, 12] (fun v j wi => j = .int .i64 0 ∧ v = .slice g q c ∧ wi.ownsRow w.heap.size 82 5 (.slice g q c) (q) (flatP (mainK 5 key a b (i + 1))) ∧ Below w.heap.size w wi) (fun _ _ _ => 0)
            case atStart => exact ⟨rfl, rfl, hO5, hb5⟩
            case round =>
              obtain ⟨rfl, rfl, hO6, hb6⟩ := hrel
              clear hO5 hb5
              go_wp2_with fail
              go_roundw
              case rel => exact ⟨i + 1, q, g, c, by omega, by go_num, rfl, HQ2, hO6, hb6⟩
              case measure => simp [intOf]; omega
          · have m0 : ((lb : Int) == 0) = false := by simp; omega
            have m1 : decide (0 < (lb : Int)) = true := by simp; omega
            have HP := Lib.hid (show mainK 6 key a b (i + 1) = mainK 6 key a b i by rw [HE.out, show headK 6 key x lb = [] by unfold headK; rw [if_neg (by omega), if_neg (by omega)], show bodyK 6 key x b = [] by exact if_neg (by omega), List.append_nil, List.append_nil])
            have HQ2 : Hid ((mainK 6 key a b (i + 1)).length = q) := Lib.hid (by rw [HP.out]; exact HQ.out)
            have hO5 : (wr.alloc (.cells #[.string key, .string x, .string ⟨#[]⟩, .bool true, .bool false] 82)).ownsRow w.heap.size 82 5 (.slice g q c) q (flatP (mainK 6 key a b (i + 1))) := by rw [HP.out]; exact hO1
            have hb5 := hb1
            clear hO1 hb1 HQ HC HP HE
            go_wp2_with fail
            clear c0
            generalize wr.alloc (.cells #[.string key, .string x, .string ⟨#[]⟩, .bool true, .bool false] 82) = w1 at *
            go_loopw [9, 12] (fun v j wi => j = .int .i64 0 ∧ v = .slice g q c ∧ wi.ownsRow w.heap.size 82 5 (.slice g q c) (q) (flatP (mainK 6 key a b (i + 1))) ∧ Below w.heap.size w wi) (fun _ _ _ => 0)
            case atStart => exact ⟨rfl, rfl, hO5, hb5⟩
            case round =>
              obtain ⟨rfl, rfl, hO6, hb6⟩ := hrel
              clear hO5 hb5
              go_wp2_with fail
              go_roundw
              case rel => exact ⟨i + 1, q, g, c, by omega, by go_num, rfl, HQ2, hO6, hb6⟩
              case measure => simp [intOf]; omega
        · rcases hsh with ⟨rfl, hl0⟩ | ⟨rfl, hl0⟩ | ⟨rfl, hl0⟩ | ⟨rfl, hl0⟩
          · subst hl0
            have HP := Lib.hid (show mainK 2 key a b (i + 1) = mainK 2 key a b i ++ [leftP key x] by rw [HE.out, show headK 2 key x 0 = [leftP key x] by unfold headK; rw [if_neg (by omega), if_pos (by omega)], show bodyK 2 key x b = [] by unfold bodyK; rw [List.eq_nil_of_length_eq_zero h2.out]; simp, List.append_nil])
            have HQ2 : Hid ((mainK 2 key a b (i + 1)).length = q + 1) := Lib.hid (by rw [HP.out, List.length_append, HQ.out]; rfl)
            clear HQ HE
            go_wp2_with (at_builtin; refine wpList_append_own_at _ rfl _ _ 46 rfl w.heap.size 82 i0 (.agg #[.string ⟨#[]⟩, .string ⟨#[]⟩, .string ⟨#[]⟩, .bool false, .bool false]) 5 56 Try.underlying46 hi hz0 hz1 hz2 rfl (by decide) _ _ _ rfl (hO1.alloc _) ⟨wr.heap.size + 1, 0, none⟩ 1 1 [.string key, .string x, .string ⟨#[]⟩, .bool true, .bool false] rfl rfl HC.out ?g2 ?g3 ?g4 ?g5 ?_)
            case g2 => first | (intro u hu; simp at hu; rcases hu with rfl | rfl | rfl | rfl | rfl <;> rfl) | simp [Value.oneCell']
            case g3 => unfold maxLen; omega
            case g4 => omega
            case g5 => first | omega | (simp; omega)
            intro v' w4 hO4 hg4 _ _
            obtain ⟨a', cap', rfl⟩ := own_slice' hO4
            have hb5 := below_grown1 hb1 hO1 hg4
            have hO5 : w4.ownsRow w.heap.size 82 5 (.slice a' (q + 1) cap') (q + 1) (flatP (mainK 2 key a b (i + 1))) := by rw [HP.out, flatP_snoc']; exact hO4
            clear hO1 hb1 HC HP hO4 hg4 c0
            go_wp2_with fail
            go_loopw [9, 12] (fun v j wi => j = .int .i64 0 ∧ v = .slice a' (q + 1) cap' ∧ wi.ownsRow w.heap.size 82 5 (.slice a' (q + 1) cap') (q + 1) (flatP (mainK 2 key a b (i + 1))) ∧ Below w.heap.size w wi) (fun _ _ _ => 0)
            case atStart => exact ⟨rfl, rfl, hO5, hb5⟩
            case round =>
              obtain ⟨rfl, rfl, hO6, hb6⟩ := hrel
              clear hO5 hb5
              go_wp2_with fail
              go_roundw
              case rel => exact ⟨i + 1, q + 1, a', cap', by omega, by go_num, rfl, HQ2, hO6, hb6⟩
              case measure => simp [intOf]; omega
          · subst hl0
            have HP := Lib.hid (show mainK 4 key a b (i + 1) = mainK 4 key a b i ++ [leftP key x] by rw [HE.out, show headK 4 key x 0 = [leftP key x] by unfold headK; rw [if_neg (by omega), if_pos (by omega)], show bodyK 4 key x b = [] by unfold bodyK; rw [List.eq_nil_of_length_eq_zero h2.out]; simp, List.append_nil])
            have HQ2 : Hid ((mainK 4 key a b (i + 1)).length = q + 1) := Lib.hid (by rw [HP.out, List.length_append, HQ.out]; rfl)
            clear HQ HE
            go_wp2_with (at_builtin; refine wpList_append_own_at _ rfl _ _ 46 rfl w.heap.size 82 i0 (.agg #[.string ⟨#[]⟩, .string ⟨#[]⟩, .string ⟨#[]⟩, .bool false, .bool false]) 5 56 Try.underlying46 hi hz0 hz1 hz2 rfl (by decide) _ _ _ rfl (hO1.alloc _) ⟨wr.heap.size + 1, 0, none⟩ 1 1 [.string key, .string x, .string ⟨#[]⟩, .bool true, .bool false] rfl rfl HC.out ?g2 ?g3 ?g4 ?g5 ?_)
            case g2 => first | (intro u hu; simp at hu; rcases hu with rfl | rfl | rfl | rfl | rfl <;> rfl) | simp [Value.oneCell']
            case g3 => unfold maxLen; omega
            case g4 => omega
            case g5 => first | omega | (simp; omega)
            intro v' w4 hO4 hg4 _ _
            obtain ⟨a', cap', rfl⟩ := own_slice' hO4
            have hb5 := below_grown1 hb1 hO1 hg4
            have hO5 : w4.ownsRow w.heap.size 82 5 (.slice a' (q + 1) cap') (q + 1) (flatP (mainK 4 key a b (i + 1))) := by rw [HP.out, flatP_snoc']; exact hO4
            clear hO1 hb1 HC HP hO4 hg4 c0
            go_wp2_with fail
            go_loopw [9, 12] (fun v j wi => j = .int .i64 0 ∧ v = .slice a' (q + 1) cap' ∧ wi.ownsRow w.heap.size 82 5 (.slice a' (q + 1) cap') (q + 1) (flatP (mainK 4 key a b (i + 1))) ∧ Below w.heap.size w wi) (fun _ _ _ => 0)
            case atStart => exact ⟨rfl, rfl, hO5, hb5⟩
            case round =>
              obtain ⟨rfl, rfl, hO6, hb6⟩ := hrel
              clear hO5 hb5
              go_wp2_with fail
              go_roundw
              case rel => exact ⟨i + 1, q + 1, a', cap', by omega, by go_num, rfl, HQ2, hO6, hb6⟩
              case measure => simp [intOf]; omega
          · have m0 : ((lb : Int) == 0) = false := by simp; omega
            have m1 : decide (0 < (lb : Int)) = true := by simp; omega
            have HP := Lib.hid (show mainK 5 key a b (i + 1) = mainK 5 key a b i ++ [leftP key x] by rw [HE.out, show headK 5 key x lb = [leftP key x] by unfold headK; rw [if_pos (by omega)], show bodyK 5 key x b = [] by exact if_neg (by omega), List.append_nil])
            have HQ2 : Hid ((mainK 5 key a b (i + 1)).length = q + 1) := Lib.hid (by rw [HP.out, List.length_append, HQ.out]; rfl)
            clear HQ HE
            go_wp2_with (at_builtin; refine wpList_append_own_at _ rfl _ _ 46 rfl w.heap.size 82 i0 (.agg #[.string ⟨#[]⟩, .string ⟨#[]⟩, .string ⟨#[]⟩, .bool false, .bool false]) 5 56 Try.underlying46 hi hz0 hz1 hz2 rfl (by decide) _ _ _ rfl (hO1.alloc _) ⟨wr.heap.size + 1, 0, none⟩ 1 1 [.string key, .string x, .string ⟨#[]⟩, .bool true, .bool false] rfl rfl HC.out ?g2 ?g3 ?g4 ?g5 ?_)
            case g2 => first | (intro u hu; simp at hu; rcases hu with rfl | rfl | rfl | rfl | rfl <;> rfl) | simp [Value.oneCell']
            case g3 => unfold maxLen; omega
            case g4 => omega
            case g5 => first | omega | (simp; omega)
            intro v' w4 hO4 hg4 _ _
            obtain ⟨a', cap', rfl⟩ := own_slice' hO4
            have hb5 := below_grown1 hb1 hO1 hg4
            have hO5 : w4.ownsRow w.heap.size 82 5 (.slice a' (q + 1) cap') (q + 1) (flatP (mainK 5 key a b (i + 1))) := by rw [HP.out, flatP_snoc']; exact hO4
            clear hO1 hb1 HC HP hO4 hg4 c0
            go_wp2_with fail
            go_loopw [9, 12] (fun v j wi => j = .int .i64 0 ∧ v = .slice a' (q + 1) cap' ∧ wi.ownsRow w.heap.size 82 5 (.slice a' (q + 1) cap') (q + 1) (flatP (mainK 5 key a b (i + 1))) ∧ Below w.heap.size w wi) (fun _ _ _ => 0)
            case atStart => exact ⟨rfl, rfl, hO5, hb5⟩
            case round =>
              obtain ⟨rfl, rfl, hO6, hb6⟩ := hrel
              clear hO5 hb5
              go_wp2_with fail
              go_roundw
              case rel => exact ⟨i + 1, q + 1, a', cap', by omega, by go_num, rfl, HQ2, hO6, hb6⟩
              case measure => simp [intOf]; omega
          · subst hl0
            have HP := Lib.hid (show mainK 6 key a b (i + 1) = mainK 6 key a b i ++ [leftP key x] by rw [HE.out, show headK 6 key x 0 = [leftP key x] by unfold headK; rw [if_pos (by omega)], show bodyK 6 key x b = [] by exact if_neg (by omega), List.append_nil])
            have HQ2 : Hid ((mainK 6 key a b (i + 1)).length = q + 1) := Lib.hid (by rw [HP.out, List.length_append, HQ.out]; rfl)
            clear HQ HE
            go_wp2_with (at_builtin; refine wpList_append_own_at _ rfl _ _ 46 rfl w.heap.size 82 i0 (.agg #[.string ⟨#[]⟩, .string ⟨#[]⟩, .string ⟨#[]⟩, .bool false, .bool false]) 5 56 Try.underlying46 hi hz0 hz1 hz2 rfl (by decide) _ _ _ rfl (hO1.alloc _) ⟨wr.heap.size + 1, 0, none⟩ 1 1 [.string key, .string x, .string ⟨#[]⟩, .bool true, .bool false] rfl rfl HC.out ?g2 ?g3 ?g4 ?g5 ?_)
            case g2 => first | (intro u hu; simp at hu; rcases hu with rfl | rfl | rfl | rfl | rfl <;> rfl) | simp [Value.oneCell']
            case g3 => unfold maxLen; omega
            case g4 => omega
            case g5 => first | omega | (simp; omega)
            intro v' w4 hO4 hg4 _ _
            obtain ⟨a', cap', rfl⟩ := own_slice' hO4
            have hb5 := below_grown1 hb1 hO1 hg4
            have hO5 : w4.ownsRow w.heap.size 82 5 (.slice a' (q + 1) cap') (q + 1) (flatP (mainK 6 key a b (i + 1))) := by rw [HP.out, flatP_snoc']; exact hO4
            clear hO1 hb1 HC HP hO4 hg4 c0
            go_wp2_with fail
            go_loopw [9, 12] (fun v j wi => j = .int .i64 0 ∧ v = .slice a' (q + 1) cap' ∧ wi.ownsRow w.heap.size 82 5 (.slice a' (q + 1) cap') (q + 1) (flatP (mainK 6 key a b (i + 1))) ∧ Below w.heap.size w wi) (fun _ _ _ => 0)
            case atStart => exact ⟨rfl, rfl, hO5, hb5⟩
            case round =>
              obtain ⟨rfl, rfl, hO6, hb6⟩ := hrel
              clear hO5 hb5
              go_wp2_with fail
              go_roundw
              case rel => exact ⟨i + 1, q + 1, a', cap', by omega, by go_num, rfl, HQ2, hO6, hb6⟩
              case measure => simp [intOf]; omega
    · obtain rfl : i = la := by omega
      have hE : oneK n key a b = mainK n key a b i ++ tailK n key i b := by rw [oneK_parts, h1.out]
      have HE := Lib.hid hE
      clear hE
      by_cases hT : i = 0 ∧ (n = 3 ∨ n = 4)
      · obtain ⟨hi0, hn3⟩ := hT
        have HT := Lib.hid (show tailK n key i b = b.map (rightP key) from if_pos ⟨hi0, hn3⟩)
        have i1 : ((i : Int) == 0) = true := by simpa using hi0
        clear hn hi0
        rcases hn3 with rfl | rfl
        · go_wp2_with fail
          go_loopw [9, 13] (fun v j wi => ∃ (k q : Nat) (g : Option Addr) (c : Nat), k ≤ lb ∧ j = .int .i64 k ∧ v = .slice g q c ∧ q ≤ 1001 * 1000 + k ∧ Hid ((mainK 3 key a b i ++ (b.map (rightP key)).take k).length = q) ∧ wi.ownsRow w.heap.size 82 5 (.slice g q c) q (flatP (mainK 3 key a b i ++ (b.map (rightP key)).take k)) ∧ Below w.heap.size w wi) (fun _ j _ => lb - (intOf j).toNat)
          case atStart => exact ⟨0, q, g, c, Nat.zero_le _, rfl, rfl, by omega, Lib.hid (by rw [List.take_zero, List.append_nil]; exact HQ.out), by rw [List.take_zero, List.append_nil]; exact hO, hb⟩
          case round =>
            clear HQ hO hb hq
            obtain ⟨k, q, g, c, hk, rfl, rfl, hq2, HQ, hO, hb⟩ := hrel
            by_cases hkl : k < lb
            · obtain ⟨b2, o2, y, rfl, hB2, hy, d0⟩ := (hB.below hb (Nat.le_refl _)).str hkl
              have HS := Lib.hid (map_take_succ (rightP key) hy)
              clear hy
              have hws2 : w.heap.size ≤ wr.heap.size := hb.size
              have HC := Lib.hid (cell_pair_new wr key ⟨#[]⟩ y false true 82)
              go_wp2_with (at_builtin; refine wpList_append_own_at _ rfl _ _ 46 rfl w.heap.size 82 i0 (.agg #[.string ⟨#[]⟩, .string ⟨#[]⟩, .string ⟨#[]⟩, .bool false, .bool false]) 5 56 Try.underlying46 hi hz0 hz1 hz2 rfl (by decide) _ _ _ rfl (hO.alloc _) ⟨wr.heap.size, 0, none⟩ 1 1 [.string key, .string ⟨#[]⟩, .string y, .bool false, .bool true] rfl rfl HC.out ?g2 ?g3 ?g4 ?g5 ?_)
              case g2 => first | (intro u hu; simp at hu; rcases hu with rfl | rfl | rfl | rfl | rfl <;> rfl) | simp [Value.oneCell']
              case g3 => unfold maxLen; omega
              case g4 => omega
              case g5 => first | omega | (simp; omega)
              intro v' w4 hO4 hg4 _ _
              obtain ⟨a', cap', rfl⟩ := own_slice' hO4
              have hb3 := below_grown1 hb hO hg4
              have HQ3 := Lib.hid (show (mainK 3 key a b i ++ (b.map (rightP key)).take (k + 1)).length = q + 1 by rw [HS.out, ← List.append_assoc, List.length_append, HQ.out]; rfl)
              have hO5 : w4.ownsRow w.heap.size 82 5 (.slice a' (q + 1) cap') (q + 1) (flatP (mainK 3 key a b i ++ (b.map (rightP key)).take (k + 1))) := by
                rw [HS.out, ← List.append_assoc, flatP_snoc']; exact hO4
              clear hO4 hg4 HC d0 HQ hO hb
              go_wp2_with fail
              go_roundw
              case rel => exact ⟨k + 1, q + 1, a', cap', by omega, by go_num, rfl, by omega, HQ3, hO5, hb3⟩
              case measure => simp [intOf]; omega
            · obtain rfl : k = lb := by omega
              have e : mainK 3 key a b i ++ (b.map (rightP key)).take k = oneK 3 key a b := by
                rw [HE.out, HT.out, List.take_of_length_le (by rw [List.length_map, h2.out]; omega)]
              have HQ3 := Lib.hid HQ.out
              rw [e] at HQ3 hO
              clear e
              go_wp2_with fail
              go_ret
              refine ⟨g, c, ?_, hb, ?_⟩
              · rw [HQ3.out]; rfl
              · rw [HQ3.out]; exact hO
        · go_wp2_with fail
          go_loopw [9, 13] (fun v j wi => ∃ (k q : Nat) (g : Option Addr) (c : Nat), k ≤ lb ∧ j = .int .i64 k ∧ v = .slice g q c ∧ q ≤ 1001 * 1000 + k ∧ Hid ((mainK 4 key a b i ++ (b.map (rightP key)).take k).length = q) ∧ wi.ownsRow w.heap.size 82 5 (.slice g q c) q (flatP (mainK 4 key a b i ++ (b.map (rightP key)).take k)) ∧ Below w.heap.size w wi) (fun _ j _ => lb - (intOf j).toNat)
          case atStart => exact ⟨0, q, g, c, Nat.zero_le _, rfl, rfl, by omega, Lib.hid (by rw [List.take_zero, List.append_nil]; exact HQ.out), by rw [List.take_zero, List.append_nil]; exact hO, hb⟩
          case round =>
            clear HQ hO hb hq
            obtain ⟨k, q, g, c, hk, rfl, rfl, hq2, HQ, hO, hb⟩ := hrel
            by_cases hkl : k < lb
            · obtain ⟨b2, o2, y, rfl, hB2, hy, d0⟩ := (hB.below hb (Nat.le_refl _)).str hkl
              have HS := Lib.hid (map_take_succ (rightP key) hy)
              clear hy
              have hws2 : w.heap.size ≤ wr.heap.size := hb.size
              have HC := Lib.hid (cell_pair_new wr key ⟨#[]⟩ y false true 82)
              go_wp2_with (at_builtin; refine wpList_append_own_at _ rfl _ _ 46 rfl w.heap.size 82 i0 (.agg #[.string ⟨#[]⟩, .string ⟨#[]⟩, .string ⟨#[]⟩, .bool false, .bool false]) 5 56 Try.underlying46 hi hz0 hz1 hz2 rfl (by decide) _ _ _ rfl (hO.alloc _) ⟨wr.heap.size, 0, none⟩ 1 1 [.string key, .string ⟨#[]⟩, .string y, .bool false, .bool true] rfl rfl HC.out ?g2 ?g3 ?g4 ?g5 ?_)
              case g2 => first | (intro u hu; simp at hu; rcases hu with rfl | rfl | rfl | rfl | rfl <;> rfl) | simp [Value.oneCell']
              case g3 => unfold maxLen; omega
              case g4 => omega
              case g5 => first | omega | (simp; omega)
              intro v' w4 hO4 hg4 _ _
              obtain ⟨a', cap', rfl⟩ := own_slice' hO4
              have hb3 := below_grown1 hb hO hg4
              have HQ3 := Lib.hid (show (mainK 4 key a b i ++ (b.map (rightP key)).take (k + 1)).length = q + 1 by rw [HS.out, ← List.append_assoc, List.length_append, HQ.out]; rfl)
              have hO5 : w4.ownsRow w.heap.size 82 5 (.slice a' (q + 1) cap') (q + 1) (flatP (mainK 4 key a b i ++ (b.map (rightP key)).take (k + 1))) := by
                rw [HS.out, ← List.append_assoc, flatP_snoc']; exact hO4
              clear hO4 hg4 HC d0 HQ hO hb
              go_wp2_with fail
              go_roundw
              case rel => exact ⟨k + 1, q + 1, a', cap', by omega, by go_num, rfl, by omega, HQ3, hO5, hb3⟩
              case measure => simp [intOf]; omega
            · obtain rfl : k = lb := by omega
              have e : mainK 4 key a b i ++ (b.map (rightP key)).take k = oneK 4 key a b := by
                rw [HE.out, HT.out, List.take_of_length_le (by rw [List.length_map, h2.out]; omega)]
              have HQ3 := Lib.hid HQ.out
              rw [e] at HQ3 hO
              clear e
              go_wp2_with fail
              go_ret
              refine ⟨g, c, ?_, hb, ?_⟩
              · rw [HQ3.out]; rfl
              · rw [HQ3.out]; exact hO
      · have HT : tailK n key i b = [] := if_neg hT
        have HO := HE.out
        rw [HT, List.append_nil] at HO
        have HW := Lib.hid HO
        have HZ := Lib.hid HQ.out
        clear HO HT HE HQ
        have hc : lb = 0 ∨ (0 < lb ∧ 0 < i) ∨ (0 < lb ∧ i = 0 ∧ (n = 1 ∨ n = 2 ∨ n = 5 ∨ n = 6)) := by omega
        clear hT hn
        rcases hc with rfl | ⟨hl0, hi0⟩ | ⟨hl0, hi0, hn3⟩
        · go_wp2_with fail
          go_loopw [9, 13] (fun v j wi => j = .int .i64 0 ∧ v = .slice g q c ∧ wi.ownsRow w.heap.size 82 5 (.slice g q c) q (flatP (mainK n key a b i)) ∧ Below w.heap.size w wi) (fun _ _ _ => 0)
          case atStart => exact ⟨rfl, rfl, hO, hb⟩
          case round =>
            clear hO hb
            obtain ⟨rfl, rfl, hO, hb⟩ := hrel
            go_wp2_with fail
            go_ret
            refine ⟨g, c, ?_, hb, ?_⟩
            · rw [HW.out, HZ.out]; rfl
            · rw [HW.out, HZ.out]; exact hO
        · have i1 : ((i : Int) == 0) = false := by simp; omega
          go_wp2_with fail
          go_loopw [9, 13] (fun v j wi => j = .int .i64 0 ∧ v = .slice g q c ∧ wi.ownsRow w.heap.size 82 5 (.slice g q c) q (flatP (mainK n key a b i)) ∧ Below w.heap.size w wi) (fun _ _ _ => 0)
          case atStart => exact ⟨rfl, rfl, hO, hb⟩
          case round =>
            clear hO hb
            obtain ⟨rfl, rfl, hO, hb⟩ := hrel
            go_wp2_with fail
            go_ret
            refine ⟨g, c, ?_, hb, ?_⟩
            · rw [HW.out, HZ.out]; rfl
            · rw [HW.out, HZ.out]; exact hO
        · have i1 : ((i : Int) == 0) = true := by simpa using hi0
          clear hi0
          rcases hn3 with rfl | rfl | rfl | rfl
          · go_wp2_with fail
            go_loopw [9, 13] (fun v j wi => j = .int .i64 0 ∧ v = .slice g q c ∧ wi.ownsRow w.heap.size 82 5 (.slice g q c) q (flatP (mainK 1 key a b i)) ∧ Below w.heap.size w wi) (fun _ _ _ => 0)
            case atStart => exact ⟨rfl, rfl, hO, hb⟩
            case round =>
              clear hO hb
              obtain ⟨rfl, rfl, hO, hb⟩ := hrel
              go_wp2_with fail
              go_ret
              refine ⟨g, c, ?_, hb, ?_⟩
              · rw [HW.out, HZ.out]; rfl
              · rw [HW.out, HZ.out]; exact hO
          · go_wp2_with fail
            go_loopw [9, 13] (fun v j wi => j = .int .i64 0 ∧ v = .slice g q c ∧ wi.ownsRow w.heap.size 82 5 (.slice g q c) q (flatP (mainK 2 key a b i)) ∧ Below w.heap.size w wi) (fun _ _ _ => 0)
            case atStart => exact ⟨rfl, rfl, hO, hb⟩
            case round =>
              clear hO hb
              obtain ⟨rfl, rfl, hO, hb⟩ := hrel
              go_wp2_with fail
              go_ret
              refine ⟨g, c, ?_, hb, ?_⟩
              · rw [HW.out, HZ.out]; rfl
              · rw [HW.out, HZ.out]; exact hO
          · go_wp2_with fail
            go_loopw [9, 13] (fun v j wi => j = .int .i64 0 ∧ v = .slice g q c ∧ wi.ownsRow w.heap.size 82 5 (.slice g q c) q (flatP (mainK 5 key a b i)) ∧ Below w.heap.size w wi) (fun _ _ _ => 0)
            case atStart => exact ⟨rfl, rfl, hO, hb⟩
            case round =>
              clear hO hb
              obtain ⟨rfl, rfl, hO, hb⟩ := hrel
              go_wp2_with fail
              go_ret
              refine ⟨g, c, ?_, hb, ?_⟩
              · rw [HW.out, HZ.out]; rfl
              · rw [HW.out, HZ.out]; exact hO
          · go_wp2_with fail
            go_loopw [9, 13] (fun v j wi => j = .int .i64 0 ∧ v = .slice g q c ∧ wi.ownsRow w.heap.size 82 5 (.slice g q c) q (flatP (mainK 6 key a b i)) ∧ Below w.heap.size w wi) (fun _ _ _ => 0)
            case atStart => exact ⟨rfl, rfl, hO, hb⟩
            case round =>
              clear hO hb
              obtain ⟨rfl, rfl, hO, hb⟩ := hrel
              go_wp2_with fail
              go_ret
              refine ⟨g, c, ?_, hb, ?_⟩
              · rw [HW.out, HZ.out]; rfl
              · rw [HW.out, HZ.out]; exact hO
end Go.Proofs.Ytjhicjhgpbighaa
