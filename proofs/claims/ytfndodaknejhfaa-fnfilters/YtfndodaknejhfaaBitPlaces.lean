/-
  The method places of impl.bitSet by its contract: the three bits of a key. Conditions: the size lies in 8..256, the key has at most 12 bytes.
-/
import Derived.Test.YtfndodaknejhfaaBitOps
import Derived.Test.YtfndodaknejhfaaResVar
import Derived.Test.YtfndodaknejhfaaHash
namespace Go.Proofs.Ytfndodaknejhfaa
open Go.RowKit
/-- The bytes that are hashed for the bit number k of a key. -/
def keyB (k : Nat) (s : ByteArray) : ByteArray := ⟨#[UInt8.ofNat k]⟩ ++ s
def place (n : Int) (s : ByteArray) (k : Nat) : Int := fnv (keyB k s).data.toList % n
/-- A row of three numbers in block b. -/
def A3 (w : World) (b : Nat) (l : List Int) : Prop := w.rangeAt b 0 (l.map (Value.int .i64)) ∧ w.there b 0 3 ∧ b < w.heap.size ∧ l.length = 3
theorem A3.below {w w' : World} {B b : Nat} {l : List Int} (h : A3 w b l) (hb : Below B w w') (hB : b < B) : A3 w' b l :=
  ⟨fun j v hv => (hb.cell (p := ⟨b, 0 + j, none⟩) hB).trans (h.1 j v hv), fun j hj => ⟨by rw [hb.cell (p := ⟨b, 0 + j, none⟩) hB]; exact (h.2.1 j hj).1, by rw [hb.frozen (p := ⟨b, 0 + j, none⟩) hB]; exact (h.2.1 j hj).2⟩, Nat.lt_of_lt_of_le h.2.2.1 hb.size, h.2.2.2⟩
theorem A3.new (w : World) (t : TypeId) : A3 (w.alloc (.cells #[.int .i64 0, .int .i64 0, .int .i64 0] t)) w.heap.size [0, 0, 0] := by
  refine ⟨fun j v hv => ?_, fun j hj => ?_, by simp, rfl⟩
  · rcases j with _ | _ | _ | j <;> simp at hv <;> subst hv <;> simp [go_sem]
  · rcases (show j = 0 ∨ j = 1 ∨ j = 2 by omega) with rfl | rfl | rfl <;> simp [go_sem]
theorem A3.set {w : World} {b : Nat} {l : List Int} (h : A3 w b l) (i : Nat) (x : Int) (hi : i < 3) : A3 (w.setCell ⟨b, i, none⟩ (.int .i64 x)) b (l.set i x) := by
  have hl := h.2.2.2
  refine ⟨?_, World.there_setCells h.2.1 b i [.int .i64 x], ?_, by simpa using hl⟩
  · have := rangeAt_splice (o := i) (vs := [.int .i64 x]) h.1 (by simpa [hl] using h.2.1) (by simp; omega)
    simp only [List.length_cons, List.length_nil, Nat.zero_add] at this
    rw [List.map_set, List.set_eq_take_append_cons_drop, if_pos (by simp; omega)]
    exact this
  · have := size_setCells b [.int .i64 x] i w
    exact this ▸ h.2.2.1
theorem A3.cell {w : World} {b : Nat} {l : List Int} (h : A3 w b l) (i : Nat) (x : Int) (hx : l[i]? = some x) : w.cell? ⟨b, i, none⟩ = some (.int .i64 x) := by
  have := h.1 i (.int .i64 x) (by simp [hx])
  rwa [Nat.zero_add] at this
theorem A3.frozen {w : World} {b : Nat} {l : List Int} (h : A3 w b l) (i : Nat) (hi : i < 3) : w.frozen? ⟨b, i, none⟩ = false := by
  simpa using (h.2.1 i hi).2
theorem conv_one (W : World) (g : Nat) (c : UInt8) (n : Int) (hn : (c.toNat : Int) = n) (h : W.cell? ⟨g, 0, none⟩ = some (.int .u8 n)) :
    (convert 22 9 (.slice (some ⟨g, 0, none⟩) 1 1)).run Try.prog W = .ok (.string ⟨#[c]⟩) W :=
  run_convert_bytes_back (P := Try.prog) W 22 9 5 ⟨g, 0, none⟩ 1 [c] Try.underlying22 Try.underlying5 Try.underlying9 (fun j hj => by
    obtain rfl : j = 0 := by simpa using hj
    rw [show (⟨g, 0, none⟩ : Addr).add 0 = ⟨g, 0, none⟩ from rfl, h]
    exact congrArg (fun n => some (Value.int .u8 n)) hn.symm)
def placesL (n : Int) (s : ByteArray) (k : Nat) : List Int := ([place n s 0, place n s 1, place n s 2].take k) ++ List.replicate (3 - k) 0
theorem placesL_set (n : Int) (s : ByteArray) (k : Nat) (hk : k < 3) : (placesL n s k).set k (place n s k) = placesL n s (k + 1) := by
  rcases (show k = 0 ∨ k = 1 ∨ k = 2 by omega) with rfl | rfl | rfl <;> rfl
theorem placesL_get (n : Int) (s : ByteArray) (k : Nat) (hk : k < 3) : (placesL n s k)[k]? = some 0 := by
  rcases (show k = 0 ∨ k = 1 ∨ k = 2 by omega) with rfl | rfl | rfl <;> rfl
theorem keyB_size (k : Nat) (s : ByteArray) : (keyB k s).size = 1 + s.size := by
  unfold keyB; rw [ByteArray.size_append]; rfl
set_option maxRecDepth 100000 in
set_option maxHeartbeats 2000000 in
theorem places_any (b : Nat) (n : Int) (l : List UInt8) (s : ByteArray) (w : World) (h : BS w b n l) (h0 : 8 ≤ n) (h1 : n ≤ 256) (hs : s.size ≤ 12) :
    Calls Try.prog 144 #[.pointer (some ⟨b, 0, none⟩), .string s] w fun e w' => e = .returned (.agg #[.int .i64 (place n s 0), .int .i64 (place n s 1), .int .i64 (place n s 2)]) ∧ Below w.heap.size w w' := by
  have hlt := h.2.2.2
  have c0 : w.cell? ⟨b, 0, none⟩ = some (.int .i64 n) := h.1 0 _ rfl
  have hb := bl2 w (.cells #[.int .i64 0, .int .i64 0, .int .i64 0] 187) (.cells #[.int .i64 0, .int .i64 0, .int .i64 0] 187)
  have r4 := (A3.new w 187).below (bl1 _ (.cells #[.int .i64 0, .int .i64 0, .int .i64 0] 187)) (by simp)
  have r5 := A3.new (w.alloc (.cells #[.int .i64 0, .int .i64 0, .int .i64 0] 187)) 187
  simp only [World.size_alloc] at r5
  clear h
  go_enter Try.func144, Try.ntmps144
  go_wp2_with fail
  generalize (w.alloc (.cells #[.int .i64 0, .int .i64 0, .int .i64 0] 187)).alloc (.cells #[.int .i64 0, .int .i64 0, .int .i64 0] 187) = w1 at *
  go_loopw [7] (fun i wr => ∃ k : Nat, k ≤ 3 ∧ i = .int .i64 k ∧ Below w.heap.size w wr ∧ A3 wr w.heap.size [0, 0, 0] ∧ A3 wr (w.heap.size + 1) (placesL n s k)) (fun i _ => 3 - (intOf i).toNat)
  case atStart => exact ⟨0, by omega, rfl, hb, r4, r5⟩
  case round =>
    obtain ⟨k, hk, rfl, hbr, q4, q5⟩ := hrel
    clear hb r4 r5
    by_cases hk3 : k < 3
    · have x0 := (hbr.cell (p := ⟨b, 0, none⟩) hlt).trans c0
      have y0 := q5.cell k 0 (placesL_get n s k hk3)
      have f0 := q5.frozen k hk3
      have hB := q5.2.2.1
      have hC := Lib.hid (show ∀ w', Below wr.heap.size wr w' → w'.cell? ⟨b, 0, none⟩ = some (.int .i64 n) ∧ w'.cell? ⟨w.heap.size + 1, k, none⟩ = some (.int .i64 0) ∧ w'.frozen? ⟨w.heap.size + 1, k, none⟩ = false from fun w' h => ⟨(h.cell (p := ⟨b, 0, none⟩) (Nat.lt_of_lt_of_le hlt hbr.size)).trans x0, (h.cell (p := ⟨w.heap.size + 1, k, none⟩) hB).trans y0, (h.frozen (p := ⟨w.heap.size + 1, k, none⟩) hB).trans f0⟩)
      have hlt2 : b < wr.heap.size := Nat.lt_of_lt_of_le hlt hbr.size
      have hsz := keyB_size k s
      have hfn := fnv_bd (keyB k s).data.toList
      have hw : IntKind.u8.wrap (k : Int) = (k : Int) := by
        have : IntKind.u8.wrap (k : Int) = (k : Int) % 256 := rfl
        rw [this]; omega
      have hkc : ((UInt8.ofNat k).toNat : Int) = (k : Int) := by rw [UInt8.toNat_ofNat']; omega
      have hP : (⟨#[UInt8.ofNat k]⟩ : ByteArray) ++ s = keyB k s := rfl
      have Q4 := Lib.hid q4
      have Q5 := Lib.hid q5
      have HR := Lib.hid hbr
      have Z := Lib.hid (show Below w.heap.size w ((wr.setCell ⟨w.heap.size + 1, k, none⟩ (.int .i64 (fnv (keyB k s).data.toList % n))).alloc (.cells #[.int .u8 (k : Int)] 5)).drew ∧ A3 ((wr.setCell ⟨w.heap.size + 1, k, none⟩ (.int .i64 (fnv (keyB k s).data.toList % n))).alloc (.cells #[.int .u8 (k : Int)] 5)).drew w.heap.size [0, 0, 0] ∧ A3 ((wr.setCell ⟨w.heap.size + 1, k, none⟩ (.int .i64 (fnv (keyB k s).data.toList % n))).alloc (.cells #[.int .u8 (k : Int)] 5)).drew (w.heap.size + 1) (placesL n s (k + 1)) by
        have e : fnv (keyB k s).data.toList % n = place n s k := rfl
        rw [e]
        have a1 := q5.set k (place n s k) hk3
        rw [placesL_set n s k hk3] at a1
        have g0 : Below (w.heap.size + 1) wr (wr.setCell ⟨w.heap.size + 1, k, none⟩ (.int .i64 (place n s k))) := (Below.refl (w.heap.size + 1) wr).setCell (p := ⟨w.heap.size + 1, k, none⟩) (Nat.le_refl _) _
        have a2 := q4.below g0 (Nat.lt_succ_self _)
        have g1 := bl1 (wr.setCell ⟨w.heap.size + 1, k, none⟩ (.int .i64 (place n s k))) (.cells #[.int .u8 (k : Int)] 5)
        exact ⟨((hbr.trans (g0.mono (Nat.le_succ _))).trans (g1.mono (Nat.le_trans hbr.size g0.size))).drew, a2.below g1.drew a2.2.2.1, a1.below g1.drew a1.2.2.1⟩)
      clear q4 q5 hbr
      go_wp2_with fail
      go_region_with (first
          | (go_at_call 174; refine (fnvOf_any (keyB k s) _ (by unfold maxLen; omega)).mono ?_; rintro e w' ⟨rfl, rfl⟩)
          | (rw [conv_one _ _ (UInt8.ofNat k) (k : Int) hkc (by simp [go_sem])]))
      all_goals
        generalize ((wr.setCell ⟨w.heap.size + 1, k, none⟩ (.int .i64 (fnv (keyB k s).data.toList % n))).alloc (.cells #[.int .u8 (k : Int)] 5)).drew = w5 at *
        clear x0 y0 f0
        go_wp2_with fail
        go_roundw
        case rel => exact ⟨k + 1, by omega, by go_num, Z.out.1, Z.out.2.1, Z.out.2.2⟩
        case measure => simp [intOf]; omega
    · obtain rfl : k = 3 := by omega
      have e : placesL n s 3 = [place n s 0, place n s 1, place n s 2] := rfl
      rw [e] at q5
      have y0 := q5.cell 0 _ rfl
      have y1 := q5.cell 1 _ rfl
      have y2 := q5.cell 2 _ rfl
      have i3 : (Try.prog.info? 187).map (·.size) = some 3 := by kernel_rfl
      have E := Lib.hid (show (#[Value.int .i64 (place n s 0), .int .i64 (place n s 1), .int .i64 (place n s 2)] : Array Value) = #[Value.int .i64 (place n s 0), .int .i64 (place n s 1), .int .i64 (place n s 2)] from rfl)
      obtain ⟨p0, e0⟩ : ∃ p, p = place n s 0 := ⟨_, rfl⟩
      obtain ⟨p1, e1⟩ : ∃ p, p = place n s 1 := ⟨_, rfl⟩
      obtain ⟨p2, e2⟩ : ∃ p, p = place n s 2 := ⟨_, rfl⟩
      rw [← e0] at y0
      rw [← e1] at y1
      rw [← e2] at y2
      replace E := Lib.hid (show (#[Value.int .i64 p0, .int .i64 p1, .int .i64 p2] : Array Value) = #[Value.int .i64 (place n s 0), .int .i64 (place n s 1), .int .i64 (place n s 2)] by rw [e0, e1, e2])
      clear e0 e1 e2 q5 e
      go_wp2_with (refine wpList_store_mid rfl 187 _ _ rfl w.heap.size 0 #[.int .i64 p0, .int .i64 p1, .int .i64 p2] ?_ ?_ q4.2.1 i3 (by simp [Value.oneCell']) (stop ?_))
      · rfl
      · rfl
      have hR := World.rangeAt_setCells_same wr w.heap.size 0 [.int .i64 p0, .int .i64 p1, .int .i64 p2] q4.2.1
      have hB2 := below_setCells (B := w.heap.size) (b := w.heap.size) (Nat.le_refl _) [.int .i64 p0, .int .i64 p1, .int .i64 p2] 0 _ hbr
      refine unstop ?_
      change wpList _ _ _ _ _ (wr.setCells w.heap.size 0 [.int .i64 p0, .int .i64 p1, .int .i64 p2])
      generalize wr.setCells w.heap.size 0 [.int .i64 p0, .int .i64 p1, .int .i64 p2] = w5 at *
      have hld := run_loadVar_mid (P := Try.prog) w5 w.heap.size 0 187 [.int .i64 p0, .int .i64 p1, .int .i64 p2] _ hR Try.underlying187 rfl i3
      go_wp2_with fail
      refine bodyPost_ret (v := .agg #[.int .i64 p0, .int .i64 p1, .int .i64 p2]) ?_ rfl ⟨by rw [E.out], hB2⟩
      simp [results, Try.results144, asAddr, hld]
end Go.Proofs.Ytfndodaknejhfaa
