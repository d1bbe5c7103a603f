/-
  impl.sidesOf by its contract. Conditions: at most 1048576 rows.
-/
import Derived.Test.YtgdbpckobngmjaaRowsMem
import Derived.Test.YtgdbpckobngmjaaSort
import Derived.Deep.MidRow
namespace Go.Proofs.Ytgdbpckobngmjaa
open Go.RowKit
/-- What a row contributes to a pair, as plain values. -/
structure SideV where
  val : ByteArray
  has : Bool
def SideV.cells (s : SideV) : List Value := [.string s.val, .bool s.has]
def flatD (l : List SideV) : List Value := l.flatMap SideV.cells
theorem flatD_snoc (l : List SideV) (s : SideV) : flatD (l ++ [s]) = flatD l ++ [.string s.val, .bool s.has] := by simp [flatD, SideV.cells]
def rowSide (r : RowV) : SideV := ⟨r.val, true⟩
def sidesL (rs : List RowV) : List SideV := if rs.length = 0 then [⟨⟨#[]⟩, false⟩] else rs.map rowSide
def sidesK (rs : List RowV) (k : Nat) : List SideV := (rs.take k).map rowSide
theorem infoSide : (Try.prog.info? 190).map (fun i => (i.zero, i.size, i.bytes)) = some (some (.agg #[.string ⟨#[]⟩, .bool false]), 2, 24) := by kernel_rfl
def SidesOut (w : World) (l : List SideV) (e : Ending) (w' : World) : Prop := ∃ a c, e = .returned (.slice a l.length c) ∧ Below w.heap.size w w' ∧ w'.ownsRow w.heap.size 190 2 (.slice a l.length c) l.length (flatD l)
theorem cell_side_new (W : World) (v : ByteArray) (b : Bool) (t : TypeId) : ∀ j u, [Value.string v, .bool b][j]? = some u → (W.alloc (.cells #[.string v, .bool b] t)).cell? ((⟨W.heap.size, 0, none⟩ : Addr).add j) = some u := by
  intro j u hu
  rw [Addr.add_mid, Nat.zero_add]
  rcases j with _ | _ | j <;> simp at hu <;> subst hu <;> simp [go_sem]
set_option maxRecDepth 100000 in
set_option maxHeartbeats 1000000 in
theorem sidesOf_any (a : Option Addr) (len cap : Nat) (rs : List RowV) (w : World) (hm : len ≤ 1048576) (hR : Rd w w.heap.size 3 a len (flat rs)) :
    Calls Try.prog 149 #[.slice a len cap] w (SidesOut w (sidesL rs)) := by
  have hl := Lib.hid hR.rows_length
  obtain ⟨i0, hi, hz0, hz1, hz2⟩ := info_parts infoSide
  by_cases h0 : len = 0
  · subst h0
    have E := Lib.hid (show sidesL rs = [⟨⟨#[]⟩, false⟩] from if_pos hl.out)
    have hO : (w.alloc (.cells #[.string ⟨#[]⟩, .bool false] 190)).ownsRow w.heap.size 190 2 (.slice (some ⟨w.heap.size, 0, none⟩) 1 1) 1 [.string ⟨#[]⟩, .bool false] := World.ownsRow_lit (base := w.heap.size) (size := 2) w #[.string ⟨#[]⟩, .bool false] 1 (Nat.le_refl _) (by unfold maxLen; omega) rfl
    go_enter Try.func149, Try.ntmps149
    go_wp2_with fail
    go_ret
    rw [E.out]
    exact ⟨_, _, rfl, bl1 _ _, hO⟩
  have E := Lib.hid (show sidesL rs = rs.map rowSide from if_neg (by rw [hl.out]; exact h0))
  have hne : ((len : Int) == 0) = false := by simp; omega
  clear h0
  go_enter Try.func149, Try.ntmps149
  go_wp2_with (at_make; refine wpList_make_own _ rfl _ _ 185 rfl w.heap.size 190 i0 (.agg #[.string ⟨#[]⟩, .bool false]) 2 Try.underlying185 hi hz0 hz1 .i64 .i64 _ len rfl rfl (by omega) (by rw [hz2]; omega) (by unfold maxLen; omega) (Nat.le_refl _) ?_; intro w1 hown hgrow)
  have hb1 := (Below.refl w.heap.size w).grown hgrow (Nat.le_refl _) (by simp)
  clear hgrow hne
  go_loopw [3, 16] (fun v i wr => ∃ (k : Nat) (b : Option Addr) (c : Nat), k ≤ len ∧ i = .int .i64 k ∧ v = .slice b k c ∧ wr.ownsRow w.heap.size 190 2 (.slice b k c) k (flatD (sidesK rs k)) ∧ Below w.heap.size w wr) (fun _ i _ => len - (intOf i).toNat)
  case atStart => exact ⟨0, _, _, Nat.zero_le _, rfl, rfl, hown, hb1⟩
  case round =>
    obtain ⟨k, b, c, hk, rfl, rfl, hO, hb⟩ := hrel
    clear hown hb1
    by_cases hlt : k < len
    · obtain ⟨b1, off, r, rfl, hB1, hr, c0, c1, c2⟩ := (hR.below hb (Nat.le_refl _)).row hlt
      have HE := Lib.hid (show flatD (sidesK rs k) ++ [.string r.val, .bool true] = flatD (sidesK rs (k + 1)) by
        obtain ⟨hq, e⟩ := List.getElem?_eq_some_iff.1 hr
        unfold sidesK
        rw [List.take_succ_eq_append_getElem hq, e, List.map_append]
        exact (flatD_snoc _ (rowSide r)).symm)
      clear hr
      obtain ⟨key, tag, val⟩ := r
      have hb2 := bl1 wr (.cells #[.string key, .int .i64 tag, .string val] 68)
      have hO2 := own_below hO hb2
      have hB2 := hb.trans (hb2.mono hb.size)
      clear hb2 hO
      have HC := Lib.hid (cell_side_new (wr.alloc (.cells #[.string key, .int .i64 tag, .string val] 68)) val true 190)
      rw [World.size_alloc] at HC
      go_wp2_with (at_builtin; refine wpList_append_own _ rfl _ _ 185 rfl w.heap.size 190 i0 (.agg #[.string ⟨#[]⟩, .bool false]) 2 24 Try.underlying185 hi hz0 hz1 hz2 rfl (by decide) _ _ _ rfl (hO2.alloc _) ⟨wr.heap.size + 1, 0, none⟩ 1 1 [.string val, .bool true] rfl rfl HC.out ?g2 ?g3 ?g4 ?g5 ?_)
      case g2 => simp [Value.oneCell']
      case g3 => unfold maxLen; omega
      case g4 => omega
      case g5 => have := hb.size; simp; omega
      intro v' w4 hO4 hg4 _
      obtain ⟨a', cap', rfl⟩ := own_slice' hO4
      have hb4 := (hB2.alloc hB2.size (.cells #[.string val, .bool true] 190)).grown hg4 (by have := hB2.size; simp at this ⊢; omega) (fun q e => (own_ge hO2 q e).1)
      rw [HE.out] at hO4
      clear hg4 hO2 c0 c1 c2
      go_wp2_with fail
      go_roundw
      case rel => exact ⟨k + 1, a', cap', by omega, by go_num, rfl, hO4, hb4⟩
      case measure => simp [intOf]; omega
    · obtain rfl : k = len := by omega
      unfold sidesK at hO
      rw [List.take_of_length_le (by rw [hl.out]; omega)] at hO
      go_wp2_with fail
      go_ret
      rw [E.out]
      refine ⟨b, c, ?_, hb, ?_⟩
      · rw [List.length_map, hl.out]; rfl
      · rw [List.length_map, hl.out]; exact hO
end Go.Proofs.Ytgdbpckobngmjaa
