/-
  spec.l1Row by its contract: the bytes of a row. Conditions: a valid row; the variable internal/bytealg.MaxLen holds some int.
-/
import Derived.Test.YtgeepfoknhhcjaaDoorCode
import Derived.Test.YtgeepfoknhhcjaaDoorRowOk
import Derived.Deep.RegionHeld
import Derived.Lib.BufferRead
namespace Go.Proofs.YtgeepfoknhhcjaaDoor
open Go.RowKit

def tagB (t : Int) : UInt8 := UInt8.ofNat (t % 256).toNat
/-- The bytes of a row. -/
def rowB (k : ByteArray) (t : Int) (v : ByteArray) : ByteArray := codeB k ++ (⟨#[tagB t]⟩ : ByteArray) ++ codeB v
/-- What RowBytes returns. -/
def rowBytes (k : ByteArray) (t : Int) (v : ByteArray) : ByteArray := if okB k t v = true then rowB k t v else ⟨#[]⟩

theorem conv_byte1 (W : World) (g : Nat) (c : UInt8) (n : Int) (hn : (c.toNat : Int) = n) (h : W.cell? ⟨g, 0, none⟩ = some (.int .u8 n)) :
    (convert 22 9 (.slice (some ⟨g, 0, none⟩) 1 1)).run Tryd.prog W = .ok (.string ⟨#[c]⟩) W :=
  run_convert_bytes_back (P := Tryd.prog) W 22 9 5 ⟨g, 0, none⟩ 1 [c] Tryd.underlying22 Tryd.underlying5 Tryd.underlying9 (fun j hj => by
    obtain rfl : j = 0 := by simpa using hj
    rw [show (⟨g, 0, none⟩ : Addr).add 0 = ⟨g, 0, none⟩ from rfl, h]
    exact congrArg (fun n => some (Value.int .u8 n)) hn.symm)
theorem tagB_wrap (t : Int) : ((tagB t).toNat : Int) = IntKind.u8.wrap t := by
  unfold tagB
  rw [UInt8.toNat_ofNat']
  have : IntKind.u8.wrap t = t % 256 := rfl
  rw [this]; omega
/-- The condition on worlds: the row's cells, the variable MaxLen, and nothing older is touched. -/
def RowS (w0 : World) (g : Nat) (k : ByteArray) (t : Int) (v : ByteArray) (m : Int) (w : World) : Prop := (w.cell? ⟨g, 0, none⟩ = some (.string k) ∧ w.cell? ⟨g, 1, none⟩ = some (.int .i64 t) ∧ w.cell? ⟨g, 2, none⟩ = some (.string v) ∧ w.cell? ⟨0, 0, none⟩ = some (.int .i64 m)) ∧ Below w0.heap.size w0 w
theorem RowS.below {w0 w w' : World} {g : Nat} {k v : ByteArray} {t m : Int} (h : RowS w0 g k t v m w) (hb : Below w.heap.size w w') : RowS w0 g k t v m w' := by
  obtain ⟨⟨h0, h1, h2, h3⟩, h4⟩ := h
  have l0 := World.block_lt_of_cell? w _ h0
  have l3 := World.block_lt_of_cell? w _ h3
  have c : ∀ o, w'.cell? ⟨g, o, none⟩ = w.cell? ⟨g, o, none⟩ := fun o => hb.cell (show g < w.heap.size from l0)
  exact ⟨⟨(c 0).trans h0, (c 1).trans h1, (c 2).trans h2, (hb.cell l3).trans h3⟩, h4.trans (hb.mono h4.size)⟩
theorem RowS.alloc {w0 w : World} {g : Nat} {k v : ByteArray} {t m : Int} (h : RowS w0 g k t v m w) (o : Obj) : RowS w0 g k t v m (w.alloc o) := h.below ((Below.refl _ _).alloc (Nat.le_refl _) o)
theorem RowS.alloc_drew {w0 w : World} {g : Nat} {k v : ByteArray} {t m : Int} (h : RowS w0 g k t v m w.drew) (o : Obj) : RowS w0 g k t v m (w.alloc o).drew := (RowS.alloc (w := w.drew) h o)
theorem keyCode_S {w0 w : World} {g : Nat} {k v s : ByteArray} {t m : Int} {Q : Ending → World → Prop} (h : RowS w0 g k t v m w) (hs : s.size ≤ 12) (hQ : ∀ w', RowS w0 g k t v m w' → Q (.returned (.string (codeB s))) w') : Calls Tryd.prog 13 #[.string s] w Q := by
  refine (implKeyCode_any s m w (by unfold maxLen; omega) h.1.2.2.2).mono ?_
  rintro e w' ⟨rfl, hb⟩
  have e : keyCode s = codeB s := by unfold keyCode; simp [hs]
  rw [e]
  exact hQ w' (h.below hb)
set_option maxRecDepth 100000 in
set_option maxHeartbeats 4000000 in
theorem l1Row_any (k v : ByteArray) (t m : Int) (w : World) (hk : k.size ≤ 12) (hv : v.size ≤ 12) (h0 : 0 ≤ t) (h3 : t ≤ 3) (hm : w.cell? ⟨0, 0, none⟩ = some (.int .i64 m)) :
    Calls Tryd.prog 55 #[.agg #[.string k, .int .i64 t, .string v]] w fun e w' => e = .returned (.string (rowB k t v)) ∧ Below w.heap.size w w' := by
  have s1 := codeB_size k
  have s2 := codeB_size v
  have ht := tagB_wrap t
  have hS0 : RowS w w.heap.size k t v m (w.alloc (.cells #[.string k, .int .i64 t, .string v] 29)).drew := by
    have l3 := World.block_lt_of_cell? w _ hm
    exact ⟨⟨by simp [go_sem], by simp [go_sem], by simp [go_sem], (((Below.refl w.heap.size w).alloc (Nat.le_refl _) _).drew.cell l3).trans hm⟩, ((Below.refl _ _).alloc (Nat.le_refl _) _).drew⟩
  go_enter Tryd.func55, Tryd.ntmps55
  go_wp2_with fail
  go_region_held (fun w' => (w'.cell? ⟨w.heap.size, 0, none⟩ = some (.string k) ∧ w'.cell? ⟨w.heap.size, 1, none⟩ = some (.int .i64 t) ∧ w'.cell? ⟨w.heap.size, 2, none⟩ = some (.string v) ∧ w'.cell? ⟨0, 0, none⟩ = some (.int .i64 m)) ∧ Below w.heap.size w w') (first | assumption | exact hS0 | exact RowS.alloc_drew (by assumption) _ | exact RowS.alloc (by assumption) _)
    (first
      | (go_at_call 51; refine (l1Code_any _ _ (by omega)).mono ?_; rintro e w' ⟨rfl, rfl⟩)
      | (rw [conv_byte1 _ _ (tagB t) (IntKind.u8.wrap t) ht (by simp [go_sem])]))
  all_goals (go_wp2; go_ret; exact ⟨rfl, And.right (by assumption)⟩)
end Go.Proofs.YtgeepfoknhhcjaaDoor
