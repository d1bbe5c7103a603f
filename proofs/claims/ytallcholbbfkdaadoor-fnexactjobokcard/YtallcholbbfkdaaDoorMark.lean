/-
  laws.markText by its contract: the letter m and a number in decimal. Condition: the number is in 1..4294967296.
-/
import Derived.Test.YtallcholbbfkdaaDoorRowsMem
import Derived.Laws.IdiomStrings
import Derived.Deep.RegionHeld3
namespace Go.Proofs.YtallcholbbfkdaaDoor
open Go.RowKit

/-- A slice of one byte, turned into a string. -/
theorem conv_byte (W : World) (g : Nat) (c : UInt8) (n : Int) (hn : (c.toNat : Int) = n) (h : W.cell? ⟨g, 0, none⟩ = some (.int .u8 n)) :
    (convert 34 9 (.slice (some ⟨g, 0, none⟩) 1 1)).run Tryd.prog W = .ok (.string ⟨#[c]⟩) W :=
  run_convert_bytes_back (P := Tryd.prog) W 34 9 5 ⟨g, 0, none⟩ 1 [c] Tryd.underlying34 Tryd.underlying5 Tryd.underlying9 (fun j hj => by
    obtain rfl : j = 0 := by simpa using hj
    rw [show (⟨g, 0, none⟩ : Addr).add 0 = ⟨g, 0, none⟩ from rfl, h]
    exact congrArg (fun n => some (Value.int .u8 n)) hn.symm)
def digB (j : Nat) : UInt8 := UInt8.ofNat (48 + j % 10)
theorem digB_nat (j : Nat) : ((digB j).toNat : Int) = 48 + (j : Int) % 10 := by
  unfold digB
  rw [UInt8.toNat_ofNat']
  omega
def digs (n : Nat) (acc : List UInt8) : List UInt8 := if n = 0 then acc else digs (n / 10) (digB n :: acc)
termination_by n
decreasing_by omega
theorem digs_zero (acc : List UInt8) : digs 0 acc = acc := by rw [digs]; simp
theorem digs_pos {n : Nat} (h : 0 < n) (acc : List UInt8) : digs n acc = digs (n / 10) (digB n :: acc) := by rw [digs]; rw [if_neg (by omega)]
/-- What markText returns. -/
def markB (n : Nat) : ByteArray := ⟨(109 :: digs n []).toArray⟩
theorem mk_app (a b : List UInt8) : (⟨a.toArray⟩ : ByteArray) ++ (⟨b.toArray⟩ : ByteArray) = ⟨(a ++ b).toArray⟩ := by
  apply ByteArray.ext
  rw [ByteArray.data_append]
  simp
theorem size_mk' (l : List UInt8) : (⟨l.toArray⟩ : ByteArray).size = l.length := by simp [ByteArray.size]
theorem vstr {a b : ByteArray} (h : a = b) : Value.string a = .string b := by rw [h]
set_option maxRecDepth 100000 in
set_option maxHeartbeats 400000 in
theorem markText_any (n : Nat) (w : World) (h1 : 1 ≤ n) (hn : n ≤ 4294967296) :
    Calls Tryd.prog 45 #[.int .i64 n] w fun e w' => e = .returned (.string (markB n)) ∧ Below w.heap.size w w' := by
  have hd0 : decide (n = 0) = false := by simp; omega
  go_enter Tryd.func45, Tryd.ntmps45
  go_wp2
  go_loopw [0, 3] (fun k o wr => ∃ (j : Nat) (l : List UInt8), k = .int .i64 j ∧ o = .string ⟨l.toArray⟩ ∧ l.length + j ≤ n ∧ Below w.heap.size w wr ∧ Hid (digs j l = digs n [])) (fun k _ _ => (intOf k).toNat)
  case atStart => exact ⟨n, [], rfl, rfl, by simp, Below.refl _ _, Lib.hid rfl⟩
  case round =>
    obtain ⟨j, l, rfl, rfl, hl, hb, Hd⟩ := hrel
    by_cases hj : 0 < j
    · have H1 := Lib.hid ((digs_pos hj l).symm.trans Hd.out)
      have hcv := conv_byte (wr.alloc (.cells #[.int .u8 (48 + (j : Int) % 10)] 5)) wr.heap.size (digB j) (48 + (j : Int) % 10) (digB_nat j) (by simp [go_sem])
      go_wp2
      go_roundw
      case rel => exact ⟨j / 10, digB j :: l, by go_num, vstr (mk_app [digB j] l), by simp; omega, hb.alloc hb.size _, H1⟩
      case measure => simp [intOf]; omega
    · obtain rfl : j = 0 := by omega
      have H1 := Lib.hid ((digs_zero l).symm.trans Hd.out)
      go_wp2
      go_ret
      exact ⟨ret_str (by unfold markB; rw [← H1.out]; exact mk_app [109] l), hb⟩
end Go.Proofs.YtallcholbbfkdaaDoor
