
/-
  The method unite of impl.bitSet by its contract. Conditions: two sets of 32 bytes.
-/
import Derived.Test.YtpnbbedfbglekaaBitFilter
namespace Go.Proofs.Ytpnbbedfbglekaa
open Go.RowKit
def orBytes (k : Nat) (l m : List UInt8) : List UInt8 := List.zipWith (· ||| ·) (l.take k) (m.take k) ++ l.drop k
theorem or_step (l m : List UInt8) (k : Nat) (c d : UInt8) (hc : l[k]? = some c) (hd : m[k]? = some d) : (orBytes k l m).set k (c ||| d) = orBytes (k + 1) l m := by
  obtain ⟨h1, rfl⟩ := List.getElem?_eq_some_iff.1 hc
  obtain ⟨h2, rfl⟩ := List.getElem?_eq_some_iff.1 hd
  have e : (List.zipWith (· ||| ·) (l.take k) (m.take k)).length = k := by simp; omega
  unfold orBytes
  rw [List.set_append_right _ _ (by omega), e, Nat.sub_self, List.drop_eq_getElem_cons h1, List.set_cons_zero, List.take_succ_eq_append_getElem h1, List.take_succ_eq_append_getElem h2, List.zipWith_append (by simp; omega)]
  simp
set_option maxRecDepth 100000 in
theorem index_bits (m : List UInt8) (k : Nat) (d : UInt8) (hm : m.length = 32) (hd : m[k]? = some d) (W : World) : (Instr.index 125 (.agg (List.map u8v m).toArray) (.int .i64 (k : Int))).run Try.prog W = .ok (.int .u8 (d.toNat : Int)) W := by
  have hk := (List.getElem?_eq_some_iff.1 hd).1
  simp [Instr.index, go_sem, Try.sizeOf5, hd]
  rw [if_pos (by omega)]
  rfl
end Go.Proofs.Ytpnbbedfbglekaa
