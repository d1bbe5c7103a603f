/-
  laws.FnRowLong returns true for every code. Condition: the variable internal/bytealg.MaxLen holds some int.
-/
import Derived.Test.YtgeepfoknhhcjaaDoorKeyPieces
import Derived.Test.YtgeepfoknhhcjaaDoorDrawRB
namespace Go.Proofs.YtgeepfoknhhcjaaDoor
open Go.RowKit

theorem rowB_len (k : ByteArray) (t : Int) (v : ByteArray) : (rowB k t v).size = 5 + (escs (k ++ v).data.toList).length := by
  unfold rowB
  rw [ByteArray.size_append, ByteArray.size_append, codeB_len, codeB_len, ByteArray.data_append, Array.toList_append, escs_append, List.length_append]
  show _ + 1 + _ = _
  omega
theorem rowB_ne (k : ByteArray) (t : Int) (v : ByteArray) : (rowB k t v).toList.isEmpty = false := by
  have h := rowB_len k t v
  rw [ByteArray.toList_eq]
  cases e : (rowB k t v).data.toList with
  | nil =>
    have : (rowB k t v).data.toList.length = 0 := by rw [e]; rfl
    rw [data_toList_size] at this
    omega
  | cons a l => rfl
theorem escs_take_succ {s : ByteArray} {k : Nat} (h : k < s.size) : (escs (s.data.toList.take (k + 1))).length = (escs (s.data.toList.take k)).length + (esc s[k]).length := by
  rw [take_snoc' s k h, escs_snoc, List.length_append]
theorem rowBytes_bd (k : ByteArray) (t : Int) (v : ByteArray) : (rowBytes k t v).size ≤ 100 := by
  unfold rowBytes
  split
  · rename_i h
    obtain ⟨h1, h2, _, _⟩ := okB_parts h
    unfold rowB
    have a := codeB_size k
    have b := codeB_size v
    rw [ByteArray.size_append, ByteArray.size_append]
    show _ + 1 + _ ≤ _
    omega
  · decide
set_option maxRecDepth 100000 in
set_option maxHeartbeats 4000000 in
theorem walk_RowLong (a : Option Addr) (len cap : Nat) (xs : List Value) (w : World) (hI : IsCode w a len cap xs) (m : Int) (hm : w.cell? ⟨0, 0, none⟩ = some (.int .i64 m)) :
    Calls Tryd.prog 9 #[.slice a len cap] w fun e w' => e = .returned (.bool true) ∧ Below w.heap.size w w' := by
  have hI0 := hI.by_
  obtain ⟨hlc, hcm, _, _⟩ := hI
  go_enter Tryd.func9, Tryd.ntmps9
  go_wp2_with fail
  refine (big_any a len cap w (by omega)).mono ?_
  rintro e w0 ⟨rfl, rfl⟩
  by_cases hbig : 1048576 < len
  · have hd : decide (1048576 < len) = true := by simpa using hbig
    rw [hd]
    go_wp2_with fail
    go_ret
    exact ⟨rfl, Below.refl _ _⟩
  have hd : decide (1048576 < len) = false := by simpa using hbig
  rw [hd]
  go_wp2_with fail
  refine (drawRowBytes_any a len cap w (by omega) hI0).mono ?_
  rintro e w1 ⟨r, hr, rfl, B⟩
  replace hm := hold_max hm B
  have hb1 := bl1 w1 (.cells #[.string r.key, .int .i64 r.tag, .string r.val] 29)
  have X := Vb.new w1 r 29
  replace hm := hold_max hm hb1
  replace B := B.trans (hb1.mono B.size)
  obtain ⟨⟨hrk, _, hrv⟩, hk14, hv14⟩ := hr
  obtain ⟨k, t, v⟩ := r
  simp only at hrk hrv hk14 hv14 X
  have ⟨x0, x1, x2⟩ := X.cells
  simp only at x0 x1 x2
  clear hI0 hd hb1
  go_wp2_with fail
  generalize w1.alloc (.cells #[.string k, .int .i64 t, .string v] 29) = w2 at *
  generalize w1.heap.size = A at *
  refine (implRowBytes_any k v t m _ hrk hrv hm).mono ?_
  rintro e w3 ⟨rfl, hb⟩
  replace hm := hold_max hm hb
  replace B := B.trans (hb.mono B.size)
  replace X := X.keep hb
  clear hb x0 x1 x2
  have ⟨x0, x1, x2⟩ := X.cells
  simp only at x0 x1 x2
  have hbd := rowBytes_bd k t v
  go_wp2_with fail
  refine (specRowBytes_any k v t m _ hrk hrv hm).mono ?_
  rintro e w4 ⟨rfl, hb⟩
  replace hm := hold_max hm hb
  replace B := B.trans (hb.mono B.size)
  replace X := X.keep hb
  clear hb x0 x1 x2
  have ⟨x0, x1, x2⟩ := X.cells
  simp only at x0 x1 x2
  have CS := Lib.hid (fun w hm => specRowBytes_any k v t m w hrk hrv hm)
  cases hok : okB k t v
  · have E := Lib.hid (show rowBytes k t v = ⟨#[]⟩ from if_neg (by rw [hok]; exact Bool.false_ne_true))
    rw [E.out] at CS ⊢
    clear hok E hbd
    go_wp2_with fail
    refine (CS.out _ hm).mono ?_
    rintro e w5 ⟨rfl, hb⟩
    replace B := B.trans (hb.mono B.size)
    go_wp2_with fail
    go_ret
    exact ⟨rfl, B⟩
  have E := Lib.hid (show rowBytes k t v = rowB k t v from if_pos hok)
  rw [E.out] at hbd ⊢
  have hne := rowB_ne k t v
  have HL := Lib.hid (rowB_len k t v)
  clear CS E hok
  generalize rowB k t v = s at *
  have hkv : (k ++ v).size = k.size + v.size := ByteArray.size_append
  have n1 : ¬ 9223372036854775807 < k.size + v.size := by omega
  go_wp2_with fail
  generalize k ++ v = u at *
  go_loop [5, 7] (fun n i => ∃ q c : Nat, q ≤ u.size ∧ i = .int .i64 q ∧ n = .int .i64 c ∧ c ≤ 5 + 2 * q ∧ Hid (c = 5 + (escs (u.data.toList.take q)).length)) (fun _ i => u.size - (intOf i).toNat)
  case atStart => exact ⟨0, 5, Nat.zero_le _, rfl, rfl, by omega, Lib.hid (by simp [escs])⟩
  case round =>
    obtain ⟨q, c, hq, rfl, rfl, hc, Hc⟩ := hrel
    by_cases hlt : q < u.size
    · by_cases h0 : u[q] = 0
      · have hd : ((u[q].toNat : Int) == 0) = true := by rw [h0]; rfl
        have H1 := Lib.hid (show c + 2 = 5 + (escs (u.data.toList.take (q + 1))).length by rw [escs_take_succ hlt, h0, esc_zero, Hc.out]; rfl)
        clear h0
        go_wp2
        go_round
        case rel => exact ⟨q + 1, c + 2, by omega, by go_num, by go_num, by omega, H1⟩
        case measure => simp [intOf]; omega
      · have hd : ((u[q].toNat : Int) == 0) = false := by
          rw [beq_eq_false_iff_ne]
          intro e
          apply h0
          apply UInt8.toNat_inj.1
          simpa using e
        have H1 := Lib.hid (show c + 1 = 5 + (escs (u.data.toList.take (q + 1))).length by rw [escs_take_succ hlt, esc_one h0, Hc.out]; rfl)
        clear h0
        go_wp2
        go_round
        case rel => exact ⟨q + 1, c + 1, by omega, by go_num, by go_num, by omega, H1⟩
        case measure => simp [intOf]; omega
    · have H1 : c = s.size := by rw [HL.out, Hc.out, List.take_of_length_le (by simp; omega)]
      subst H1
      go_wp2
      go_ret
      exact ⟨rfl, B⟩
end Go.Proofs.YtgeepfoknhhcjaaDoor
