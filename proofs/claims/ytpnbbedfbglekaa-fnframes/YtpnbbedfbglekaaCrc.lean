/-
  The check sum of a text (CRC-32), as impl.crcOf and spec.l11Sum reckon it. Condition: the text has at most maxLen bytes.
-/
import Derived.Test.YtpnbbedfbglekaaHash
import Derived.Laws.BitsAllLaws
import Derived.OpenShut
namespace Go.Proofs.Ytpnbbedfbglekaa
open Go.RowKit

/-- One bit of the check sum. -/
def crcBit (c : Int) : Int := if c % 2 = 1 then bits .xor .u32 (c / 2) 3988292384 else c / 2
def crcBits (c : Int) : Nat → Int
  | 0 => c
  | k + 1 => crcBit (crcBits c k)
def crcByte (c : Int) (b : UInt8) : Int := crcBits (bits .xor .u32 c ((b.toNat : Int) % 4294967296)) 8
def crcL (l : List UInt8) : Int := l.foldl crcByte 4294967295
theorem crcL_snoc (l : List UInt8) (b : UInt8) : crcL (l ++ [b]) = crcByte (crcL l) b := by simp [crcL]
theorem u32_bits (op : BinOp) (x y : Int) : 0 ≤ bits op .u32 x y ∧ bits op .u32 x y < 4294967296 := by
  have h := wf_bits op .u32 x y
  simp [Lit.wf, IntKind.min, IntKind.max, IntKind.signed, IntKind.bits] at h
  omega
theorem crcBit_bd {c : Int} (h0 : 0 ≤ c) (h1 : c < 4294967296) : 0 ≤ crcBit c ∧ crcBit c < 4294967296 := by
  unfold crcBit
  split
  · exact u32_bits _ _ _
  · omega
theorem crcBits_bd {c : Int} (h0 : 0 ≤ c) (h1 : c < 4294967296) : ∀ k, 0 ≤ crcBits c k ∧ crcBits c k < 4294967296
  | 0 => ⟨h0, h1⟩
  | k + 1 => by
    obtain ⟨a, b⟩ := crcBits_bd h0 h1 k
    exact crcBit_bd a b
theorem crcByte_bd (c : Int) (b : UInt8) : 0 ≤ crcByte c b ∧ crcByte c b < 4294967296 := by
  obtain ⟨h0, h1⟩ := u32_bits .xor c ((b.toNat : Int) % 4294967296)
  exact crcBits_bd h0 h1 8
theorem crcL_bd (l : List UInt8) : 0 ≤ crcL l ∧ crcL l < 4294967296 := by
  rcases List.eq_nil_or_concat l with rfl | ⟨l, b, rfl⟩
  · simp [crcL]
  · rw [List.concat_eq_append, crcL_snoc]
    exact crcByte_bd _ _
theorem crcL_take (s : ByteArray) (k : Nat) (h : k < s.size) : crcL (s.data.toList.take (k + 1)) = crcBits (bits .xor .u32 (crcL (s.data.toList.take k)) ((s[k].toNat : Int) % 4294967296)) 8 := by
  rw [take_snoc s k h, crcL_snoc]; rfl
/-- How impl.crcOf reckons a bit. -/
theorem crcBit_impl {c : Int} (h0 : 0 ≤ c) (h1 : c < 4294967296) : bits .xor .u32 (c / 2) (3988292384 * bits .and .u32 c 1 % 4294967296) = crcBit c := by
  have e1 : bits .and .u32 c 1 = c % 2 := by
    rw [u32_and c 1 h0 h1 (by decide) (by decide)]
    have : c.toNat &&& (1 : Int).toNat = c.toNat % 2 := nat_mask1 c.toNat
    rw [this]
    omega
  rw [e1]
  unfold crcBit
  rcases (show c % 2 = 0 ∨ c % 2 = 1 by omega) with h | h
  · rw [h, if_neg (by decide), u32_xor (c / 2) _ (by omega) (by omega) (by decide) (by decide)]
    have : (c / 2).toNat ^^^ ((3988292384 : Int) * 0 % 4294967296).toNat = (c / 2).toNat := Nat.xor_zero _
    rw [this]
    omega
  · rw [h, if_pos rfl]; rfl
/-- A literal of bytes, converted. -/
theorem conv_lit (W : World) (g n : Nat) (l : List UInt8) (hn : l.length = n) (h : ∀ j c, l[j]? = some c → W.cell? ⟨g, j, none⟩ = some (.int .u8 (c.toNat : Int))) :
    (convert 41 9 (.slice (some ⟨g, 0, none⟩) n n)).run Try.prog W = .ok (.string ⟨l.toArray⟩) W := by
  subst hn
  exact run_convert_bytes_back (P := Try.prog) W 41 9 5 ⟨g, 0, none⟩ l.length l Try.underlying41 Try.underlying5 Try.underlying9 (fun j hj => by
    have e : (⟨g, 0, none⟩ : Addr).add j = ⟨g, j, none⟩ := by simp [Addr.add]; exact Eq.symm
    rw [e, h j l[j] (List.getElem?_eq_getElem hj)])
def byI (n : Int) : UInt8 := UInt8.ofNat n.toNat
theorem byI_int {n : Int} (h0 : 0 ≤ n) (h1 : n < 256) : ((byI n).toNat : Int) = n := by
  unfold byI
  rw [UInt8.toNat_ofNat']
  omega
theorem conv4 (W : World) (g : Nat) (n0 n1 n2 n3 : Int) (b0 : 0 ≤ n0 ∧ n0 < 256) (b1 : 0 ≤ n1 ∧ n1 < 256) (b2 : 0 ≤ n2 ∧ n2 < 256) (b3 : 0 ≤ n3 ∧ n3 < 256)
    (h0 : W.cell? ⟨g, 0, none⟩ = some (.int .u8 n0)) (h1 : W.cell? ⟨g, 1, none⟩ = some (.int .u8 n1)) (h2 : W.cell? ⟨g, 2, none⟩ = some (.int .u8 n2)) (h3 : W.cell? ⟨g, 3, none⟩ = some (.int .u8 n3)) :
    (convert 41 9 (.slice (some ⟨g, 0, none⟩) 4 4)).run Try.prog W = .ok (.string ⟨#[byI n0, byI n1, byI n2, byI n3]⟩) W :=
  conv_lit W g 4 [byI n0, byI n1, byI n2, byI n3] rfl fun j c hc => by
    match j, hc with
    | 0, hc => injection hc with hc; subst hc; rw [h0, byI_int b0.1 b0.2]
    | 1, hc => injection hc with hc; subst hc; rw [h1, byI_int b1.1 b1.2]
    | 2, hc => injection hc with hc; subst hc; rw [h2, byI_int b2.1 b2.2]
    | 3, hc => injection hc with hc; subst hc; rw [h3, byI_int b3.1 b3.2]
    | j + 4, hc => cases hc
theorem conv8 (W : World) (g : Nat) (n0 n1 n2 n3 n4 n5 n6 n7 : Int) (b0 : 0 ≤ n0 ∧ n0 < 256) (b1 : 0 ≤ n1 ∧ n1 < 256) (b2 : 0 ≤ n2 ∧ n2 < 256) (b3 : 0 ≤ n3 ∧ n3 < 256) (b4 : 0 ≤ n4 ∧ n4 < 256) (b5 : 0 ≤ n5 ∧ n5 < 256) (b6 : 0 ≤ n6 ∧ n6 < 256) (b7 : 0 ≤ n7 ∧ n7 < 256)
    (h0 : W.cell? ⟨g, 0, none⟩ = some (.int .u8 n0)) (h1 : W.cell? ⟨g, 1, none⟩ = some (.int .u8 n1)) (h2 : W.cell? ⟨g, 2, none⟩ = some (.int .u8 n2)) (h3 : W.cell? ⟨g, 3, none⟩ = some (.int .u8 n3))
    (h4 : W.cell? ⟨g, 4, none⟩ = some (.int .u8 n4)) (h5 : W.cell? ⟨g, 5, none⟩ = some (.int .u8 n5)) (h6 : W.cell? ⟨g, 6, none⟩ = some (.int .u8 n6)) (h7 : W.cell? ⟨g, 7, none⟩ = some (.int .u8 n7)) :
    (convert 41 9 (.slice (some ⟨g, 0, none⟩) 8 8)).run Try.prog W = .ok (.string ⟨#[byI n0, byI n1, byI n2, byI n3, byI n4, byI n5, byI n6, byI n7]⟩) W :=
  conv_lit W g 8 [byI n0, byI n1, byI n2, byI n3, byI n4, byI n5, byI n6, byI n7] rfl fun j c hc => by
    match j, hc with
    | 0, hc => injection hc with hc; subst hc; rw [h0, byI_int b0.1 b0.2]
    | 1, hc => injection hc with hc; subst hc; rw [h1, byI_int b1.1 b1.2]
    | 2, hc => injection hc with hc; subst hc; rw [h2, byI_int b2.1 b2.2]
    | 3, hc => injection hc with hc; subst hc; rw [h3, byI_int b3.1 b3.2]
    | 4, hc => injection hc with hc; subst hc; rw [h4, byI_int b4.1 b4.2]
    | 5, hc => injection hc with hc; subst hc; rw [h5, byI_int b5.1 b5.2]
    | 6, hc => injection hc with hc; subst hc; rw [h6, byI_int b6.1 b6.2]
    | 7, hc => injection hc with hc; subst hc; rw [h7, byI_int b7.1 b7.2]
    | j + 8, hc => cases hc
def crcS (s : ByteArray) : Int := bits .xor .u32 IntKind.u32.max (crcL s.data.toList)
/-- Its four bytes, the least first. -/
def crcT (s : ByteArray) : ByteArray := ⟨#[byI (crcS s % 256), byI (crcS s / 256 % 256), byI (crcS s / 65536 % 256), byI (crcS s / 16777216 % 256)]⟩
theorem crcS_bd (s : ByteArray) : 0 ≤ crcS s ∧ crcS s < 4294967296 := u32_bits _ _ _
set_option maxRecDepth 100000 in
set_option maxHeartbeats 400000 in
theorem crcOf_any (s : ByteArray) (w : World) (hs : s.size ≤ maxLen) :
    Calls Try.prog 67 #[.string s] w fun e w' => e = .returned (.int .u32 (crcS s)) ∧ w = w' := by
  unfold maxLen at hs
  go_enter Try.func67, Try.ntmps67
  go_wp2
  go_loop [3, 7] (fun h i => ∃ k : Nat, k ≤ s.size ∧ i = .int .i64 k ∧ h = .int .u32 (crcL (s.data.toList.take k))) (fun _ i => s.size - (intOf i).toNat)
  case atStart => exact ⟨0, Nat.zero_le _, rfl, rfl⟩
  case round =>
    obtain ⟨k, hk, rfl, rfl⟩ := hrel
    have hz := crcL_bd (s.data.toList.take k)
    by_cases hlt : k < s.size
    · have H := Lib.hid (crcL_take s k hlt)
      generalize crcL (s.data.toList.take k) = z at *
      obtain ⟨hz0, hz1⟩ := hz
      have hy := u32_bits .xor z ((s[k].toNat : Int) % 4294967296)
      go_wp2
      generalize bits .xor .u32 z ((s[k].toNat : Int) % 4294967296) = y at *
      obtain ⟨hy0, hy1⟩ := hy
      go_loop [3, 16] (fun h i => ∃ j : Nat, j ≤ 8 ∧ i = .int .i64 j ∧ h = .int .u32 (crcBits y j)) (fun _ i => 8 - (intOf i).toNat)
      case atStart => exact ⟨0, Nat.zero_le _, rfl, rfl⟩
      case round =>
        obtain ⟨j, hj, rfl, rfl⟩ := hrel
        have hx := crcBits_bd hy0 hy1 j
        by_cases hlj : j < 8
        · have H2 : Hid (crcBits y (j + 1) = crcBit (crcBits y j)) := Lib.hid rfl
          generalize crcBits y j = x at *
          obtain ⟨hx0, hx1⟩ := hx
          have E := Lib.hid (crcBit_impl hx0 hx1)
          go_wp2
          go_round
          case rel => exact ⟨j + 1, by omega, by go_num, by rw [H2.out, ← E.out]⟩
          case measure => simp [intOf]; omega
        · obtain rfl : j = 8 := by omega
          go_wp2
          go_round
          case rel => exact ⟨k + 1, by omega, by go_num, by rw [H.out]⟩
          case measure => simp [intOf]; omega
    · have H := Lib.hid (congrArg crcL (take_all s k (by omega)))
      generalize crcL (s.data.toList.take k) = z at *
      go_wp2
      go_ret
      exact ⟨ret_int (by rw [H.out]; rfl), rfl⟩
set_option maxRecDepth 100000 in
set_option maxHeartbeats 400000 in
theorem l11Sum_any (s : ByteArray) (w : World) (hs : s.size ≤ maxLen) :
    Calls Try.prog 66 #[.string s] w fun e w' => e = .returned (.string (crcT s)) ∧ w' = w.alloc (.cells #[.int .u8 (crcS s % 256), .int .u8 (crcS s / 256 % 256), .int .u8 (crcS s / 65536 % 256), .int .u8 (crcS s / 16777216 % 256)] 5) := by
  unfold maxLen at hs
  go_enter Try.func66, Try.ntmps66
  go_wp2
  go_loop [3, 4] (fun h i => ∃ k : Nat, k ≤ s.size ∧ i = .int .i64 k ∧ h = .int .u32 (crcL (s.data.toList.take k))) (fun _ i => s.size - (intOf i).toNat)
  case atStart => exact ⟨0, Nat.zero_le _, rfl, rfl⟩
  case round =>
    obtain ⟨k, hk, rfl, rfl⟩ := hrel
    have hz := crcL_bd (s.data.toList.take k)
    by_cases hlt : k < s.size
    · have H := Lib.hid (crcL_take s k hlt)
      generalize crcL (s.data.toList.take k) = z at *
      obtain ⟨hz0, hz1⟩ := hz
      have hy := u32_bits .xor z ((s[k].toNat : Int) % 4294967296)
      go_wp2
      generalize bits .xor .u32 z ((s[k].toNat : Int) % 4294967296) = y at *
      obtain ⟨hy0, hy1⟩ := hy
      go_loop [3, 5] (fun h i => ∃ j : Nat, j ≤ 8 ∧ i = .int .i64 j ∧ h = .int .u32 (crcBits y j)) (fun _ i => 8 - (intOf i).toNat)
      case atStart => exact ⟨0, Nat.zero_le _, rfl, rfl⟩
      case round =>
        obtain ⟨j, hj, rfl, rfl⟩ := hrel
        have hx := crcBits_bd hy0 hy1 j
        by_cases hlj : j < 8
        · have H2 : Hid (crcBits y (j + 1) = crcBit (crcBits y j)) := Lib.hid rfl
          generalize crcBits y j = x at *
          obtain ⟨hx0, hx1⟩ := hx
          by_cases h2 : x % 2 = 1
          · have E : Hid (crcBit x = bits .xor .u32 (x / 2) 3988292384) := Lib.hid (if_pos h2)
            have d0 : (x % 2 == 1) = true := by rw [h2]; rfl
            go_wp2
            go_round
            case rel => exact ⟨j + 1, by omega, by go_num, by rw [H2.out, E.out]⟩
            case measure => simp [intOf]; omega
          · have E : Hid (crcBit x = x / 2) := Lib.hid (if_neg h2)
            have d0 : (x % 2 == 1) = false := by rw [beq_eq_false_iff_ne]; exact h2
            go_wp2
            go_round
            case rel => exact ⟨j + 1, by omega, by go_num, by rw [H2.out, E.out]⟩
            case measure => simp [intOf]; omega
        · obtain rfl : j = 8 := by omega
          go_wp2
          go_round
          case rel => exact ⟨k + 1, by omega, by go_num, by rw [H.out]⟩
          case measure => simp [intOf]; omega
    · have H := Lib.hid (congrArg crcL (take_all s k (by omega)))
      generalize crcL (s.data.toList.take k) = z at *
      have hy := crcS_bd s
      have HZ : Hid (bits BinOp.xor IntKind.u32 IntKind.u32.max z = crcS s) := Lib.hid (by rw [H.out]; rfl)
      go_wp2
      rw [HZ.out]
      generalize hq : crcS s = q at *
      obtain ⟨hq0, hq1⟩ := hy
      go_wp2_with (rw [conv4 _ _ (q % 256) (q / 256 % 256) (q / 65536 % 256) (q / 16777216 % 256) (by omega) (by omega) (by omega) (by omega) (by simp [go_sem]) (by simp [go_sem]) (by simp [go_sem]) (by simp [go_sem])])
      go_ret
      subst hq
      exact ⟨rfl, rfl⟩
end Go.Proofs.Ytpnbbedfbglekaa
