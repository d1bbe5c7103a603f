/-
  impl.bitSetOf by its contract: the size and the bytes of a filter, zeros behind them. Conditions: at most 32 bytes.
-/
import Derived.Test.YtpnbbedfbglekaaBitStep
import Derived.StillTailTactics
namespace Go.Proofs.Ytpnbbedfbglekaa
open Go.RowKit
theorem allOne (n : Int) (l : List UInt8) : (bsL n l).toArray.all (·.oneCell') = true := by
  refine all_oneCell_toArray fun v hv => ?_
  rcases List.mem_cons.1 hv with rfl | hv
  · rfl
  · obtain ⟨c, _, rfl⟩ := List.mem_map.1 hv
    rfl
theorem info74l (n : Int) (l : List UInt8) (h : l.length = 32) : (Try.prog.info? 127).map (·.size) = some (bsL n l).toArray.size := by
  rw [info74]; simp [bsL_length, h]
theorem info74k (n : Int) (l : List UInt8) (h : l.length = 32) : (Try.prog.info? 127).map (·.size) = some (bsL n l).length := by
  rw [info74]; simp [bsL_length, h]
theorem wpList_copy_string {P : Program} {ops : Array Oper} {rest : List Oper} {o : Oper} {a : Act} {w : World} {Q : Exit → Act → World → Prop}
    (hg : o.guard = none) (d x : Operand) (dT sT : TypeId) (hop : o.op = Op.call { callee := Callee.builtin Builtin.copy, args := #[d, x], argTypes := #[dT, sT] })
    (elem : TypeId) (hu : P.underlying dT = some (.slice elem)) (hz : ∀ w, (Go.sizeOf elem).run P w = .ok 1 w)
    (b off dLen dCap : Nat) (hd : a.eval d = .slice (some ⟨b, off, none⟩) dLen dCap) (t : ByteArray) (hx : a.eval x = .string t) (hle : t.size ≤ dLen)
    (hc : ∀ j, j < t.size → (w.cell? ⟨b, off + j, none⟩).isSome = true) (hf : ∀ j, j < t.size → w.frozen? ⟨b, off + j, none⟩ = false)
    (h : wpList P ops Q rest (a.put o.dst (goInt t.size)) (w.setCells b off (t.data.toList.map fun x => Value.int .u8 (x.toNat : Int)))) : wpList P ops Q (o :: rest) a w :=
  wpList_plain hg fun K hK => by
    have := step_copy_string (ops := ops) (Q := Q) (E := False) hg d x dT sT hop elem hu hz b off dLen dCap hd t hx hle hc hf (hK _ _ h)
    rwa [if_pos (by simp [Region.wanted, hg])] at this
set_option maxRecDepth 100000 in
theorem bitSetOf_any (n : Int) (b : ByteArray) (w : World) (hb : b.size ≤ 32) :
    Calls Try.prog 97 #[.agg #[.int .i64 n, .string b]] w fun e w' => e = .returned (.agg (bsL n (padL b)).toArray) ∧ Below w.heap.size w w' := by
  go_enter Try.func97, Try.ntmps97
  go_wp2_with (refine wpList_alloc_row rfl 127 rfl _ zero74 ?_; refine stop ?_)
  have hB := bl2 w (.cells #[.int .i64 n, .string b] 66) (.cells (bsL 0 zero32).toArray 127)
  have r := BS.new (w.alloc (.cells #[.int .i64 n, .string b] 66)) 0 zero32 127 rfl
  have x0 : ((w.alloc (.cells #[.int .i64 n, .string b] 66)).alloc (.cells (bsL 0 zero32).toArray 127)).cell? ⟨w.heap.size, 0, none⟩ = some (.int .i64 n) := by simp [go_sem]
  have x1 : ((w.alloc (.cells #[.int .i64 n, .string b] 66)).alloc (.cells (bsL 0 zero32).toArray 127)).cell? ⟨w.heap.size, 1, none⟩ = some (.string b) := by simp [go_sem]
  simp only [World.size_alloc] at r
  generalize (w.alloc (.cells #[.int .i64 n, .string b] 66)).alloc (.cells (bsL 0 zero32).toArray 127) = w1 at *
  refine unstop ?_
  go_wp2_with (refine wpList_build_row rfl 127 _ rfl (.int .i64 n) ?_ _ (build74 n _) (stop ?_))
  · rfl
  have hz1 : w1.heap.size ≥ w.heap.size + 2 := r.2.2.2
  have r2 := BS.new w1 0 zero32 127 rfl
  have hB2 := hB.alloc hB.size (.cells (bsL 0 zero32).toArray 127)
  have hb2 : Below w1.heap.size w1 (w1.alloc (.cells (bsL 0 zero32).toArray 127)) := bl1 _ _
  have r1 := r.below hb2 r.2.2.2
  have y1 := (hb2.cell (p := ⟨w.heap.size, 1, none⟩) (by show w.heap.size < _; omega)).trans x1
  refine unstop ?_
  refine wpList_alloc_row rfl 127 rfl _ zero74 ?_
  generalize w1.heap.size = B at *
  generalize w1.alloc (.cells (bsL 0 zero32).toArray 127) = w2 at *
  clear hb2 r x0 x1 hB
  refine wpList_store_mid rfl 127 _ _ rfl B 0 (bsL n zero32).toArray rfl rfl r2.2.1 (info74l n zero32 rfl) (allOne n zero32) ?_
  have r3 := r2.put_all (n' := n) (l' := zero32) rfl
  have hB3 := below_setCells (B := w.heap.size) (b := B) (by omega) (bsL n zero32).toArray.toList 0 _ hB2
  have hb3 := below_setCells (B := B) (b := B) (Nat.le_refl _) (bsL n zero32).toArray.toList 0 _ (Below.refl B w2)
  replace r1 := r1.below hb3 (by omega)
  have y1' := (hb3.cell (p := ⟨w.heap.size, 1, none⟩) (by show w.heap.size < _; omega)).trans y1
  generalize w2.setCells B 0 (bsL n zero32).toArray.toList = w3 at *
  clear hb3 y1 r2 hB2
  go_wp2_with fail
  refine wp_region_still_tail 4 (by kernel_rfl) (by kernel_rfl) ?_
  simp only [List.take_succ_cons, List.take_zero, List.drop_succ_cons, List.drop_zero]
  change wpStill _ _ w3.drew _ _ _
  repeat still_step
  refine wpStill_nil ?_
  change wpList _ _ _ _ _ w3.drew
  refine wpList_copy_string rfl _ _ _ _ rfl 5 Try.underlying41 Try.sizeOf5 B 1 32 32 rfl b rfl hb (fun j hj => ?_) (fun j hj => ?_) ?_
  · simpa using (r3.2.1 (1 + j) (by omega)).1
  · simpa using (r3.2.1 (1 + j) (by omega)).2
  have r4 : BS w3.drew B n zero32 := r3
  replace r4 := r4.copy b hb
  have hB4 := below_setCells (B := w.heap.size) (b := B) (by omega) (b.data.toList.map fun x => Value.int .u8 (x.toNat : Int)) 1 _ hB3.drew
  have hb4 := below_setCells (B := B) (b := B) (Nat.le_refl _) (b.data.toList.map fun x => Value.int .u8 (x.toNat : Int)) 1 _ (Below.refl B w3).drew
  replace r1 := r1.below hb4 (by omega)
  generalize w3.drew.setCells B 1 (b.data.toList.map fun x => Value.int .u8 (x.toNat : Int)) = w4 at *
  clear hb4 y1' r3 hB3
  have pl := padL_length b hb
  go_wp2_with (refine wpList_load_mid rfl 127 _ rfl B 0 ?_ (bsL n (padL b)) _ r4.1 Try.underlying127 rfl (info74k n _ pl) (stop ?_))
  · rfl
  refine unstop ?_
  refine wpList_store_mid rfl 127 _ _ rfl (w.heap.size + 1) 0 (bsL n (padL b)).toArray rfl rfl (by simpa [bsL_length, pl] using r1.2.1) (info74l n _ pl) (allOne n _) ?_
  have r5 := r1.put_all (n' := n) (l' := padL b) pl
  have hB5 := below_setCells (B := w.heap.size) (b := w.heap.size + 1) (by omega) (bsL n (padL b)).toArray.toList 0 _ hB4
  generalize w4.setCells (w.heap.size + 1) 0 (bsL n (padL b)).toArray.toList = w5 at *
  go_wp2_with fail
  have hld := run_loadVar_mid (P := Try.prog) w5 (w.heap.size + 1) 0 127 (bsL n (padL b)) _ r5.1 Try.underlying127 rfl (info74k n _ pl)
  refine bodyPost_ret (v := .agg (bsL n (padL b)).toArray) ?_ rfl ⟨rfl, hB5⟩
  simp [results, Try.results97, asAddr, hld, Act.put]
end Go.Proofs.Ytpnbbedfbglekaa
