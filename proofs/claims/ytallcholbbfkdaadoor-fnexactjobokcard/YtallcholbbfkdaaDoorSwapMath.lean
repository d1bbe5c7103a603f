/-
  Lists in which elements are exchanged: two neighbours, two ranges; and the cells of rows that are exchanged. No conditions.
-/
import Derived.Test.YtallcholbbfkdaaDoorRowOrd
namespace Go.Proofs.YtallcholbbfkdaaDoor

section
variable {α : Type}
theorem set_at {Q S : List α} {k : Nat} (x y : α) (hk : Q.length = k) : (Q ++ x :: S).set k y = Q ++ y :: S := by
  subst hk
  rw [List.set_append_right _ _ (Nat.le_refl _), Nat.sub_self]; rfl
theorem get_at {Q S : List α} {k : Nat} (x : α) (hk : Q.length = k) : (Q ++ x :: S)[k]? = some x := by
  subst hk
  rw [List.getElem?_append_right (Nat.le_refl _), Nat.sub_self]; rfl
theorem set_at1 {Q S : List α} {k : Nat} (x y z : α) (hk : Q.length = k) : (Q ++ x :: y :: S).set (k + 1) z = Q ++ x :: z :: S := by
  have := set_at (Q := Q ++ [x]) (S := S) (k := k + 1) y z (by simp [hk])
  simpa using this
theorem get_at1 {Q S : List α} {k : Nat} (x y : α) (hk : Q.length = k) : (Q ++ x :: y :: S)[k + 1]? = some y := by
  have := get_at (Q := Q ++ [x]) (S := S) (k := k + 1) y (by simp [hk])
  simpa using this
/-- Two neighbours are exchanged, in either order of the stores. -/
theorem swap_up {Q S : List α} {k : Nat} (x y : α) (hk : Q.length = k) : ((Q ++ x :: y :: S).set k y).set (k + 1) x = Q ++ y :: x :: S := by
  rw [set_at x y hk, set_at1 y y x hk]
theorem swap_down {Q S : List α} {k : Nat} (x y : α) (hk : Q.length = k) : ((Q ++ x :: y :: S).set (k + 1) x).set k y = Q ++ y :: x :: S := by
  rw [set_at1 x y x hk, set_at x y hk]
/-- One element is moved behind the next of a list. -/
theorem move_up {P B S : List α} {q : Nat} {x y : α} (hy : B[q]? = some y) : P ++ (B.take q ++ x :: B.drop q) ++ S = (P ++ B.take q) ++ x :: y :: (B.drop (q + 1) ++ S) ∧ P ++ (B.take (q + 1) ++ x :: B.drop (q + 1)) ++ S = (P ++ B.take q) ++ y :: x :: (B.drop (q + 1) ++ S) := by
  obtain ⟨hq, e⟩ := List.getElem?_eq_some_iff.1 hy
  constructor
  · rw [List.drop_eq_getElem_cons hq, e]; simp
  · rw [List.take_succ_eq_append_getElem hq, e]; simp
/-- Of two lists of one length: the first i of the one, then the rest of the other. -/
def part2 (A B : List α) (i : Nat) : List α := A.take i ++ B.drop i
theorem part2_zero (A B : List α) : part2 A B 0 = B := by simp [part2]
theorem part2_all {A B : List α} {n : Nat} (hA : A.length = n) (hB : B.length = n) : part2 A B n = A := by simp [part2, List.take_of_length_le (Nat.le_of_eq hA), List.drop_eq_nil_of_le (Nat.le_of_eq hB)]
theorem part2_length {A B : List α} {n i : Nat} (hA : A.length = n) (hB : B.length = n) (hi : i ≤ n) : (part2 A B i).length = n := by simp [part2]; omega
theorem part2_set {A B P S : List α} {n i a : Nat} {y : α} (hA : A.length = n) (hB : B.length = n) (hi : i < n) (hy : A[i]? = some y) (hP : P.length = a) : (P ++ part2 A B i ++ S).set (a + i) y = P ++ part2 A B (i + 1) ++ S := by
  obtain ⟨hq, e⟩ := List.getElem?_eq_some_iff.1 hy
  have h1 : P ++ part2 A B i ++ S = (P ++ A.take i) ++ B[i] :: (B.drop (i + 1) ++ S) := by
    unfold part2; rw [List.drop_eq_getElem_cons (show i < B.length by omega)]; simp only [List.append_assoc, List.cons_append]
  have h2 : P ++ part2 A B (i + 1) ++ S = (P ++ A.take i) ++ y :: (B.drop (i + 1) ++ S) := by
    unfold part2; rw [List.take_succ_eq_append_getElem hq, e]; simp
  rw [h1, h2, set_at _ _ (by simp; omega)]
theorem part2_get {A B P S : List α} {n i a : Nat} {x : α} (hA : A.length = n) (hi : i < n) (hx : B[i]? = some x) (hP : P.length = a) : (P ++ part2 A B i ++ S)[a + i]? = some x := by
  obtain ⟨hq, e⟩ := List.getElem?_eq_some_iff.1 hx
  have h1 : P ++ part2 A B i ++ S = (P ++ A.take i) ++ x :: (B.drop (i + 1) ++ S) := by
    unfold part2; rw [List.drop_eq_getElem_cons hq, e]; simp
  rw [h1, get_at _ (by simp; omega)]
/-- What lies while two ranges of one length are exchanged. -/
def swapped (P X M Y S : List α) (i : Nat) : List α := P ++ part2 Y X i ++ (M ++ (part2 X Y i ++ S))
theorem swapped_step {P X M Y S : List α} {n a b i : Nat} {x y : α} (hX : X.length = n) (hY : Y.length = n) (ha : P.length = a) (hb : a + n + M.length = b) (hi : i < n) (hx : X[i]? = some x) (hy : Y[i]? = some y) :
    (swapped P X M Y S i)[a + i]? = some x ∧ (swapped P X M Y S i)[b + i]? = some y ∧ ((swapped P X M Y S i).set (a + i) y).set (b + i) x = swapped P X M Y S (i + 1) := by
  have e : ∀ j, P ++ part2 Y X j ++ (M ++ (part2 X Y i ++ S)) = (P ++ part2 Y X j ++ M) ++ part2 X Y i ++ S := fun j => by simp
  have e' : swapped P X M Y S (i + 1) = (P ++ part2 Y X (i + 1) ++ M) ++ part2 X Y (i + 1) ++ S := by simp [swapped]
  have hl : ∀ j, j ≤ n → (P ++ part2 Y X j ++ M).length = b := fun j hj => by
    rw [List.length_append, List.length_append, part2_length hY hX hj]; omega
  refine ⟨?_, ?_, ?_⟩
  · exact part2_get hY hi hx ha
  · unfold swapped
    rw [e i]
    exact part2_get hX hi hy (hl i (by omega))
  · rw [e']
    unfold swapped
    rw [part2_set hY hX hi hy ha, e (i + 1)]
    exact part2_set hX hY hi hx (hl (i + 1) (by omega))
theorem swapped_zero (P X M Y S : List α) : swapped P X M Y S 0 = P ++ X ++ (M ++ (Y ++ S)) := by simp [swapped, part2_zero]
theorem swapped_all {P X M Y S : List α} {n : Nat} (hX : X.length = n) (hY : Y.length = n) : swapped P X M Y S n = P ++ Y ++ (M ++ (X ++ S)) := by simp [swapped, part2_all hX hY, part2_all hY hX]
end

/-- A row that is written into rows. -/
theorem flat_put {d : List RowV} {k : Nat} (r : RowV) (hk : k < d.length) : (((flat d).set (k * 3) (.string r.key)).set (k * 3 + 1) (.int .i64 r.tag)).set (k * 3 + 2) (.string r.val) = flat (d.set k r) := by
  have h1 : d = d.take k ++ d[k] :: d.drop (k + 1) := by rw [← List.drop_eq_getElem_cons hk, List.take_append_drop]
  generalize d[k] = z at h1
  have hl : (d.take k).length = k := by simp; omega
  have hf : (flat (d.take k)).length = k * 3 := by rw [flat_length, hl]
  rw [h1]
  generalize d.take k = P at *
  generalize d.drop (k + 1) = S at *
  rw [set_at _ _ hl, flat_append, flat_append, flat_cons, flat_cons]
  rw [set_at _ _ hf, set_at1 _ _ _ hf]
  have := set_at1 (Q := flat P ++ [.string r.key]) (S := flat S) (k := k * 3 + 1) (.int .i64 r.tag) (.string z.val) (.string r.val) (by simp [hf])
  simpa using this
end Go.Proofs.YtallcholbbfkdaaDoor
