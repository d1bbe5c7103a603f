/-
  A join of sorted lists, key by key: impl.joined walks through the keys of both, and at each it finds what spec.l5Pairs tells of it. No conditions beyond those of each statement.
-/
import Derived.Test.YtgdbpckobngmjaaJoinMath
import Derived.Test.YtgdbpckobngmjaaRowOrd
namespace Go.Proofs.Ytgdbpckobngmjaa
open Go.RowKit
theorem ext_toList {a b : ByteArray} (h : a.toList = b.toList) : a = b := by
  rw [ByteArray.toList_eq, ByteArray.toList_eq] at h
  exact ext_data h
/-- Has the row the key? -/
def isKey (key : ByteArray) (r : RowV) : Bool := r.key.toList == key.toList
theorem isKey_iff {key : ByteArray} {r : RowV} : isKey key r = true ↔ r.key = key := by
  unfold isKey
  rw [beq_iff_eq]
  exact ⟨ext_toList, fun h => by rw [h]⟩
/-- The keys ascend, in the wide sense. -/
def KAsc (l : List RowV) : Prop := l.Pairwise fun a b => Op.bytesLess b.key.toList a.key.toList = false
theorem KAsc.drop {l : List RowV} (h : KAsc l) (k : Nat) : KAsc (l.drop k) := List.Pairwise.sublist (List.drop_sublist k l) h
theorem bl_ge_trans {x y z : List UInt8} (h1 : Op.bytesLess y x = false) (h2 : Op.bytesLess z y = false) : Op.bytesLess z x = false := by
  cases e : Op.bytesLess z x
  · rfl
  · rcases bl_total h1 with rfl | h3
    · rw [h2] at e; cases e
    · have := bl_trans e h3
      rw [h2] at this; cases this
theorem lead_filter {key : ByteArray} : ∀ {l : List RowV}, KAsc l → (∀ r ∈ l, Op.bytesLess r.key.toList key.toList = false) → leadL key l = l.filter (isKey key) ∧ l.drop (leadN key l) = l.filter (fun r => !isKey key r)
  | [], _, _ => ⟨rfl, rfl⟩
  | x :: l, h, hk => by
    obtain ⟨h1, h2⟩ := List.pairwise_cons.1 h
    have ih := lead_filter (key := key) h2 (fun r hr => hk r (List.mem_cons_of_mem _ hr))
    cases e : isKey key x
    · have e1 : leadL key (x :: l) = [] := by
        unfold leadL
        rw [List.takeWhile_cons]
        have : (x.key.toList == key.toList) = false := e
        rw [this]; rfl
      have hx : Op.bytesLess key.toList x.key.toList = true := by
        rcases bl_total (hk x (List.mem_cons_self)) with h3 | h3
        · have : isKey key x = true := by unfold isKey; rw [h3]; simp
          rw [e] at this; cases this
        · exact h3
      have hno : ∀ r ∈ x :: l, isKey key r = false := by
        intro r hr
        cases e2 : isKey key r
        · rfl
        · rw [isKey_iff] at e2
          rcases List.mem_cons.1 hr with rfl | hr
          · rw [isKey_iff.2 e2] at e; cases e
          · have := h1 r hr
            rw [e2, hx] at this; cases this
      constructor
      · rw [e1, List.filter_eq_nil_iff.2 (fun r hr => by rw [hno r hr]; decide)]
      · unfold leadN
        rw [e1, List.filter_eq_self.2 (fun r hr => by rw [hno r hr]; rfl)]
        rfl
    · have e1 : leadL key (x :: l) = x :: leadL key l := by
        unfold leadL
        rw [List.takeWhile_cons]
        have : (x.key.toList == key.toList) = true := e
        rw [this]; rfl
      constructor
      · rw [e1, ih.1, List.filter_cons_of_pos e]
      · unfold leadN
        rw [e1, List.length_cons, List.drop_succ_cons, List.filter_cons_of_neg (by rw [e]; decide)]
        exact ih.2
theorem lead_take {key : ByteArray} (l : List RowV) : l.take (leadN key l) = leadL key l := by
  unfold leadN leadL
  exact (List.prefix_iff_eq_take.1 (List.takeWhile_prefix _)).symm
/-- The values of the rows of a key. -/
def valsK (l : List RowV) (key : ByteArray) : List ByteArray := (l.filter (isKey key)).map RowV.val
/-- What a join tells of a key. -/
def oneK (n : Int) (key : ByteArray) (a b : List ByteArray) : List PairV :=
  (a.flatMap fun x => (if (n = 5 ∧ 0 < b.length) ∨ (n = 6 ∧ b.length = 0) then [⟨key, x, ⟨#[]⟩, true, false⟩] else if b.length = 0 ∧ (n = 2 ∨ n = 4) then [⟨key, x, ⟨#[]⟩, true, false⟩] else []) ++ (if n ≤ 4 then b.map fun y => ⟨key, x, y, true, true⟩ else [])) ++
    (if a.length = 0 ∧ (n = 3 ∨ n = 4) then b.map fun y => ⟨key, ⟨#[]⟩, y, false, true⟩ else [])
theorem sidesL_cons (x : RowV) (l : List RowV) : sidesL (x :: l) = (x :: l).map rowSide := if_neg (by simp)
theorem sidesL_nil : sidesL [] = [⟨⟨#[]⟩, false⟩] := rfl
theorem oneK_eq {n : Int} {k : JK} (hk : kindOf n = some k) (key : ByteArray) (a b : List RowV) :
    (if k.ret (decide (0 < a.length)) (decide (0 < b.length)) = true then pairsOfK k key a b else []) = oneK n key (a.map RowV.val) (b.map RowV.val) := by
  have hn : n = 1 ∧ k = .both false false ∨ n = 2 ∧ k = .both true false ∨ n = 3 ∧ k = .both false true ∨ n = 4 ∧ k = .both true true ∨ n = 5 ∧ k = .keep true ∨ n = 6 ∧ k = .keep false := by
    unfold kindOf at hk
    repeat' split at hk
    all_goals first | (injection hk with hk; subst hk; simp_all; done) | cases hk
  rcases hn with ⟨rfl, rfl⟩ | ⟨rfl, rfl⟩ | ⟨rfl, rfl⟩ | ⟨rfl, rfl⟩ | ⟨rfl, rfl⟩ | ⟨rfl, rfl⟩ <;> cases a <;> cases b <;>
    simp [JK.ret, pairsOfK, oneK, pairsL, sidesL_cons, sidesL_nil, List.flatMap_map, pairOf, rowSide, Function.comp_def]
theorem oneK_eq_len {n : Int} {k : JK} (hk : kindOf n = some k) (key : ByteArray) {a b : List RowV} (ha : leadL key a = a.filter (isKey key)) (hb : leadL key b = b.filter (isKey key)) :
    (if k.ret (decide (0 < leadN key a)) (decide (0 < leadN key b)) = true then pairsOfK k key (a.filter (isKey key)) (b.filter (isKey key)) else []) = oneK n key (valsK a key) (valsK b key) := by
  unfold leadN
  rw [ha, hb]
  exact oneK_eq hk key _ _
theorem firstK_least {key : ByteArray} {a b : List RowV} (ha : KAsc a) (hb : KAsc b) (h1 : ∀ r ∈ a, Op.bytesLess r.key.toList key.toList = false) (h2 : ∀ r ∈ b, Op.bytesLess r.key.toList key.toList = false)
    (hw : (∃ r ∈ a, r.key = key) ∨ ∃ r ∈ b, r.key = key) : firstK a b = key := by
  have hd : ∀ {l : List RowV} {x : RowV}, KAsc (x :: l) → (∀ r ∈ x :: l, Op.bytesLess r.key.toList key.toList = false) → (∃ r ∈ x :: l, r.key = key) → x.key = key := by
    intro l x h hk ⟨r, hr, e⟩
    rcases List.mem_cons.1 hr with rfl | hr
    · exact e
    · have h3 := (List.pairwise_cons.1 h).1 r hr
      rw [e] at h3
      have h4 := hk x (List.mem_cons_self)
      rcases bl_total h3 with h5 | h5
      · exact (ext_toList h5).symm
      · rw [h5] at h4; cases h4
  have nil : ¬ ∃ r ∈ ([] : List RowV), r.key = key := fun ⟨r, hr, _⟩ => by cases hr
  match a, b, ha, hb, h1, h2, hw with
  | [], [], _, _, _, _, hw => exact absurd hw (by rintro (h | h) <;> exact nil h)
  | [], y :: m, _, hb, _, h2, hw => exact hd hb h2 (hw.resolve_left nil)
  | x :: l, [], ha, _, h1, _, hw => exact hd ha h1 (hw.resolve_right nil)
  | x :: l, y :: m, ha, hb, h1, h2, hw =>
    have e : firstK (x :: l) (y :: m) = if Op.bytesLess y.key.toList x.key.toList = true then y.key else x.key := rfl
    rw [e]
    have hx := h1 x (List.mem_cons_self)
    have hy := h2 y (List.mem_cons_self)
    rcases hw with hw | hw
    · have ex := hd ha h1 hw
      rw [if_neg (by rw [ex, hy]; decide), ex]
    · have ey := hd hb h2 hw
      split
      · exact ey
      · rename_i hn
        rw [ey] at hn
        rcases bl_total (x := key.toList) (y := x.key.toList) (by simpa using hn) with h5 | h5
        · exact (ext_toList h5).symm
        · rw [h5] at hx; cases hx
/-- Strictly rising keys. -/
def Rising (l : List ByteArray) : Prop := l.Pairwise fun a b => Op.bytesLess a.toList b.toList = true
/-- The keys are just those of the rows of both lists. -/
def KeysOf (K : List ByteArray) (a b : List RowV) : Prop := ∀ x, x ∈ K ↔ (∃ r ∈ a, r.key = x) ∨ ∃ r ∈ b, r.key = x
theorem flatMap_congr' {α β : Type} {l : List α} {f g : α → List β} (h : ∀ x ∈ l, f x = g x) : l.flatMap f = l.flatMap g := by
  rw [List.flatMap_def, List.flatMap_def, List.map_congr_left h]
theorem valsK_rest {l : List RowV} {k x : ByteArray} (h : x ≠ k) : valsK (l.filter fun r => !isKey k r) x = valsK l x := by
  unfold valsK
  rw [List.filter_filter]
  congr 1
  refine List.filter_congr fun r _ => ?_
  cases e : isKey x r
  · simp
  · have : isKey k r = false := by
      cases e2 : isKey k r
      · rfl
      · rw [isKey_iff] at e e2
        exact absurd (e.symm.trans e2) h
    simp [this]
theorem joinF_keys {n : Int} {k : JK} (hk : kindOf n = some k) : ∀ (K : List ByteArray) (f : Nat) (a b : List RowV), KAsc a → KAsc b → Rising K → KeysOf K a b → a.length + b.length ≤ f →
    joinF k f a b = K.flatMap fun key => oneK n key (valsK a key) (valsK b key)
  | [], f, a, b, _, _, _, hm, _ => by
    have ha : a = [] := List.eq_nil_iff_forall_not_mem.2 fun r hr => by have := (hm r.key).2 (.inl ⟨r, hr, rfl⟩); cases this
    have hb : b = [] := List.eq_nil_iff_forall_not_mem.2 fun r hr => by have := (hm r.key).2 (.inr ⟨r, hr, rfl⟩); cases this
    subst ha hb
    exact joinF_none k f rfl
  | x :: K, f, a, b, ha, hb, hK, hm, hf => by
    obtain ⟨k1, k2⟩ := List.pairwise_cons.1 hK
    have hge : ∀ y ∈ x :: K, Op.bytesLess y.toList x.toList = false := by
      intro y hy
      rcases List.mem_cons.1 hy with rfl | hy
      · exact bl_irrefl _
      · exact bl_asymm (k1 y hy)
    have h1 : ∀ r ∈ a, Op.bytesLess r.key.toList x.toList = false := fun r hr => hge _ ((hm r.key).2 (.inl ⟨r, hr, rfl⟩))
    have h2 : ∀ r ∈ b, Op.bytesLess r.key.toList x.toList = false := fun r hr => hge _ ((hm r.key).2 (.inr ⟨r, hr, rfl⟩))
    have hw := (hm x).1 (List.mem_cons_self)
    have e := firstK_least ha hb h1 h2 hw
    have hne : a.length + b.length ≠ 0 := by
      rcases hw with ⟨r, hr, _⟩ | ⟨r, hr, _⟩
      · have := List.length_pos_of_mem hr; omega
      · have := List.length_pos_of_mem hr; omega
    have hless := join_less hne
    obtain ⟨f, rfl⟩ : ∃ g, f = g + 1 := ⟨f - 1, by omega⟩
    obtain ⟨la, da⟩ := lead_filter ha h1
    obtain ⟨lb, db⟩ := lead_filter hb h2
    rw [joinF_next k f hne, List.flatMap_cons]
    have es : joinStep k a b = oneK n x (valsK a x) (valsK b x) := by
      unfold joinStep
      rw [e, lead_take, lead_take, la, lb, oneK_eq_len hk x la lb]
    rw [es]
    congr 1
    have hxK : x ∉ K := fun h => by have := k1 x h; rw [bl_irrefl] at this; cases this
    have hmem : ∀ (l : List RowV) (y : ByteArray), (∃ r ∈ l.filter (fun r => !isKey x r), r.key = y) ↔ (∃ r ∈ l, r.key = y) ∧ y ≠ x := by
      intro l y
      constructor
      · rintro ⟨r, hr, rfl⟩
        rw [List.mem_filter] at hr
        refine ⟨⟨r, hr.1, rfl⟩, fun e => ?_⟩
        rw [isKey_iff.2 e] at hr
        simp at hr
      · rintro ⟨⟨r, hr, rfl⟩, hne⟩
        refine ⟨r, List.mem_filter.2 ⟨hr, ?_⟩, rfl⟩
        cases e : isKey x r
        · rfl
        · exact absurd (isKey_iff.1 e) hne
    rw [e] at hless ⊢
    rw [joinF_keys hk K f _ _ (ha.drop _) (hb.drop _) k2 ?_ (by omega), da, db]
    · refine flatMap_congr' fun y hy => ?_
      have : y ≠ x := fun e => hxK (e ▸ hy)
      rw [valsK_rest this, valsK_rest this]
    · intro y
      rw [da, db, hmem, hmem]
      constructor
      · intro hy
        have hne : y ≠ x := fun e => hxK (e ▸ hy)
        rcases (hm y).1 (List.mem_cons_of_mem _ hy) with h | h
        · exact .inl ⟨h, hne⟩
        · exact .inr ⟨h, hne⟩
      · intro h
        have h' : y ∈ x :: K ∧ y ≠ x := by
          rcases h with ⟨h, hne⟩ | ⟨h, hne⟩
          · exact ⟨(hm y).2 (.inl h), hne⟩
          · exact ⟨(hm y).2 (.inr h), hne⟩
        exact (List.mem_cons.1 h'.1).resolve_left h'.2
/-- The keys of rows, each once if they ascend. -/
def addKy (out : List ByteArray) (k : ByteArray) : List ByteArray := if out.getLast? = some k then out else out ++ [k]
def keysOf (l : List RowV) : List ByteArray := l.foldl (fun out r => addKy out r.key) []
theorem keysOf_snoc (l : List RowV) (r : RowV) : keysOf (l ++ [r]) = addKy (keysOf l) r.key := by simp [keysOf]
theorem keysOf_le : ∀ l : List RowV, (keysOf l).length ≤ l.length := by
  intro l
  rcases List.eq_nil_or_concat l with rfl | ⟨l, r, rfl⟩
  · simp [keysOf]
  · have := keysOf_le l
    rw [List.concat_eq_append, keysOf_snoc]
    unfold addKy
    split
    · simp; omega
    · simp; omega
termination_by l => l.length
decreasing_by simp_all
theorem keysOf_mem : ∀ (l : List RowV) (x : ByteArray), x ∈ keysOf l ↔ ∃ r ∈ l, r.key = x := by
  intro l x
  rcases List.eq_nil_or_concat l with rfl | ⟨l, r, rfl⟩
  · simp [keysOf]
  · have ih := keysOf_mem l x
    rw [List.concat_eq_append, keysOf_snoc]
    have e : (∃ q ∈ l ++ [r], q.key = x) ↔ (∃ q ∈ l, q.key = x) ∨ r.key = x := by
      constructor
      · rintro ⟨q, hq, h⟩
        rcases List.mem_append.1 hq with hq | hq
        · exact .inl ⟨q, hq, h⟩
        · rw [List.mem_singleton] at hq; subst hq; exact .inr h
      · rintro (⟨q, hq, h⟩ | h)
        · exact ⟨q, List.mem_append_left _ hq, h⟩
        · exact ⟨r, by simp, h⟩
    rw [e, ← ih]
    unfold addKy
    split
    · rename_i hl
      constructor
      · exact .inl
      · rintro (h | rfl)
        · exact h
        · exact List.mem_of_getLast? hl
    · rw [List.mem_append, List.mem_singleton]
      exact ⟨fun h => h.imp_right Eq.symm, fun h => h.imp_right Eq.symm⟩
termination_by l => l.length
decreasing_by simp_all
theorem keysOf_rising : ∀ {l : List RowV}, KAsc l → Rising (keysOf l) := by
  intro l h
  rcases List.eq_nil_or_concat l with rfl | ⟨l, r, rfl⟩
  · exact List.Pairwise.nil
  · rw [List.concat_eq_append] at h ⊢
    obtain ⟨h1, _, h3⟩ := List.pairwise_append.1 h
    have ih := keysOf_rising h1
    rw [keysOf_snoc]
    unfold addKy
    split
    · exact ih
    · rename_i hl
      refine List.pairwise_append.2 ⟨ih, List.pairwise_singleton _ _, fun x hx y hy => ?_⟩
      rw [List.mem_singleton] at hy
      subst hy
      obtain ⟨q, hq, rfl⟩ := (keysOf_mem l x).1 hx
      have hqr := h3 q hq r (by simp)
      rcases bl_total hqr with h5 | h5
      · exfalso
        -- the last key is that of the row, which comes last
        obtain ⟨z, hz⟩ : ∃ z, (keysOf l).getLast? = some z := by
          cases e : (keysOf l).getLast?
          · rw [List.getLast?_eq_none_iff] at e
            rw [e] at hx; cases hx
          · exact ⟨_, rfl⟩
        have hzm := List.mem_of_getLast? hz
        obtain ⟨p, hp, rfl⟩ := (keysOf_mem l z).1 hzm
        have hpr := h3 p hp r (by simp)
        have hqk : q.key = r.key := (ext_toList h5).symm
        have hle : Op.bytesLess p.key.toList q.key.toList = false := by
          obtain ⟨ys, hys⟩ := List.getLast?_eq_some_iff.1 hz
          rw [hys] at ih hx
          rcases List.mem_append.1 hx with hx | hx
          · exact bl_asymm ((List.pairwise_append.1 ih).2.2 _ hx _ (by simp))
          · rw [List.mem_singleton] at hx; rw [hx]; exact bl_irrefl _
        rw [hqk] at hle
        rcases bl_total hle with h6 | h6
        · apply hl; rw [hz, ext_toList h6]
        · rw [h6] at hpr; cases hpr
      · exact h5
termination_by l => l.length
decreasing_by simp_all
theorem joinF_sorted {n : Int} {k : JK} (hk : kindOf n = some k) {a b s : List RowV} (ha : KAsc a) (hb : KAsc b) (hs : KAsc s) (hm : ∀ r, r ∈ s ↔ r ∈ a ∨ r ∈ b) :
    joinF k (a.length + b.length) a b = (keysOf s).flatMap fun key => oneK n key (valsK a key) (valsK b key) := by
  refine joinF_keys hk _ _ _ _ ha hb (keysOf_rising hs) (fun x => ?_) (Nat.le_refl _)
  rw [keysOf_mem]
  constructor
  · rintro ⟨r, hr, e⟩
    rcases (hm r).1 hr with h | h
    · exact .inl ⟨r, h, e⟩
    · exact .inr ⟨r, h, e⟩
  · rintro (⟨r, hr, e⟩ | ⟨r, hr, e⟩)
    · exact ⟨r, (hm r).2 (.inl hr), e⟩
    · exact ⟨r, (hm r).2 (.inr hr), e⟩
theorem asc_keys {l : List RowV} (h : Asc RowV.less l) : KAsc l := by
  refine List.Pairwise.imp (fun {a b} hab => ?_) h
  have hab : b.less a = false := hab
  cases e : Op.bytesLess b.key.toList a.key.toList
  · rfl
  · exfalso
    unfold RowV.less lessB at hab
    rw [if_pos (by
      rw [Bool.not_eq_true', beq_eq_false_iff_ne]
      intro h
      rw [h, bl_irrefl] at e
      cases e)] at hab
    rw [hab] at e; cases e
/-- What spec.l5Join tells. -/
def l5J (n : Int) (a b : List RowV) : List PairV := (keysOf (sortL (a ++ b))).flatMap fun key => oneK n key (valsK (sortL a) key) (valsK (sortL b) key)
theorem joinL_l5J {n : Int} {k : JK} (hk : kindOf n = some k) (a b : List RowV) : joinL k (sortL a) (sortL b) = l5J n a b := by
  unfold joinL l5J
  refine joinF_sorted hk (asc_keys (sortL_asc a)) (asc_keys (sortL_asc b)) (asc_keys (sortL_asc _)) fun r => ?_
  rw [(sortL_perm' (a ++ b)).mem_iff, List.mem_append, (sortL_perm' a).mem_iff, (sortL_perm' b).mem_iff]
end Go.Proofs.Ytgdbpckobngmjaa
