/- Which series say what, plain: numbers that rise, what is sifted out of two rows of them, what an index is asked. No program in it. -/
import Derived.Test.YtdmnlmohfaafoacGreatDoorLbNum
namespace Go.Proofs.YtdmnlmohfaafoacGreatDoor
namespace IX
open LB

/-- Numbers that rise. -/
abbrev Rise (A : List Int) : Prop := A.Pairwise (· < ·)

theorem rise_ext : ∀ {A B : List Int}, Rise A → Rise B → (∀ x, x ∈ A ↔ x ∈ B) → A = B
  | [], [], _, _, _ => rfl
  | [], b :: B, _, _, h => by have := (h b).2 (by simp); simp at this
  | a :: A, [], _, _, h => by have := (h a).1 (by simp); simp at this
  | a :: A, b :: B, hA, hB, h => by
    rw [Rise, List.pairwise_cons] at hA hB
    have hab : a = b := by
      have h1 := (h a).1 (by simp)
      have h2 := (h b).2 (by simp)
      rw [List.mem_cons] at h1 h2
      rcases h1 with h1 | h1
      · exact h1
      · rcases h2 with h2 | h2
        · exact h2.symm
        · have := hA.1 _ h2
          have := hB.1 _ h1
          omega
    subst hab
    congr 1
    refine rise_ext hA.2 hB.2 fun x => ?_
    have hx := h x
    rw [List.mem_cons, List.mem_cons] at hx
    constructor
    · intro hm
      rcases hx.1 (.inr hm) with e | e
      · have := hA.1 _ hm; omega
      · exact e
    · intro hm
      rcases hx.2 (.inr hm) with e | e
      · have := hB.1 _ hm; omega
      · exact e

/-- What is kept of two rows that rise. -/
def sift (k : Bool → Bool → Bool) (A B : List Int) : List Int :=
  match A, B with
  | [], [] => []
  | a :: A, [] => (if k true false = true then [a] else []) ++ sift k A []
  | [], b :: B => (if k false true = true then [b] else []) ++ sift k [] B
  | a :: A, b :: B =>
    if a < b then (if k true false = true then [a] else []) ++ sift k A (b :: B)
    else if b < a then (if k false true = true then [b] else []) ++ sift k (a :: A) B
    else (if k true true = true then [a] else []) ++ sift k A B
termination_by A.length + B.length

theorem sift_a (k : Bool → Bool → Bool) (a : Int) (A : List Int) : sift k (a :: A) [] = (if k true false = true then [a] else []) ++ sift k A [] := by rw [sift]
theorem sift_b (k : Bool → Bool → Bool) (b : Int) (B : List Int) : sift k [] (b :: B) = (if k false true = true then [b] else []) ++ sift k [] B := by rw [sift]
theorem sift_lt (k : Bool → Bool → Bool) (a b : Int) (A B : List Int) (h : a < b) : sift k (a :: A) (b :: B) = (if k true false = true then [a] else []) ++ sift k A (b :: B) := by rw [sift, if_pos h]
theorem sift_gt (k : Bool → Bool → Bool) (a b : Int) (A B : List Int) (h : b < a) : sift k (a :: A) (b :: B) = (if k false true = true then [b] else []) ++ sift k (a :: A) B := by rw [sift, if_neg (by omega), if_pos h]
theorem sift_eq (k : Bool → Bool → Bool) (a b : Int) (A B : List Int) (h : a = b) : sift k (a :: A) (b :: B) = (if k true true = true then [a] else []) ++ sift k A B := by rw [sift, if_neg (by omega), if_neg (by omega)]

theorem mem_if {c : Bool} {a x : Int} : x ∈ (if c = true then [a] else []) ↔ c = true ∧ x = a := by
  cases c <;> simp

/-- How long it may be. -/
theorem sift_len (k : Bool → Bool → Bool) (A B : List Int) : (sift k A B).length ≤ A.length + B.length := by
  have hi : ∀ (c : Bool) (a : Int), (if c = true then [a] else [] : List Int).length ≤ 1 := fun c a => by cases c <;> simp
  fun_induction sift k A B with
  | case1 => simp
  | case2 a A ih => rw [List.length_append]; have := hi (k true false) a; simp only [List.length_cons] at ih ⊢; omega
  | case3 b B ih => rw [List.length_append]; have := hi (k false true) b; simp only [List.length_cons] at ih ⊢; omega
  | case4 a A b B h ih => rw [List.length_append]; have := hi (k true false) a; simp only [List.length_cons] at ih ⊢; omega
  | case5 a A b B h1 h2 ih => rw [List.length_append]; have := hi (k false true) b; simp only [List.length_cons] at ih ⊢; omega
  | case6 a A b B h1 h2 ih => rw [List.length_append]; have := hi (k true true) a; simp only [List.length_cons] at ih ⊢; omega

/-- Which are kept. -/
theorem mem_sift (k : Bool → Bool → Bool) (A B : List Int) (hA : Rise A) (hB : Rise B) (x : Int) : x ∈ sift k A B ↔ (x ∈ A ∨ x ∈ B) ∧ k (decide (x ∈ A)) (decide (x ∈ B)) = true := by
  fun_induction sift k A B with
  | case1 => simp
  | case2 a A ih =>
    rw [Rise, List.pairwise_cons] at hA
    rw [List.mem_append, mem_if, ih hA.2 hB]
    by_cases e : x = a
    · subst e
      have hn : x ∉ A := fun h => by have := hA.1 _ h; omega
      simp [hn]
    · simp [e]
  | case3 b B ih =>
    rw [Rise, List.pairwise_cons] at hB
    rw [List.mem_append, mem_if, ih hA hB.2]
    by_cases e : x = b
    · subst e
      have hn : x ∉ B := fun h => by have := hB.1 _ h; omega
      simp [hn]
    · simp [e]
  | case4 a A b B h ih =>
    have hA' := hA
    rw [Rise, List.pairwise_cons] at hA
    rw [List.mem_append, mem_if, ih hA.2 hB]
    by_cases e : x = a
    · subst e
      have hn : x ∉ A := fun h => by have := hA.1 _ h; omega
      have hb : x ∉ b :: B := fun h' => by
        rw [Rise, List.pairwise_cons] at hB
        rcases List.mem_cons.1 h' with rfl | h'
        · omega
        · have := hB.1 _ h'; omega
      simp [hn, hb]
    · simp [e]
  | case5 a A b B h1 h2 ih =>
    have hB' := hB
    rw [Rise, List.pairwise_cons] at hB
    rw [List.mem_append, mem_if, ih hA hB.2]
    by_cases e : x = b
    · subst e
      have hn : x ∉ B := fun h => by have := hB.1 _ h; omega
      have hb : x ∉ a :: A := fun h' => by
        rw [Rise, List.pairwise_cons] at hA
        rcases List.mem_cons.1 h' with rfl | h'
        · omega
        · have := hA.1 _ h'; omega
      simp [hn, hb]
    · simp [e]
  | case6 a A b B h1 h2 ih =>
    rw [Rise, List.pairwise_cons] at hA hB
    have e : a = b := by omega
    subst e
    rw [List.mem_append, mem_if, ih hA.2 hB.2]
    by_cases e : x = a
    · subst e
      have hn : x ∉ A := fun h => by have := hA.1 _ h; omega
      have hb : x ∉ B := fun h => by have := hB.1 _ h; omega
      simp [hn, hb]
    · simp [e]

theorem rise_if {c : Bool} {a : Int} {C : List Int} (hC : Rise C) (h : ∀ x ∈ C, a < x) : Rise ((if c = true then [a] else []) ++ C) := by
  cases c
  · simpa using hC
  · show Rise (a :: C)
    rw [Rise, List.pairwise_cons]; exact ⟨h, hC⟩

/-- What is kept rises. -/
theorem rise_sift (k : Bool → Bool → Bool) (A B : List Int) (hA : Rise A) (hB : Rise B) : Rise (sift k A B) := by
  fun_induction sift k A B with
  | case1 => exact List.Pairwise.nil
  | case2 a A ih =>
    rw [Rise, List.pairwise_cons] at hA
    refine rise_if (ih hA.2 hB) fun x hx => ?_
    rcases ((mem_sift k A [] hA.2 hB x).1 hx).1 with h | h
    · exact hA.1 _ h
    · simp at h
  | case3 b B ih =>
    rw [Rise, List.pairwise_cons] at hB
    refine rise_if (ih hA hB.2) fun x hx => ?_
    rcases ((mem_sift k [] B hA hB.2 x).1 hx).1 with h | h
    · simp at h
    · exact hB.1 _ h
  | case4 a A b B h ih =>
    rw [Rise, List.pairwise_cons] at hA
    refine rise_if (ih hA.2 hB) fun x hx => ?_
    rcases ((mem_sift k A _ hA.2 hB x).1 hx).1 with h' | h'
    · exact hA.1 _ h'
    · rw [Rise, List.pairwise_cons] at hB
      rcases List.mem_cons.1 h' with rfl | h'
      · exact h
      · have := hB.1 _ h'; omega
  | case5 a A b B h1 h2 ih =>
    rw [Rise, List.pairwise_cons] at hB
    refine rise_if (ih hA hB.2) fun x hx => ?_
    rcases ((mem_sift k _ B hA hB.2 x).1 hx).1 with h' | h'
    · rw [Rise, List.pairwise_cons] at hA
      rcases List.mem_cons.1 h' with rfl | h'
      · exact h2
      · have := hA.1 _ h'; omega
    · exact hB.1 _ h'
  | case6 a A b B h1 h2 ih =>
    rw [Rise, List.pairwise_cons] at hA hB
    refine rise_if (ih hA.2 hB.2) fun x hx => ?_
    rcases ((mem_sift k A B hA.2 hB.2 x).1 hx).1 with h' | h'
    · exact hA.1 _ h'
    · have := hB.1 _ h'; omega

def kAnd (p q : Bool) : Bool := p && q
def kNot (_ q : Bool) : Bool := !q
def kOr (_ _ : Bool) : Bool := true

/-- The numbers below n that are so. -/
def idx (n : Nat) (p : Nat → Bool) : List Int := ((List.range n).filter p).map Int.ofNat

theorem mem_idx (n : Nat) (p : Nat → Bool) (x : Int) : x ∈ idx n p ↔ ∃ i : Nat, i < n ∧ p i = true ∧ x = i := by
  unfold idx
  rw [List.mem_map]
  constructor
  · rintro ⟨i, hi, rfl⟩
    rw [List.mem_filter, List.mem_range] at hi
    exact ⟨i, hi.1, hi.2, rfl⟩
  · rintro ⟨i, h1, h2, rfl⟩
    exact ⟨i, List.mem_filter.2 ⟨List.mem_range.2 h1, h2⟩, rfl⟩

theorem mem_idx' (n : Nat) (p : Nat → Bool) (i : Nat) : (i : Int) ∈ idx n p ↔ i < n ∧ p i = true := by
  rw [mem_idx]
  constructor
  · rintro ⟨j, h1, h2, e⟩
    have : i = j := by omega
    subst this; exact ⟨h1, h2⟩
  · rintro ⟨h1, h2⟩; exact ⟨i, h1, h2, rfl⟩

theorem rise_idx (n : Nat) (p : Nat → Bool) : Rise (idx n p) := by
  unfold idx Rise
  rw [List.pairwise_map]
  exact (List.pairwise_lt_range.filter p).imp fun h => Int.ofNat_lt.2 h

theorem idx_len (n : Nat) (p : Nat → Bool) : (idx n p).length ≤ n := by
  unfold idx
  rw [List.length_map]
  have := List.length_filter_le p (List.range n)
  simpa using this

theorem idx_succ (n : Nat) (p : Nat → Bool) : idx (n + 1) p = idx n p ++ (if p n = true then [(n : Int)] else []) := by
  unfold idx
  rw [List.range_succ, List.filter_append, List.map_append]
  congr 1
  cases h : p n <;> simp [h]

theorem idx_congr (n : Nat) (p q : Nat → Bool) (h : ∀ i, i < n → p i = q i) : idx n p = idx n q := by
  refine rise_ext (rise_idx _ _) (rise_idx _ _) fun x => ?_
  rw [mem_idx, mem_idx]
  constructor
  · rintro ⟨i, h1, h2, h3⟩; exact ⟨i, h1, by rw [← h i h1]; exact h2, h3⟩
  · rintro ⟨i, h1, h2, h3⟩; exact ⟨i, h1, by rw [h i h1]; exact h2, h3⟩

theorem idx_bound (n : Nat) (p : Nat → Bool) : ∀ x ∈ idx n p, 0 ≤ x ∧ x < n := by
  intro x hx
  obtain ⟨i, h1, _, rfl⟩ := (mem_idx n p x).1 hx
  omega

theorem and_idx (n : Nat) (p q : Nat → Bool) : sift kAnd (idx n p) (idx n q) = idx n fun i => p i && q i := by
  refine rise_ext (rise_sift _ _ _ (rise_idx _ _) (rise_idx _ _)) (rise_idx _ _) fun x => ?_
  rw [mem_sift _ _ _ (rise_idx _ _) (rise_idx _ _)]
  simp only [kAnd, Bool.and_eq_true, decide_eq_true_eq, mem_idx]
  constructor
  · rintro ⟨_, ⟨i, h1, h2, h3⟩, j, h4, h5, h6⟩
    have : i = j := by omega
    subst this
    exact ⟨i, h1, ⟨h2, h5⟩, h3⟩
  · rintro ⟨i, h1, ⟨h2, h5⟩, h3⟩
    exact ⟨.inl ⟨i, h1, h2, h3⟩, ⟨i, h1, h2, h3⟩, ⟨i, h1, h5, h3⟩⟩

theorem or_idx (n : Nat) (p q : Nat → Bool) : sift kOr (idx n p) (idx n q) = idx n fun i => p i || q i := by
  refine rise_ext (rise_sift _ _ _ (rise_idx _ _) (rise_idx _ _)) (rise_idx _ _) fun x => ?_
  rw [mem_sift _ _ _ (rise_idx _ _) (rise_idx _ _)]
  simp only [kOr, and_true, mem_idx, Bool.or_eq_true]
  constructor
  · rintro (⟨i, h1, h2, h3⟩ | ⟨i, h1, h2, h3⟩)
    · exact ⟨i, h1, .inl h2, h3⟩
    · exact ⟨i, h1, .inr h2, h3⟩
  · rintro ⟨i, h1, h2 | h2, h3⟩
    · exact .inl ⟨i, h1, h2, h3⟩
    · exact .inr ⟨i, h1, h2, h3⟩

theorem not_idx (n : Nat) (p q : Nat → Bool) : sift kNot (idx n p) (idx n q) = idx n fun i => p i && !q i := by
  refine rise_ext (rise_sift _ _ _ (rise_idx _ _) (rise_idx _ _)) (rise_idx _ _) fun x => ?_
  rw [mem_sift _ _ _ (rise_idx _ _) (rise_idx _ _)]
  simp only [kNot, Bool.not_eq_true', decide_eq_false_iff_not, mem_idx, Bool.and_eq_true]
  constructor
  · rintro ⟨⟨i, h1, h2, h3⟩ | h, hn⟩
    · refine ⟨i, h1, ⟨h2, ?_⟩, h3⟩
      cases hq : q i
      · rfl
      · exact absurd ⟨i, h1, hq, h3⟩ hn
    · exact absurd h hn
  · rintro ⟨i, h1, ⟨h2, h4⟩, h3⟩
    refine ⟨.inl ⟨i, h1, h2, h3⟩, ?_⟩
    rintro ⟨j, _, h5, h6⟩
    have : i = j := by omega
    subst this
    rw [h4] at h5; cases h5

/-- The labels of the series i. -/
def atS (L : List (List Lab)) (i : Nat) : List Lab := L.getD i []

theorem atS_mem (L : List (List Lab)) (i : Nat) (h : i < L.length) : atS L i ∈ L := by
  unfold atS
  rw [List.getD_eq_getElem?_getD, List.getElem?_eq_getElem h]
  exact List.getElem_mem h

theorem atS_eq (L : List (List Lab)) (i : Nat) (h : i < L.length) : atS L i = L[i] := by
  unfold atS
  rw [List.getD_eq_getElem?_getD, List.getElem?_eq_getElem h]; rfl

open Classical in
/-- The numbers of those of the first k series that say so. -/
noncomputable def nums (L : List (List Lab)) (k : Nat) (n v : ByteArray) : List Int := idx k fun i => decide ((n, v) ∈ atS L i)

/-- Names rise in labels that may be a series'. -/
theorem right_names (l : List Lab) (h : right l = true) : l.Pairwise fun p q => lt p.1 q.1 = true := by
  have h' := (of_decide_eq_true h).2.2
  have key : ∀ d i, i + d + 1 < l.length → lt (at' l i).1 (at' l (i + d + 1)).1 = true := by
    intro d
    induction d with
    | zero =>
      intro i hi
      have := (h' (i + 1) hi).2.2.2 (by omega)
      simpa using this
    | succ d ih =>
      intro i hi
      have h1 := ih i (by omega)
      have h2 := (h' (i + d + 1 + 1) (by omega)).2.2.2 (by omega)
      rw [Nat.add_sub_cancel] at h2
      exact less_tr _ _ _ h1 h2
  rw [List.pairwise_iff_getElem]
  intro i j hi hj hij
  have := key (j - i - 1) i (by omega)
  rw [show i + (j - i - 1) + 1 = j by omega] at this
  have e1 : at' l i = l[i] := by unfold at'; rw [List.getD_eq_getElem?_getD, List.getElem?_eq_getElem hi]; rfl
  have e2 : at' l j = l[j] := by unfold at'; rw [List.getD_eq_getElem?_getD, List.getElem?_eq_getElem hj]; rfl
  rwa [e1, e2] at this

theorem get_mem : ∀ (l : List Lab) (n : ByteArray), get l n ≠ ByteArray.empty → (n, get l n) ∈ l
  | [], _, h => absurd rfl h
  | p :: l, n, h => by
    by_cases e : p.1 = n
    · have e' : get (p :: l) n = p.2 := by show (if _ then _ else _) = _; rw [if_pos e]
      rw [e', ← e]; simp
    · have e' : get (p :: l) n = get l n := by show (if _ then _ else _) = _; rw [if_neg e]
      rw [e'] at h ⊢
      exact List.mem_cons_of_mem _ (get_mem l n h)

theorem get_of_mem : ∀ (l : List Lab) (n v : ByteArray), (l.Pairwise fun p q => lt p.1 q.1 = true) → (n, v) ∈ l → get l n = v
  | [], _, _, _, h => by simp at h
  | p :: l, n, v, hp, h => by
    rw [List.pairwise_cons] at hp
    rcases List.mem_cons.1 h with e | h'
    · subst e
      show (if n = n then v else _) = _
      rw [if_pos rfl]
    · have hne : p.1 ≠ n := fun e => by
        have := hp.1 _ h'
        rw [e] at this
        exact Bool.noConfusion ((less_irr n.toList).symm.trans this)
      show (if p.1 = n then _ else _) = _
      rw [if_neg hne]
      exact get_of_mem l n v hp.2 h'

theorem right_val (l : List Lab) (h : right l = true) (n v : ByteArray) (hm : (n, v) ∈ l) : v ≠ ByteArray.empty := by
  obtain ⟨i, hi, e⟩ := List.mem_iff_getElem.1 hm
  have := ((of_decide_eq_true h).2.2 i hi).2.2.1
  have e1 : at' l i = l[i] := by unfold at'; rw [List.getD_eq_getElem?_getD, List.getElem?_eq_getElem hi]; rfl
  rw [e1, e] at this; exact this

/-- What a name says, and what is said. -/
theorem right_get (l : List Lab) (h : right l = true) (n v : ByteArray) : (n, v) ∈ l ↔ get l n = v ∧ v ≠ ByteArray.empty := by
  constructor
  · intro hm
    exact ⟨get_of_mem l n v (right_names l h) hm, right_val l h n v hm⟩
  · rintro ⟨rfl, h2⟩; exact get_mem l n h2

theorem get_one (n v : ByteArray) : get [(n, v)] n = v := by show (if n = n then v else _) = _; rw [if_pos rfl]

theorem one_get (l l' : List Lab) (m : Mat) (h : get l m.nm = get l' m.nm) : one l m = one l' m := by
  unfold one; rw [h]

/-- The values that were met, each once, and all of them. -/
def Met (L : List (List Lab)) (n : ByteArray) (ks : List ByteArray) : Prop :=
  ks.Nodup ∧ ∀ v, v ∈ ks ↔ ∃ i, i < L.length ∧ (n, v) ∈ atS L i

theorem nodup_of_rise {A : List Int} (h : Rise A) : A.Nodup := h.imp fun h => by omega

open Classical in
/-- The numbers of some values, one behind the other: none twice. -/
theorem nodup_flat (L : List (List Lab)) (hR : ∀ l ∈ L, right l = true) (n : ByteArray) : ∀ ks : List ByteArray, ks.Nodup → (ks.flatMap (nums L L.length n)).Nodup
  | [], _ => by simp
  | k :: ks, h => by
    rw [List.nodup_cons] at h
    rw [List.flatMap_cons, List.nodup_append]
    refine ⟨nodup_of_rise (rise_idx _ _), nodup_flat L hR n ks h.2, ?_⟩
    intro x hx y hy e
    subst e
    obtain ⟨v, hv, hxv⟩ := List.mem_flatMap.1 hy
    obtain ⟨i, h1, h2, h3⟩ := (mem_idx _ _ _).1 hx
    obtain ⟨j, _, h5, h6⟩ := (mem_idx _ _ _).1 hxv
    have : i = j := by omega
    subst this
    have hr := hR _ (atS_mem L i h1)
    have e1 := get_of_mem _ _ _ (right_names _ hr) (of_decide_eq_true h2)
    have e2 := get_of_mem _ _ _ (right_names _ hr) (of_decide_eq_true h5)
    exact h.1 (by rw [← e1, e2]; exact hv)

theorem sorted_rise (A : List Int) (h : A.Nodup) : Rise (A.mergeSort fun x y => decide (x ≤ y)) := by
  have h1 : (A.mergeSort fun x y => decide (x ≤ y)).Pairwise fun x y => decide (x ≤ y) = true :=
    List.pairwise_mergeSort (fun a b c h1 h2 => by simp at h1 h2 ⊢; omega) (fun a b => by simp; omega) A
  have h2 : (A.mergeSort fun x y => decide (x ≤ y)).Nodup := (List.mergeSort_perm A _).nodup_iff.2 h
  exact (h1.and h2).imp fun ⟨h1, h2⟩ => by
    have : _ ≤ _ := of_decide_eq_true h1
    omega

open Classical in
/-- The numbers of some values, in order: the series that say one of them. -/
theorem sorted_flat (L : List (List Lab)) (hR : ∀ l ∈ L, right l = true) (n : ByteArray) (ks : List ByteArray) (hk : ks.Nodup) (p : Nat → Bool) (hp : ∀ i, i < L.length → (p i = true ↔ ∃ v ∈ ks, (n, v) ∈ atS L i)) :
    ((ks.flatMap (nums L L.length n)).mergeSort fun x y => decide (x ≤ y)) = idx L.length p := by
  refine rise_ext (sorted_rise _ (nodup_flat L hR n ks hk)) (rise_idx _ _) fun x => ?_
  rw [(List.mergeSort_perm _ _).mem_iff, List.mem_flatMap, mem_idx]
  constructor
  · rintro ⟨v, hv, hx⟩
    obtain ⟨i, h1, h2, h3⟩ := (mem_idx _ _ _).1 hx
    exact ⟨i, h1, (hp i h1).2 ⟨v, hv, of_decide_eq_true h2⟩, h3⟩
  · rintro ⟨i, h1, h2, h3⟩
    obtain ⟨v, hv, hm⟩ := (hp i h1).1 h2
    exact ⟨v, hv, (mem_idx _ _ _).2 ⟨i, h1, decide_eq_true hm, h3⟩⟩

open Classical in
/-- How long the numbers of all values are. -/
theorem flat_len (L : List (List Lab)) (hR : ∀ l ∈ L, right l = true) (n : ByteArray) (ks : List ByteArray) (hk : ks.Nodup) : (ks.flatMap (nums L L.length n)).length ≤ L.length := by
  have e := sorted_flat L hR n ks hk (fun i => decide (∃ v ∈ ks, (n, v) ∈ atS L i)) (fun i _ => decide_eq_true_iff)
  have h1 := (List.mergeSort_perm (ks.flatMap (nums L L.length n)) fun x y => decide (x ≤ y)).length_eq
  rw [← h1, e]
  exact idx_len _ _

open Classical in
/-- A matcher asked of each value that is said, and of none where none is said: so it is asked of each series. -/
theorem match_one (L : List (List Lab)) (hR : ∀ l ∈ L, right l = true) (m : Mat) (ks : List ByteArray) (hk : Met L m.nm ks) :
    (if one [] m = true then sift kOr (((ks.filter fun v => one [(m.nm, v)] m).flatMap (nums L L.length m.nm)).mergeSort fun x y => decide (x ≤ y)) (sift kNot (idx L.length fun _ => true) ((ks.flatMap (nums L L.length m.nm)).mergeSort fun x y => decide (x ≤ y)))
      else (((ks.filter fun v => one [(m.nm, v)] m).flatMap (nums L L.length m.nm)).mergeSort fun x y => decide (x ≤ y))) = idx L.length fun i => one (atS L i) m := by
  have hnd : (ks.filter fun v => one [(m.nm, v)] m).Nodup := hk.1.sublist List.filter_sublist
  have hsay : ∀ i, i < L.length → ∀ v, (m.nm, v) ∈ atS L i → one (atS L i) m = one [(m.nm, v)] m := fun i hi v hv => by
    refine one_get _ _ _ ?_
    rw [get_one]
    exact get_of_mem _ _ _ (right_names _ (hR _ (atS_mem L i hi))) hv
  have hno : ∀ i, i < L.length → (¬ ∃ v, (m.nm, v) ∈ atS L i) → one (atS L i) m = one [] m := fun i hi hn => by
    refine one_get _ _ _ ?_
    show _ = ByteArray.empty
    by_cases h : get (atS L i) m.nm = ByteArray.empty
    · exact h
    · exact absurd ⟨_, get_mem _ _ h⟩ hn
  rw [sorted_flat L hR m.nm _ hnd (fun i => decide (∃ v ∈ ks.filter fun v => one [(m.nm, v)] m, (m.nm, v) ∈ atS L i)) (fun i _ => decide_eq_true_iff),
    sorted_flat L hR m.nm ks hk.1 (fun i => decide (∃ v ∈ ks, (m.nm, v) ∈ atS L i)) (fun i _ => decide_eq_true_iff), not_idx, or_idx]
  have hin : ∀ i, i < L.length → ∀ v, (m.nm, v) ∈ atS L i → v ∈ ks := fun i hi v hv => (hk.2 v).2 ⟨i, hi, hv⟩
  have hA : ∀ i, i < L.length → ∀ v, (m.nm, v) ∈ atS L i → (decide (∃ v ∈ ks.filter fun v => one [(m.nm, v)] m, (m.nm, v) ∈ atS L i)) = one (atS L i) m := fun i hi v hv => by
    cases h : one (atS L i) m
    · rw [decide_eq_false_iff_not]
      rintro ⟨v', hv', hm'⟩
      rw [List.mem_filter, ← hsay i hi v' hm', h] at hv'
      exact Bool.noConfusion hv'.2
    · rw [decide_eq_true_iff]
      exact ⟨v, List.mem_filter.2 ⟨hin i hi v hv, by rw [← hsay i hi v hv]; exact h⟩, hv⟩
  have hB : ∀ i, (¬ ∃ v, (m.nm, v) ∈ atS L i) → (decide (∃ v ∈ ks.filter fun v => one [(m.nm, v)] m, (m.nm, v) ∈ atS L i)) = false := fun i hn => by
    rw [decide_eq_false_iff_not]
    rintro ⟨v, _, hv⟩; exact hn ⟨v, hv⟩
  by_cases h0 : one [] m = true
  · rw [if_pos h0]
    refine idx_congr _ _ _ fun i hi => ?_
    by_cases hs : ∃ v, (m.nm, v) ∈ atS L i
    · obtain ⟨v, hv⟩ := hs
      have e1 : (decide (∃ v ∈ ks, (m.nm, v) ∈ atS L i)) = true := decide_eq_true ⟨v, hin i hi v hv, hv⟩
      rw [hA i hi v hv, e1]; simp
    · have e1 : (decide (∃ v ∈ ks, (m.nm, v) ∈ atS L i)) = false := by
        rw [decide_eq_false_iff_not]; rintro ⟨v, _, hv⟩; exact hs ⟨v, hv⟩
      rw [hB i hs, e1, hno i hi hs, h0]; rfl
  · rw [if_neg h0]
    refine idx_congr _ _ _ fun i hi => ?_
    by_cases hs : ∃ v, (m.nm, v) ∈ atS L i
    · obtain ⟨v, hv⟩ := hs
      exact hA i hi v hv
    · rw [hB i hs, hno i hi hs]
      cases h : one [] m
      · rfl
      · exact absurd h h0

/-- One matcher more. -/
theorem match_more (L : List (List Lab)) (ms : List Mat) (k : Nat) (h : k < ms.length) :
    sift kAnd (idx L.length fun i => all (atS L i) (ms.take k)) (idx L.length fun i => one (atS L i) (am ms k)) = idx L.length fun i => all (atS L i) (ms.take (k + 1)) := by
  rw [and_idx]
  refine idx_congr _ _ _ fun i _ => ?_
  have e : ms.take (k + 1) = ms.take k ++ [am ms k] := by
    rw [List.take_succ_eq_append_getElem h]
    congr 2
    unfold am
    rw [List.getD_eq_getElem?_getD, List.getElem?_eq_getElem h]; rfl
  rw [e, all_append]
  simp [all]

open Classical in
/-- What is said by the first k series, and by the first j labels of the next one. -/
noncomputable def sd (L : List (List Lab)) (k j : Nat) (n v : ByteArray) : List Int := nums L k n v ++ (if (n, v) ∈ (atS L k).take j then [(k : Int)] else [])

theorem sd_zero (L : List (List Lab)) (k : Nat) : sd L k 0 = nums L k := by
  funext n v
  simp [sd]

theorem sd_start (L : List (List Lab)) : sd L 0 0 = fun _ _ => [] := by
  funext n v
  simp [sd, nums, idx]

open Classical in
theorem sd_next (L : List (List Lab)) (k j : Nat) (h : (atS L k).length ≤ j) : sd L k j = sd L (k + 1) 0 := by
  funext n v
  rw [sd_zero]
  unfold sd nums
  rw [List.take_of_length_le h, idx_succ]
  congr 1
  by_cases e : (n, v) ∈ atS L k
  · rw [if_pos e, decide_eq_true e, if_pos rfl]
  · rw [if_neg e, decide_eq_false e]; rfl

open Classical in
theorem sd_same (L : List (List Lab)) (k j : Nat) (hr : right (atS L k) = true) (hj : j < (atS L k).length) : sd L k (j + 1) (at' (atS L k) j).1 (at' (atS L k) j).2 = sd L k j (at' (atS L k) j).1 (at' (atS L k) j).2 ++ [(k : Int)] := by
  unfold sd
  rw [take_at _ j hj]
  have h1 : ((at' (atS L k) j).1, (at' (atS L k) j).2) ∉ (atS L k).take j := by
    intro hm
    have hp := right_names _ hr
    have hs : (atS L k) = (atS L k).take j ++ (atS L k).drop j := (List.take_append_drop j _).symm
    rw [hs, List.pairwise_append] at hp
    have hd : at' (atS L k) j ∈ (atS L k).drop j := by rw [drop_at _ j hj]; simp
    have := hp.2.2 _ hm _ hd
    exact Bool.noConfusion ((less_irr _).symm.trans this)
  rw [if_neg h1, if_pos (by simp), List.append_nil]

open Classical in
theorem sd_other (L : List (List Lab)) (k j : Nat) (hj : j < (atS L k).length) (n v : ByteArray) (h : ¬ (n = (at' (atS L k) j).1 ∧ v = (at' (atS L k) j).2)) : sd L k (j + 1) n v = sd L k j n v := by
  unfold sd
  rw [take_at _ j hj]
  congr 1
  have : (n, v) ∈ (atS L k).take j ++ [at' (atS L k) j] ↔ (n, v) ∈ (atS L k).take j := by
    rw [List.mem_append, List.mem_singleton]
    constructor
    · rintro (h1 | h1)
      · exact h1
      · exact absurd ⟨congrArg Prod.fst h1, congrArg Prod.snd h1⟩ h
    · exact .inl
  by_cases e : (n, v) ∈ (atS L k).take j
  · rw [if_pos e, if_pos (this.2 e)]
  · rw [if_neg e, if_neg (fun e' => e (this.1 e'))]

open Classical in
theorem nums_ne (L : List (List Lab)) (n v : ByteArray) : nums L L.length n v ≠ [] ↔ ∃ i, i < L.length ∧ (n, v) ∈ atS L i := by
  unfold nums
  constructor
  · intro h
    obtain ⟨x, hx⟩ := List.exists_mem_of_ne_nil _ h
    obtain ⟨i, h1, h2, _⟩ := (mem_idx _ _ _).1 hx
    exact ⟨i, h1, of_decide_eq_true h2⟩
  · rintro ⟨i, h1, h2⟩ h
    have := (mem_idx L.length (fun i => decide ((n, v) ∈ atS L i)) i).2 ⟨i, h1, decide_eq_true h2, rfl⟩
    rw [h] at this
    simp at this

end IX
end Go.Proofs.YtdmnlmohfaafoacGreatDoor
