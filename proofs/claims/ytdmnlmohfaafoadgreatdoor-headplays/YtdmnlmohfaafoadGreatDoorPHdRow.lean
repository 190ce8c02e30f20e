/- A head, plain: series in order, what comes, what goes. No program in it. Rows of one's own: append where both what was and what is stay told; copy of elements of many cells. No program in it. -/
import Derived.Test.YtdmnlmohfaafoadGreatDoorPHdMem
import Derived.Deep.AppendSrc
import Derived.Laws.CopyRow
import Derived.Laws.Externs
import Derived.Lib.AppendZerosOnto
import Derived.Lib.Overlaps
namespace Go.Proofs.YtdmnlmohfaafoadGreatDoor
namespace HD

/-- In order, each labels once. -/
def Ord (S : List Sr) : Prop := S.Pairwise fun a b => LB.cmp a.1 b.1 = -1

/-- How many stand ahead of labels. -/
def pos : List Sr → List LB.Lab → Nat
  | [], _ => 0
  | x :: S, L => if LB.cmp x.1 L = -1 then pos S L + 1 else 0

theorem pos_le : ∀ (S : List Sr) (L : List LB.Lab), pos S L ≤ S.length
  | [], _ => Nat.le_refl _
  | x :: S, L => by
    unfold pos
    split
    · have := pos_le S L; simp only [List.length_cons]; omega
    · exact Nat.zero_le _

theorem at_cons (x : Sr) (S : List Sr) (i : Nat) : atSr (x :: S) (i + 1) = atSr S i := by simp [atSr]
theorem at_zero (x : Sr) (S : List Sr) : atSr (x :: S) 0 = x := rfl

theorem at_mem (S : List Sr) (i : Nat) (h : i < S.length) : atSr S i ∈ S := by
  unfold atSr
  rw [List.getD_eq_getElem?_getD, List.getElem?_eq_getElem h]
  exact List.getElem_mem h

theorem at_get (S : List Sr) (i : Nat) (h : i < S.length) : S[i]'h = atSr S i := by
  unfold atSr
  rw [List.getD_eq_getElem?_getD, List.getElem?_eq_getElem h]
  rfl

theorem mem_at {S : List Sr} {x : Sr} (h : x ∈ S) : ∃ i, i < S.length ∧ atSr S i = x := by
  obtain ⟨i, hi, e⟩ := List.mem_iff_getElem.1 h
  exact ⟨i, hi, by rw [← at_get S i hi]; exact e⟩

/-- Ahead of it: smaller. -/
theorem pos_lt : ∀ (S : List Sr) (L : List LB.Lab) (i : Nat), i < pos S L → LB.cmp (atSr S i).1 L = -1
  | [], _, i, h => by simp [pos] at h
  | x :: S, L, i, h => by
    unfold pos at h
    split at h
    · rename_i hc
      match i with
      | 0 => exact hc
      | i + 1 => rw [at_cons]; exact pos_lt S L i (by omega)
    · omega

theorem pos_at : ∀ (S : List Sr) (L : List LB.Lab), pos S L < S.length → LB.cmp (atSr S (pos S L)).1 L ≠ -1
  | [], _, h => by simp at h
  | x :: S, L, h => by
    unfold pos at h ⊢
    by_cases hc : LB.cmp x.1 L = -1
    · rw [if_pos hc] at h ⊢
      rw [at_cons]
      exact pos_at S L (by simpa using h)
    · rw [if_neg hc, at_zero]
      exact hc

theorem ord_at {S : List Sr} (h : Ord S) (i j : Nat) (hij : i < j) (hj : j < S.length) : LB.cmp (atSr S i).1 (atSr S j).1 = -1 := by
  have := List.pairwise_iff_getElem.1 h i j (by omega) hj hij
  rw [at_get S i (by omega), at_get S j hj] at this
  exact this

theorem cmp_ge {a b : List LB.Lab} (h : LB.cmp a b ≠ -1) : LB.cmp a b = 0 ∨ LB.cmp a b = 1 := by
  rcases LB.cmp_ord.rng a b with h1 | h1 | h1
  · exact absurd h1 h
  · exact .inl h1
  · exact .inr h1

theorem cmp_flip {a b : List LB.Lab} (h : LB.cmp a b = -1) : LB.cmp b a = 1 := by rw [LB.cmp_ord.anti a b, h]; rfl
theorem cmp_flip' {a b : List LB.Lab} (h : LB.cmp a b = 1) : LB.cmp b a = -1 := by rw [LB.cmp_ord.anti a b, h]
theorem cmp_eq {a b : List LB.Lab} (h : LB.cmp a b = 0) : a = b := (LB.cmp_ord.zero a b).1 h
theorem cmp_refl (a : List LB.Lab) : LB.cmp a a = 0 := (LB.cmp_ord.zero a a).2 rfl

/-- From it on: not smaller; behind it: greater. -/
theorem pos_gt {S : List Sr} (h : Ord S) (L : List LB.Lab) (i : Nat) (hp : pos S L < i) (hi : i < S.length) : LB.cmp (atSr S i).1 L = 1 := by
  have h1 := pos_at S L (by omega)
  have h2 := ord_at h (pos S L) i hp hi
  rcases cmp_ge h1 with h3 | h3
  · rw [cmp_eq h3] at h2
    exact cmp_flip h2
  · exact cmp_flip (LB.cmp_ord.tr _ _ _ (cmp_flip' h3) h2)

theorem pos_ge {S : List Sr} (h : Ord S) (L : List LB.Lab) (i : Nat) (hp : pos S L ≤ i) (hi : i < S.length) : LB.cmp (atSr S i).1 L ≠ -1 := by
  by_cases e : pos S L = i
  · subst e; exact pos_at S L hi
  · rw [pos_gt h L i (by omega) hi]; decide

/-- It is the one place of that kind. -/
theorem pos_of {S : List Sr} (_h : Ord S) (L : List LB.Lab) (k : Nat) (hk : k ≤ S.length) (h1 : ∀ i, i < k → LB.cmp (atSr S i).1 L = -1) (h2 : ∀ i, k ≤ i → i < S.length → LB.cmp (atSr S i).1 L ≠ -1) : k = pos S L := by
  have hp := pos_le S L
  rcases Nat.lt_trichotomy k (pos S L) with h3 | h3 | h3
  · exact absurd (pos_lt S L k h3) (h2 k (Nat.le_refl _) (by omega))
  · exact h3
  · exact absurd (h1 (pos S L) h3) (pos_at S L (by omega))

def there (S : List Sr) (L : List LB.Lab) : Bool := decide (pos S L < S.length ∧ LB.cmp (atSr S (pos S L)).1 L = 0)

theorem there_iff {S : List Sr} (h : Ord S) (L : List LB.Lab) : there S L = true ↔ ∃ i, i < S.length ∧ LB.cmp (atSr S i).1 L = 0 := by
  unfold there
  rw [decide_eq_true_iff]
  constructor
  · rintro ⟨h1, h2⟩; exact ⟨_, h1, h2⟩
  · rintro ⟨i, h1, h2⟩
    have : i = pos S L := by
      rcases Nat.lt_trichotomy i (pos S L) with h3 | h3 | h3
      · rw [pos_lt S L i h3] at h2; simp at h2
      · exact h3
      · rw [pos_gt h L i h3 h1] at h2; simp at h2
    subst this
    exact ⟨h1, h2⟩

theorem there_pos {S : List Sr} (h : Ord S) (L : List LB.Lab) (i : Nat) (hi : i < S.length) (hc : LB.cmp (atSr S i).1 L = 0) : i = pos S L := by
  rcases Nat.lt_trichotomy i (pos S L) with h3 | h3 | h3
  · rw [pos_lt S L i h3] at hc; simp at hc
  · exact h3
  · rw [pos_gt h L i h3 hi] at hc; simp at hc

/-- The last time of a series. -/
def lastT (x : Sr) : Int := (CL.at' x.2 (x.2.length - 1)).1
def firstT (x : Sr) : Int := (CL.at' x.2 0).1

/-- What is wrong with a series that comes: 0: nothing. -/
def err (mark : Int) (S : List Sr) (x : Sr) : Int :=
  if LB.right x.1 = false ∨ CL.right x.2 = false ∨ x.2.length = 0 then 1
  else if firstT x ≤ mark then 10
  else if there S x.1 = true then
    (if firstT x ≤ lastT (atSr S (pos S x.1)) then 10
    else if 2000 < (atSr S (pos S x.1)).2.length + x.2.length then 12 else 0)
  else if 60 ≤ S.length then 12 else 0

/-- What is there behind it. -/
def nxt (S : List Sr) (x : Sr) : List Sr :=
  if there S x.1 = true then S.set (pos S x.1) ((atSr S (pos S x.1)).1, (atSr S (pos S x.1)).2 ++ x.2)
  else S.insertIdx (pos S x.1) x

/-- A series that may be in a head. -/
def OkS (x : Sr) : Prop := LB.right x.1 = true ∧ CL.right x.2 = true ∧ 0 < x.2.length ∧ ∀ s ∈ x.2, CL.Rs s

structure Good (S : List Sr) : Prop where
  ord : Ord S
  few : S.length ≤ 60
  ok : ∀ x ∈ S, OkS x

theorem Good.nil : Good [] := ⟨List.Pairwise.nil, by simp, fun x h => by simp at h⟩

theorem right_app (a b : List CL.Smp) (ha : CL.right a = true) (hb : CL.right b = true) (h0 : 0 < a.length) (_hb0 : 0 < b.length) (hlt : (CL.at' a (a.length - 1)).1 < (CL.at' b 0).1) (hn : a.length + b.length ≤ 2000) : CL.right (a ++ b) = true := by
  refine CL.right_of _ (by rw [List.length_append]; exact hn) fun i hi => ?_
  rw [CL.okAt_iff]
  rw [CL.right_iff] at ha hb
  have hl : ∀ k, k < a.length → CL.at' (a ++ b) k = CL.at' a k := fun k hk => by
    unfold CL.at'
    rw [List.getD_eq_getElem?_getD, List.getD_eq_getElem?_getD, List.getElem?_append_left hk]
  have hr : ∀ k, CL.at' (a ++ b) (a.length + k) = CL.at' b k := fun k => by
    unfold CL.at'
    rw [List.getD_eq_getElem?_getD, List.getD_eq_getElem?_getD, List.getElem?_append_right (Nat.le_add_right _ _)]
    simp
  rw [List.length_append] at hi
  by_cases h1 : i < a.length
  · have h2 := (CL.okAt_iff a i).1 (ha.2 i h1)
    rw [hl i h1]
    refine ⟨h2.1, ?_⟩
    rcases h2.2 with h3 | h3
    · exact .inl h3
    · by_cases h4 : i = 0
      · exact .inl h4
      · rw [hl (i - 1) (by omega)]; exact .inr h3
  · obtain ⟨k, rfl⟩ : ∃ k, i = a.length + k := ⟨i - a.length, by omega⟩
    have h2 := (CL.okAt_iff b k).1 (hb.2 k (by omega))
    rw [hr k]
    refine ⟨h2.1, .inr ?_⟩
    by_cases h4 : k = 0
    · subst h4
      rw [Nat.add_zero, hl _ (by omega)]
      exact hlt
    · have e : a.length + k - 1 = a.length + (k - 1) := by omega
      rw [e, hr (k - 1)]
      rcases h2.2 with h3 | h3
      · omega
      · exact h3

theorem insert_ord {S : List Sr} (h : Ord S) (x : Sr) (hn : there S x.1 = false) : Ord (S.insertIdx (pos S x.1) x) := by
  induction S with
  | nil => simp [pos, Ord]
  | cons y S ih =>
    have h1 := List.pairwise_cons.1 h
    unfold pos
    by_cases hc : LB.cmp y.1 x.1 = -1
    · rw [if_pos hc, List.insertIdx_succ_cons]
      have hn' : there S x.1 = false := by
        rcases hb : there S x.1 with _ | _
        · rfl
        · obtain ⟨i, h2, h3⟩ := (there_iff h1.2 x.1).1 hb
          have : there (y :: S) x.1 = true := (there_iff h x.1).2 ⟨i + 1, by simpa using h2, by rw [at_cons]; exact h3⟩
          rw [this] at hn; simp at hn
      refine List.pairwise_cons.2 ⟨fun z hz => ?_, ih h1.2 hn'⟩
      rcases (List.mem_insertIdx (pos_le S x.1)).1 hz with e | e
      · rw [e]; exact hc
      · exact h1.1 z e
    · rw [if_neg hc, List.insertIdx_zero]
      have hgt : LB.cmp x.1 y.1 = -1 := by
        rcases cmp_ge hc with h2 | h2
        · have : there (y :: S) x.1 = true := (there_iff h x.1).2 ⟨0, by simp, h2⟩
          rw [this] at hn; simp at hn
        · exact cmp_flip' h2
      refine List.pairwise_cons.2 ⟨fun z hz => ?_, h⟩
      rcases List.mem_cons.1 hz with e | e
      · rw [e]; exact hgt
      · exact LB.cmp_ord.tr _ _ _ hgt (h1.1 z e)

theorem set_ord {S : List Sr} (h : Ord S) (k : Nat) (y : Sr) (_hk : k < S.length) (e : y.1 = (atSr S k).1) : Ord (S.set k y) := by
  unfold Ord
  rw [List.pairwise_iff_getElem]
  intro i j hi hj hij
  rw [List.length_set] at hi hj
  have key : ∀ m (hm : m < S.length), ((S.set k y)[m]'(by rw [List.length_set]; exact hm)).1 = (atSr S m).1 := by
    intro m hm
    rw [List.getElem_set]
    split
    · rename_i h2; subst h2; exact e
    · rw [at_get]
  rw [key i hi, key j hj]
  exact ord_at h i j hij hj

theorem err_ok {mark : Int} {S : List Sr} {x : Sr} (h : err mark S x = 0) : LB.right x.1 = true ∧ CL.right x.2 = true ∧ 0 < x.2.length ∧ mark < firstT x ∧ ((there S x.1 = true ∧ lastT (atSr S (pos S x.1)) < firstT x ∧ (atSr S (pos S x.1)).2.length + x.2.length ≤ 2000) ∨ (there S x.1 = false ∧ S.length < 60)) := by
  unfold err at h
  split at h
  · simp at h
  · rename_i h1
    have h1' : LB.right x.1 = true ∧ CL.right x.2 = true ∧ 0 < x.2.length := by
      refine ⟨?_, ?_, ?_⟩
      · rcases hb : LB.right x.1 with _ | _
        · exact absurd (.inl hb) h1
        · rfl
      · rcases hb : CL.right x.2 with _ | _
        · exact absurd (.inr (.inl hb)) h1
        · rfl
      · rcases Nat.eq_zero_or_pos x.2.length with hb | hb
        · exact absurd (.inr (.inr hb)) h1
        · exact hb
    refine ⟨h1'.1, h1'.2.1, h1'.2.2, ?_⟩
    split at h
    · simp at h
    · rename_i h2
      refine ⟨by omega, ?_⟩
      split at h
      · rename_i h3
        split at h
        · simp at h
        · rename_i h4
          split at h
          · simp at h
          · rename_i h5
            exact .inl ⟨h3, by omega, by omega⟩
      · rename_i h3
        split at h
        · simp at h
        · rename_i h4
          exact .inr ⟨by simpa using h3, by omega⟩

theorem nxt_good {mark : Int} {S : List Sr} {x : Sr} (h : Good S) (he : err mark S x = 0) (hR : ∀ s ∈ x.2, CL.Rs s) : Good (nxt S x) := by
  obtain ⟨h1, h2, h3, h4, h5⟩ := err_ok he
  unfold nxt
  rcases h5 with ⟨h6, h7, h8⟩ | ⟨h6, h7⟩
  · rw [if_pos h6]
    have hp : pos S x.1 < S.length := (decide_eq_true_iff.1 h6).1
    have hy := h.ok _ (at_mem S _ hp)
    refine ⟨set_ord h.ord _ _ hp rfl, by rw [List.length_set]; exact h.few, fun z hz => ?_⟩
    rcases List.mem_or_eq_of_mem_set hz with e | e
    · exact h.ok z e
    · rw [e]
      refine ⟨hy.1, right_app _ _ hy.2.1 h2 hy.2.2.1 h3 h7 h8, by simp only [List.length_append]; omega, fun s hs => ?_⟩
      rcases List.mem_append.1 hs with e | e
      · exact hy.2.2.2 s e
      · exact hR s e
  · rw [if_neg (by rw [h6]; decide)]
    refine ⟨insert_ord h.ord x h6, ?_, fun z hz => ?_⟩
    · rw [List.length_insertIdx]; split <;> omega
    · rcases (List.mem_insertIdx (pos_le S x.1)).1 hz with e | e
      · rw [e]; exact ⟨h1, h2, h3, hR⟩
      · exact h.ok z e

/-- What comes of series that come one by one: at the first that may not, what is wrong, and where. -/
def run (mark : Int) : List Sr → List Sr → Nat → Option (Int × Nat) × List Sr
  | S, [], _ => (none, S)
  | S, x :: l, i => if err mark S x = 0 then run mark (nxt S x) l (i + 1) else (some (err mark S x, i), S)

def total (l : List Sr) : Nat := (l.map fun x => x.2.length).sum

theorem total_take (l : List Sr) (i : Nat) (h : i < l.length) : total (l.take (i + 1)) = total (l.take i) + (atSr l i).2.length := by
  unfold total
  rw [List.take_succ_eq_append_getElem h, List.map_append, List.sum_append, at_get]
  simp

theorem total_le (l : List Sr) (i : Nat) : total (l.take i) ≤ total l := by
  conv => rhs; rw [← List.take_append_drop i l]
  unfold total
  rw [List.map_append, List.sum_append]
  omega

theorem run_drop (mark : Int) (S l : List Sr) (i : Nat) (h : i < l.length) : run mark S (l.drop i) i = if err mark S (atSr l i) = 0 then run mark (nxt S (atSr l i)) (l.drop (i + 1)) (i + 1) else (some (err mark S (atSr l i), i), S) := by
  rw [List.drop_eq_getElem_cons h, at_get]
  rfl

/-- What Append tells: what is wrong (0: nothing) and where (-1: nowhere); and what is there. -/
def app (mark : Int) (S l : List Sr) : (Int × Int) × List Sr :=
  if 40 < total l then ((4, -1), S)
  else match run mark S l 0 with
    | (none, S') => ((0, -1), S')
    | (some (e, i), _) => ((e, (i : Int)), S)

theorem run_good {mark : Int} : ∀ {S l : List Sr} {i : Nat}, Good S → (∀ x ∈ l, ∀ s ∈ x.2, CL.Rs s) → Good (run mark S l i).2
  | S, [], _, h, _ => h
  | S, x :: l, i, h, hR => by
    unfold run
    split
    · rename_i he
      exact run_good (nxt_good h he (hR x (by simp))) (fun y hy => hR y (by simp [hy]))
    · exact h

theorem app_good {mark : Int} {S l : List Sr} (h : Good S) (hR : ∀ x ∈ l, ∀ s ∈ x.2, CL.Rs s) : Good (app mark S l).2 := by
  unfold app
  split
  · exact h
  · have := run_good (mark := mark) (i := 0) h hR
    split
    · rename_i e; rw [e] at this; exact this
    · exact h

/-- Samples that p holds of; series without samples are none. -/
def keepS (p : List LB.Lab → Int → Bool) (x : Sr) : Sr := (x.1, x.2.filter fun s => p x.1 s.1)
def kp (p : List LB.Lab → Int → Bool) (S : List Sr) : List Sr := (S.map (keepS p)).filter fun x => decide (0 < x.2.length)

theorem kp_snoc (p : List LB.Lab → Int → Bool) (S : List Sr) (i : Nat) (h : i < S.length) : kp p (S.take (i + 1)) = kp p (S.take i) ++ (if 0 < (keepS p (atSr S i)).2.length then [keepS p (atSr S i)] else []) := by
  unfold kp
  rw [List.take_succ_eq_append_getElem h, List.map_append, List.filter_append, at_get]
  congr 1
  simp only [List.map_cons, List.map_nil, List.filter_cons, List.filter_nil, decide_eq_true_eq]

theorem right_filter (l : List CL.Smp) (q : CL.Smp → Bool) (h : CL.right l = true) : CL.right (l.filter q) = true := by
  have key : ∀ (l : List CL.Smp), (CL.right l = true ↔ l.length ≤ 2000 ∧ l.Pairwise (fun a b => a.1 < b.1) ∧ ∀ s ∈ l, -1099511627776 ≤ s.1 ∧ s.1 ≤ 1099511627776) := by
    intro l
    rw [CL.right_iff]
    have ge : ∀ i (hi : i < l.length), CL.at' l i = l[i] := fun i hi => by
      unfold CL.at'; rw [List.getD_eq_getElem?_getD, List.getElem?_eq_getElem hi]; rfl
    constructor
    · rintro ⟨h1, h2⟩
      refine ⟨h1, ?_, fun s hs => ?_⟩
      · rw [List.pairwise_iff_getElem]
        have step : ∀ n i, i + n < l.length → 0 < n → (CL.at' l i).1 < (CL.at' l (i + n)).1 := by
          intro n
          induction n with
          | zero => intro i _ h; omega
          | succ n ih =>
            intro i hi _
            have h3 := ((CL.okAt_iff l (i + (n + 1))).1 (h2 _ hi)).2
            have h4 : (CL.at' l (i + n)).1 < (CL.at' l (i + (n + 1))).1 := by
              rcases h3 with h3 | h3
              · omega
              · exact h3
            by_cases hn : n = 0
            · subst hn; exact h4
            · have := ih i (by omega) (by omega); omega
        intro i j hi hj hij
        have := step (j - i) i (by omega) (by omega)
        rw [show i + (j - i) = j by omega, ge i hi, ge j hj] at this
        exact this
      · obtain ⟨i, hi, e⟩ := List.mem_iff_getElem.1 hs
        have := ((CL.okAt_iff l i).1 (h2 i hi)).1
        rw [ge i hi, e] at this
        exact this
    · rintro ⟨h1, h2, h3⟩
      refine ⟨h1, fun i hi => (CL.okAt_iff l i).2 ⟨?_, ?_⟩⟩
      · rw [ge i hi]; exact h3 _ (List.getElem_mem hi)
      · by_cases h0 : i = 0
        · exact .inl h0
        · right
          rw [ge i hi, ge (i - 1) (by omega)]
          exact List.pairwise_iff_getElem.1 h2 (i - 1) i (by omega) hi (by omega)
  rw [key] at h ⊢
  exact ⟨Nat.le_trans (List.length_filter_le _ _) h.1, h.2.1.filter _, fun s hs => h.2.2 s (List.mem_filter.1 hs).1⟩

theorem kp_good {p : List LB.Lab → Int → Bool} {S : List Sr} (h : Good S) : Good (kp p S) := by
  refine ⟨?_, ?_, fun x hx => ?_⟩
  · unfold Ord kp
    refine List.Pairwise.filter _ ?_
    rw [List.pairwise_map]
    exact h.ord
  · exact Nat.le_trans (List.length_filter_le _ _) (by rw [List.length_map]; exact h.few)
  · unfold kp at hx
    obtain ⟨h1, h2⟩ := List.mem_filter.1 hx
    obtain ⟨y, hy, rfl⟩ := List.mem_map.1 h1
    have := h.ok y hy
    exact ⟨this.1, right_filter _ _ this.2.1, by simpa using h2, fun s hs => this.2.2.2 s (List.mem_filter.1 hs).1⟩

end HD
end Go.Proofs.YtdmnlmohfaafoadGreatDoor

namespace Go.Proofs.YtdmnlmohfaafoadGreatDoor
open Go.RowKit

theorem list_take_three {α : Type} (a b c : List α) (n : Nat) (h : n = a.length + b.length) : (a ++ b ++ c).take n = a ++ b := by
  rw [h, ← List.length_append, List.take_left]

/-- append onto a row of one's own: the row as it was is still there, below. -/
theorem append_both {P : Program} (w : World) (base : Nat) (t ty e : TypeId) (i : TypeInfo) (z : Value) (size bytes : Nat) (ht : P.underlying t = some (.slice e)) (hi : P.info? e = some i) (hz : i.zero = some z)
    (hsize : i.size = size) (hby : i.bytes = bytes) (hzs : z.cells.size = size) (hsz : 0 < size)
    (v : Value) (n : Nat) (xs : List Value) (hown : w.ownsRow base e size v n xs)
    (a : Addr) (m c : Nat) (news : List Value) (hm : 0 < m) (hl : news.length = m * size) (hnews : ∀ j u, news[j]? = some u → w.cell? (a.add j) = some u) (h1 : ∀ u ∈ news, u.oneCell' = true)
    (h63 : n + m ≤ maxLen) (hbytes : (n + m) * bytes ≤ 140737488355328) (hbase : base ≤ w.heap.size) :
    ∃ v' w', (Builtin.append_ #[t, t] ty #[v, .slice (some a) m c]).run P w = .ok v' w' ∧ w'.ownsRow base e size v' (n + m) (xs ++ news) ∧ w'.ownsRow base e size v n xs ∧ w.grownBy w' v.ownBlock ∧
      (v'.ownBlock = v.ownBlock ∨ v'.ownBlock = some w.heap.size) := by
  obtain ⟨v', w', hrun, ho, hg, hnil⟩ := run_append_own (P := P) w base t ty e i z size bytes ht hi hz hsize hby hzs hsz v n xs hown a m c news hl hnews h1 h63 hbytes hbase
  refine ⟨v', w', hrun, ho, ?_⟩
  have hsrc : Src P i.size t (.slice (some a) m c) m news w := Src.ofSlice w ht a m c news (by rw [hsize]; exact hl) hnews h1
  have h63' : ((n + m : Nat) : Int) ≤ 9223372036854775807 := by unfold maxLen at h63; omega
  have hown0 := hown
  rcases hown.2 with ⟨rfl, h0⟩ | ⟨g, cap, cur, rfl, h2, hc, h3, h4, h5, h6⟩
  · subst h0
    have hr := run_append_grow_src (P := P) w t t ty e i z ht hi hz none 0 0 [] (run_firstCells_none w.drew i.size 0 0 0) (.slice (some a) m c) m news hsrc (by omega) h63' (by rw [hby]; exact growslice_fits (by omega) hbytes)
    rw [hr] at hrun
    cases hrun
    exact ⟨⟨hown.1, .inl ⟨rfl, rfl⟩⟩, hg, .inr rfl⟩
  · by_cases hroom : n + m ≤ cap
    · have hfit : n * i.size + news.length ≤ cur.size := by
        rw [hsize, hl, h5, ← Nat.add_mul]
        exact Nat.mul_le_mul_right _ hroom
      have hr := run_append_room (P := P) w t ty e i ht hi g n cap cur hc a m c news (by rw [hsize]; exact hl) hnews h1 hroom hfit
      rw [hr] at hrun
      cases hrun
      refine ⟨⟨hown0.1, .inr ⟨g, cap, _, rfl, h2, setRow_heap w g cur _ e _ hc, h3, h4, ?_, ?_⟩⟩, hg, .inl rfl⟩
      · rw [← h5]
        have : (cur.toList.take (n * i.size) ++ news ++ cur.toList.drop (n * i.size + news.length)).length = cur.size := by
          simp only [List.length_append, List.length_take, List.length_drop, Array.length_toList]
          omega
        simpa using this
      · have hle : n * size ≤ cur.size := by rw [h5]; exact Nat.mul_le_mul_right _ h3
        rw [List.toList_toArray, List.append_assoc, hsize, List.take_append_of_le_length (by rw [List.length_take, Array.length_toList]; omega), List.take_take, Nat.min_self]
        exact h6
    · have hold : (Builtin.firstCells i.size n (.slice (some ⟨g, 0, none⟩) n cap)).run P w.drew = .ok xs.toArray w.drew := by
        rw [hsize]
        exact run_firstCells_some w.drew size n ⟨g, 0, none⟩ n cap xs hown0.1 (fun j u hj => hown0.cells (g := g) rfl j u hj)
      have hr := run_append_grow_src (P := P) w t t ty e i z ht hi hz (some ⟨g, 0, none⟩) n cap xs hold (.slice (some a) m c) m news hsrc (by omega) h63' (by rw [hby]; exact growslice_fits (by omega) hbytes)
      rw [hr] at hrun
      cases hrun
      refine ⟨⟨hown0.1, .inr ⟨g, cap, cur, rfl, h2, ?_, h3, h4, h5, h6⟩⟩, hg, .inr rfl⟩
      exact (Below.heap_alloc w.drew _ g (heap_lt hc)).trans hc

/-- copy of elements of many cells into a row. -/
theorem run_copy_many {P : Program} (w : World) (dT sT ty elem : TypeId) (g o dLen dCap : Nat) (a : Addr) (sLen sCap size : Nat) (cur : Array Value) (t : TypeId) (cs : List Value)
    (hu : P.underlying dT = some (.slice elem)) (hs : (P.info? elem).map (·.size) = some size)
    (hg : w.heap[g]? = some (.cells cur t (0, 0))) (hn : cs.length = Nat.min sLen dLen * size)
    (hsrc : ∀ j v, cs[j]? = some v → w.cell? (a.add j) = some v) (hfit : o + cs.length ≤ cur.size) (h1 : ∀ v ∈ cs, v.oneCell' = true) :
    (Builtin.copy_ #[dT, sT] ty #[.slice (some ⟨g, o, none⟩) dLen dCap, .slice (some a) sLen sCap]).run P w =
      .ok (goInt (Nat.min sLen dLen)) (w.setRow g (cur.toList.take o ++ cs ++ cur.toList.drop (o + cs.length)).toArray) := by
  have hl := run_loadCells_list (P := P) w a cs hsrc
  have hst := run_storeCells_at P g o t cs 0 cur w hg (by simpa using hfit) h1
  cases hq : P.info? elem with
  | none => simp [hq] at hs
  | some i =>
    have hi : i.size = size := by simpa [hq] using hs
    simp [Builtin.copy_, run_underlying hu, Builtin.lenOf, Builtin.firstCells, sizeOf, typeInfo, hq, hi, ← hn, hl, hst]

/-- The operation copy where its run is known by an equation. -/
theorem wpList_copy_eqn {P : Program} (w : World) {ops : Array Oper} {rest : List Oper} {o : Oper} {a : Act} {Q : Exit → Act → World → Prop} (hgd : o.guard = none) (d s : Operand) (t t' : TypeId)
    (ho : o.op = .call { callee := .builtin .copy, args := #[d, s], argTypes := #[t, t'] }) (v u : Value) (hd : a.eval d = v) (hs : a.eval s = u) {v' : Value} {w' : World}
    (hr : (Builtin.copy_ #[t, t'] o.type #[v, u]).run P w = .ok v' w') (h : wpList P ops Q rest (a.put o.dst v') w') : wpList P ops Q (o :: rest) a w :=
  wpList_plain hgd fun _ hK => by
    unfold Oper.wp execOp
    simp only [ho, resolve, invoke, builtin, Sem.run_bind, Sem.run_pure, Result.andThen_ok, List.map_toArray, List.map_cons, List.map_nil, hd, hs, hr]
    exact hK _ _ h

/-- .. and as one step of a region that draws. -/
theorem step_copy_eqn {P : Program} {ops : Array Oper} {o : Oper} {a : Act} {w : World} {K : Act → World → Prop} {Q : Exit → Act → World → Prop} {E : Prop}
    (hg : o.guard = none) (d x : Operand) (dT sT : TypeId) (hop : o.op = Op.call { callee := Callee.builtin Builtin.copy, args := #[d, x], argTypes := #[dT, sT] })
    (v u : Value) (hd : a.eval d = v) (hx : a.eval x = u) {v' : Value} {w' : World} (hr : (Builtin.copy_ #[dT, sT] o.type #[v, u]).run P w = .ok v' w') (hK : K (a.put o.dst v') w') :
    if Region.wanted o (yielded ops a.tmps) = true then Oper.wp P o a w K Q else E := by
  have hw : Region.wanted o (yielded ops a.tmps) = true := by simp [Region.wanted, hg]
  rw [if_pos hw]
  unfold Oper.wp
  simp [execOp, hop, resolve, invoke, builtin, hd, hx, hr, Result.andThen]
  exact hK

/-- append, where its run is known by an equation, as one step of a region that draws. -/
theorem step_append_eqn {P : Program} {ops : Array Oper} {o : Oper} {a : Act} {w : World} {K : Act → World → Prop} {Q : Exit → Act → World → Prop} {E : Prop}
    (hg : o.guard = none) (d x : Operand) (dT sT : TypeId) (hop : o.op = Op.call { callee := Callee.builtin Builtin.append, args := #[d, x], argTypes := #[dT, sT] })
    (v u : Value) (hd : a.eval d = v) (hx : a.eval x = u) {v' : Value} {w' : World} (hr : (Builtin.append_ #[dT, sT] o.type #[v, u]).run P w = .ok v' w') (hK : K (a.put o.dst v') w') :
    if Region.wanted o (yielded ops a.tmps) = true then Oper.wp P o a w K Q else E := by
  have hw : Region.wanted o (yielded ops a.tmps) = true := by simp [Region.wanted, hg]
  rw [if_pos hw]
  unfold Oper.wp
  simp [execOp, hop, resolve, invoke, builtin, hd, hx, hr, Result.andThen]
  exact hK

end Go.Proofs.YtdmnlmohfaafoadGreatDoor

