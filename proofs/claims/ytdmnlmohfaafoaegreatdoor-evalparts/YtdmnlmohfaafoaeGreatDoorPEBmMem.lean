/- A head, plain: series in order, what comes, what goes. No program in it. Rows of one's own: append where both what was and what is stay told; copy of elements of many cells. No program in it. Rows of series, without a head (made by mkbk.py) -/
import Derived.Test.YtdmnlmohfaafoaeGreatDoorPEHdMem
import Derived.Deep.AppendSrc
import Derived.Laws.CopyRow
import Derived.Laws.Externs
import Derived.Lib.AppendZerosOnto
import Derived.Lib.Overlaps
import Derived.Laws.OwnMore
import Derived.Shelf.Abstract
namespace Go.Proofs.YtdmnlmohfaafoaeGreatDoor
namespace HD

/-- In order, each labels once. -/
def Ord (S : List Sr) : Prop := S.Pairwise fun a b => LB.cmp a.1 b.1 = -1

/-- How many stand ahead of labels. -/
def pos : List Sr → List LB.Lab → Nat
  | [], _ => 0
  | x :: S, L => if LB.cmp x.1 L = -1 then pos S L + 1 else 0

theorem pos_le : ∀ (S : List Sr) (L : List LB.Lab), pos S L ≤ S.length
  | [], _ => Nat.le_refl _
  | x :: S, L => by
    unfold pos
    split
    · have := pos_le S L; simp only [List.length_cons]; omega
    · exact Nat.zero_le _

theorem at_cons (x : Sr) (S : List Sr) (i : Nat) : atSr (x :: S) (i + 1) = atSr S i := by simp [atSr]
theorem at_zero (x : Sr) (S : List Sr) : atSr (x :: S) 0 = x := rfl

theorem at_mem (S : List Sr) (i : Nat) (h : i < S.length) : atSr S i ∈ S := by
  unfold atSr
  rw [List.getD_eq_getElem?_getD, List.getElem?_eq_getElem h]
  exact List.getElem_mem h

theorem at_get (S : List Sr) (i : Nat) (h : i < S.length) : S[i]'h = atSr S i := by
  unfold atSr
  rw [List.getD_eq_getElem?_getD, List.getElem?_eq_getElem h]
  rfl

theorem mem_at {S : List Sr} {x : Sr} (h : x ∈ S) : ∃ i, i < S.length ∧ atSr S i = x := by
  obtain ⟨i, hi, e⟩ := List.mem_iff_getElem.1 h
  exact ⟨i, hi, by rw [← at_get S i hi]; exact e⟩

/-- Ahead of it: smaller. -/
theorem pos_lt : ∀ (S : List Sr) (L : List LB.Lab) (i : Nat), i < pos S L → LB.cmp (atSr S i).1 L = -1
  | [], _, i, h => by simp [pos] at h
  | x :: S, L, i, h => by
    unfold pos at h
    split at h
    · rename_i hc
      match i with
      | 0 => exact hc
      | i + 1 => rw [at_cons]; exact pos_lt S L i (by omega)
    · omega

theorem pos_at : ∀ (S : List Sr) (L : List LB.Lab), pos S L < S.length → LB.cmp (atSr S (pos S L)).1 L ≠ -1
  | [], _, h => by simp at h
  | x :: S, L, h => by
    unfold pos at h ⊢
    by_cases hc : LB.cmp x.1 L = -1
    · rw [if_pos hc] at h ⊢
      rw [at_cons]
      exact pos_at S L (by simpa using h)
    · rw [if_neg hc, at_zero]
      exact hc

theorem ord_at {S : List Sr} (h : Ord S) (i j : Nat) (hij : i < j) (hj : j < S.length) : LB.cmp (atSr S i).1 (atSr S j).1 = -1 := by
  have := List.pairwise_iff_getElem.1 h i j (by omega) hj hij
  rw [at_get S i (by omega), at_get S j hj] at this
  exact this

theorem cmp_ge {a b : List LB.Lab} (h : LB.cmp a b ≠ -1) : LB.cmp a b = 0 ∨ LB.cmp a b = 1 := by
  rcases LB.cmp_ord.rng a b with h1 | h1 | h1
  · exact absurd h1 h
  · exact .inl h1
  · exact .inr h1

theorem cmp_flip {a b : List LB.Lab} (h : LB.cmp a b = -1) : LB.cmp b a = 1 := by rw [LB.cmp_ord.anti a b, h]; rfl
theorem cmp_flip' {a b : List LB.Lab} (h : LB.cmp a b = 1) : LB.cmp b a = -1 := by rw [LB.cmp_ord.anti a b, h]
theorem cmp_eq {a b : List LB.Lab} (h : LB.cmp a b = 0) : a = b := (LB.cmp_ord.zero a b).1 h
theorem cmp_refl (a : List LB.Lab) : LB.cmp a a = 0 := (LB.cmp_ord.zero a a).2 rfl

/-- From it on: not smaller; behind it: greater. -/
theorem pos_gt {S : List Sr} (h : Ord S) (L : List LB.Lab) (i : Nat) (hp : pos S L < i) (hi : i < S.length) : LB.cmp (atSr S i).1 L = 1 := by
  have h1 := pos_at S L (by omega)
  have h2 := ord_at h (pos S L) i hp hi
  rcases cmp_ge h1 with h3 | h3
  · rw [cmp_eq h3] at h2
    exact cmp_flip h2
  · exact cmp_flip (LB.cmp_ord.tr _ _ _ (cmp_flip' h3) h2)

theorem pos_ge {S : List Sr} (h : Ord S) (L : List LB.Lab) (i : Nat) (hp : pos S L ≤ i) (hi : i < S.length) : LB.cmp (atSr S i).1 L ≠ -1 := by
  by_cases e : pos S L = i
  · subst e; exact pos_at S L hi
  · rw [pos_gt h L i (by omega) hi]; decide

/-- It is the one place of that kind. -/
theorem pos_of {S : List Sr} (_h : Ord S) (L : List LB.Lab) (k : Nat) (hk : k ≤ S.length) (h1 : ∀ i, i < k → LB.cmp (atSr S i).1 L = -1) (h2 : ∀ i, k ≤ i → i < S.length → LB.cmp (atSr S i).1 L ≠ -1) : k = pos S L := by
  have hp := pos_le S L
  rcases Nat.lt_trichotomy k (pos S L) with h3 | h3 | h3
  · exact absurd (pos_lt S L k h3) (h2 k (Nat.le_refl _) (by omega))
  · exact h3
  · exact absurd (h1 (pos S L) h3) (pos_at S L (by omega))

def there (S : List Sr) (L : List LB.Lab) : Bool := decide (pos S L < S.length ∧ LB.cmp (atSr S (pos S L)).1 L = 0)

theorem there_iff {S : List Sr} (h : Ord S) (L : List LB.Lab) : there S L = true ↔ ∃ i, i < S.length ∧ LB.cmp (atSr S i).1 L = 0 := by
  unfold there
  rw [decide_eq_true_iff]
  constructor
  · rintro ⟨h1, h2⟩; exact ⟨_, h1, h2⟩
  · rintro ⟨i, h1, h2⟩
    have : i = pos S L := by
      rcases Nat.lt_trichotomy i (pos S L) with h3 | h3 | h3
      · rw [pos_lt S L i h3] at h2; simp at h2
      · exact h3
      · rw [pos_gt h L i h3 h1] at h2; simp at h2
    subst this
    exact ⟨h1, h2⟩

theorem there_pos {S : List Sr} (h : Ord S) (L : List LB.Lab) (i : Nat) (hi : i < S.length) (hc : LB.cmp (atSr S i).1 L = 0) : i = pos S L := by
  rcases Nat.lt_trichotomy i (pos S L) with h3 | h3 | h3
  · rw [pos_lt S L i h3] at hc; simp at hc
  · exact h3
  · rw [pos_gt h L i h3 hi] at hc; simp at hc

/-- The last time of a series. -/
def lastT (x : Sr) : Int := (CL.at' x.2 (x.2.length - 1)).1
def firstT (x : Sr) : Int := (CL.at' x.2 0).1

/-- What is wrong with a series that comes: 0: nothing. -/
def err (mark : Int) (S : List Sr) (x : Sr) : Int :=
  if LB.right x.1 = false ∨ CL.right x.2 = false ∨ x.2.length = 0 then 1
  else if firstT x ≤ mark then 10
  else if there S x.1 = true then
    (if firstT x ≤ lastT (atSr S (pos S x.1)) then 10
    else if 2000 < (atSr S (pos S x.1)).2.length + x.2.length then 12 else 0)
  else if 60 ≤ S.length then 12 else 0

/-- What is there behind it. -/
def nxt (S : List Sr) (x : Sr) : List Sr :=
  if there S x.1 = true then S.set (pos S x.1) ((atSr S (pos S x.1)).1, (atSr S (pos S x.1)).2 ++ x.2)
  else S.insertIdx (pos S x.1) x

/-- A series that may be in a head. -/
def OkS (x : Sr) : Prop := LB.right x.1 = true ∧ CL.right x.2 = true ∧ 0 < x.2.length ∧ ∀ s ∈ x.2, CL.Rs s

structure Good (S : List Sr) : Prop where
  ord : Ord S
  few : S.length ≤ 60
  ok : ∀ x ∈ S, OkS x

theorem Good.nil : Good [] := ⟨List.Pairwise.nil, by simp, fun x h => by simp at h⟩

theorem right_app (a b : List CL.Smp) (ha : CL.right a = true) (hb : CL.right b = true) (h0 : 0 < a.length) (_hb0 : 0 < b.length) (hlt : (CL.at' a (a.length - 1)).1 < (CL.at' b 0).1) (hn : a.length + b.length ≤ 2000) : CL.right (a ++ b) = true := by
  refine CL.right_of _ (by rw [List.length_append]; exact hn) fun i hi => ?_
  rw [CL.okAt_iff]
  rw [CL.right_iff] at ha hb
  have hl : ∀ k, k < a.length → CL.at' (a ++ b) k = CL.at' a k := fun k hk => by
    unfold CL.at'
    rw [List.getD_eq_getElem?_getD, List.getD_eq_getElem?_getD, List.getElem?_append_left hk]
  have hr : ∀ k, CL.at' (a ++ b) (a.length + k) = CL.at' b k := fun k => by
    unfold CL.at'
    rw [List.getD_eq_getElem?_getD, List.getD_eq_getElem?_getD, List.getElem?_append_right (Nat.le_add_right _ _)]
    simp
  rw [List.length_append] at hi
  by_cases h1 : i < a.length
  · have h2 := (CL.okAt_iff a i).1 (ha.2 i h1)
    rw [hl i h1]
    refine ⟨h2.1, ?_⟩
    rcases h2.2 with h3 | h3
    · exact .inl h3
    · by_cases h4 : i = 0
      · exact .inl h4
      · rw [hl (i - 1) (by omega)]; exact .inr h3
  · obtain ⟨k, rfl⟩ : ∃ k, i = a.length + k := ⟨i - a.length, by omega⟩
    have h2 := (CL.okAt_iff b k).1 (hb.2 k (by omega))
    rw [hr k]
    refine ⟨h2.1, .inr ?_⟩
    by_cases h4 : k = 0
    · subst h4
      rw [Nat.add_zero, hl _ (by omega)]
      exact hlt
    · have e : a.length + k - 1 = a.length + (k - 1) := by omega
      rw [e, hr (k - 1)]
      rcases h2.2 with h3 | h3
      · omega
      · exact h3

theorem insert_ord {S : List Sr} (h : Ord S) (x : Sr) (hn : there S x.1 = false) : Ord (S.insertIdx (pos S x.1) x) := by
  induction S with
  | nil => simp [pos, Ord]
  | cons y S ih =>
    have h1 := List.pairwise_cons.1 h
    unfold pos
    by_cases hc : LB.cmp y.1 x.1 = -1
    · rw [if_pos hc, List.insertIdx_succ_cons]
      have hn' : there S x.1 = false := by
        rcases hb : there S x.1 with _ | _
        · rfl
        · obtain ⟨i, h2, h3⟩ := (there_iff h1.2 x.1).1 hb
          have : there (y :: S) x.1 = true := (there_iff h x.1).2 ⟨i + 1, by simpa using h2, by rw [at_cons]; exact h3⟩
          rw [this] at hn; simp at hn
      refine List.pairwise_cons.2 ⟨fun z hz => ?_, ih h1.2 hn'⟩
      rcases (List.mem_insertIdx (pos_le S x.1)).1 hz with e | e
      · rw [e]; exact hc
      · exact h1.1 z e
    · rw [if_neg hc, List.insertIdx_zero]
      have hgt : LB.cmp x.1 y.1 = -1 := by
        rcases cmp_ge hc with h2 | h2
        · have : there (y :: S) x.1 = true := (there_iff h x.1).2 ⟨0, by simp, h2⟩
          rw [this] at hn; simp at hn
        · exact cmp_flip' h2
      refine List.pairwise_cons.2 ⟨fun z hz => ?_, h⟩
      rcases List.mem_cons.1 hz with e | e
      · rw [e]; exact hgt
      · exact LB.cmp_ord.tr _ _ _ hgt (h1.1 z e)

theorem set_ord {S : List Sr} (h : Ord S) (k : Nat) (y : Sr) (_hk : k < S.length) (e : y.1 = (atSr S k).1) : Ord (S.set k y) := by
  unfold Ord
  rw [List.pairwise_iff_getElem]
  intro i j hi hj hij
  rw [List.length_set] at hi hj
  have key : ∀ m (hm : m < S.length), ((S.set k y)[m]'(by rw [List.length_set]; exact hm)).1 = (atSr S m).1 := by
    intro m hm
    rw [List.getElem_set]
    split
    · rename_i h2; subst h2; exact e
    · rw [at_get]
  rw [key i hi, key j hj]
  exact ord_at h i j hij hj

theorem err_ok {mark : Int} {S : List Sr} {x : Sr} (h : err mark S x = 0) : LB.right x.1 = true ∧ CL.right x.2 = true ∧ 0 < x.2.length ∧ mark < firstT x ∧ ((there S x.1 = true ∧ lastT (atSr S (pos S x.1)) < firstT x ∧ (atSr S (pos S x.1)).2.length + x.2.length ≤ 2000) ∨ (there S x.1 = false ∧ S.length < 60)) := by
  unfold err at h
  split at h
  · simp at h
  · rename_i h1
    have h1' : LB.right x.1 = true ∧ CL.right x.2 = true ∧ 0 < x.2.length := by
      refine ⟨?_, ?_, ?_⟩
      · rcases hb : LB.right x.1 with _ | _
        · exact absurd (.inl hb) h1
        · rfl
      · rcases hb : CL.right x.2 with _ | _
        · exact absurd (.inr (.inl hb)) h1
        · rfl
      · rcases Nat.eq_zero_or_pos x.2.length with hb | hb
        · exact absurd (.inr (.inr hb)) h1
        · exact hb
    refine ⟨h1'.1, h1'.2.1, h1'.2.2, ?_⟩
    split at h
    · simp at h
    · rename_i h2
      refine ⟨by omega, ?_⟩
      split at h
      · rename_i h3
        split at h
        · simp at h
        · rename_i h4
          split at h
          · simp at h
          · rename_i h5
            exact .inl ⟨h3, by omega, by omega⟩
      · rename_i h3
        split at h
        · simp at h
        · rename_i h4
          exact .inr ⟨by simpa using h3, by omega⟩

theorem nxt_good {mark : Int} {S : List Sr} {x : Sr} (h : Good S) (he : err mark S x = 0) (hR : ∀ s ∈ x.2, CL.Rs s) : Good (nxt S x) := by
  obtain ⟨h1, h2, h3, h4, h5⟩ := err_ok he
  unfold nxt
  rcases h5 with ⟨h6, h7, h8⟩ | ⟨h6, h7⟩
  · rw [if_pos h6]
    have hp : pos S x.1 < S.length := (decide_eq_true_iff.1 h6).1
    have hy := h.ok _ (at_mem S _ hp)
    refine ⟨set_ord h.ord _ _ hp rfl, by rw [List.length_set]; exact h.few, fun z hz => ?_⟩
    rcases List.mem_or_eq_of_mem_set hz with e | e
    · exact h.ok z e
    · rw [e]
      refine ⟨hy.1, right_app _ _ hy.2.1 h2 hy.2.2.1 h3 h7 h8, by simp only [List.length_append]; omega, fun s hs => ?_⟩
      rcases List.mem_append.1 hs with e | e
      · exact hy.2.2.2 s e
      · exact hR s e
  · rw [if_neg (by rw [h6]; decide)]
    refine ⟨insert_ord h.ord x h6, ?_, fun z hz => ?_⟩
    · rw [List.length_insertIdx]; split <;> omega
    · rcases (List.mem_insertIdx (pos_le S x.1)).1 hz with e | e
      · rw [e]; exact ⟨h1, h2, h3, hR⟩
      · exact h.ok z e

/-- What comes of series that come one by one: at the first that may not, what is wrong, and where. -/
def run (mark : Int) : List Sr → List Sr → Nat → Option (Int × Nat) × List Sr
  | S, [], _ => (none, S)
  | S, x :: l, i => if err mark S x = 0 then run mark (nxt S x) l (i + 1) else (some (err mark S x, i), S)

def total (l : List Sr) : Nat := (l.map fun x => x.2.length).sum

theorem total_take (l : List Sr) (i : Nat) (h : i < l.length) : total (l.take (i + 1)) = total (l.take i) + (atSr l i).2.length := by
  unfold total
  rw [List.take_succ_eq_append_getElem h, List.map_append, List.sum_append, at_get]
  simp

theorem total_le (l : List Sr) (i : Nat) : total (l.take i) ≤ total l := by
  conv => rhs; rw [← List.take_append_drop i l]
  unfold total
  rw [List.map_append, List.sum_append]
  omega

theorem run_drop (mark : Int) (S l : List Sr) (i : Nat) (h : i < l.length) : run mark S (l.drop i) i = if err mark S (atSr l i) = 0 then run mark (nxt S (atSr l i)) (l.drop (i + 1)) (i + 1) else (some (err mark S (atSr l i), i), S) := by
  rw [List.drop_eq_getElem_cons h, at_get]
  rfl

/-- What Append tells: what is wrong (0: nothing) and where (-1: nowhere); and what is there. -/
def app (mark : Int) (S l : List Sr) : (Int × Int) × List Sr :=
  if 40 < total l then ((4, -1), S)
  else match run mark S l 0 with
    | (none, S') => ((0, -1), S')
    | (some (e, i), _) => ((e, (i : Int)), S)

theorem run_good {mark : Int} : ∀ {S l : List Sr} {i : Nat}, Good S → (∀ x ∈ l, ∀ s ∈ x.2, CL.Rs s) → Good (run mark S l i).2
  | S, [], _, h, _ => h
  | S, x :: l, i, h, hR => by
    unfold run
    split
    · rename_i he
      exact run_good (nxt_good h he (hR x (by simp))) (fun y hy => hR y (by simp [hy]))
    · exact h

theorem app_good {mark : Int} {S l : List Sr} (h : Good S) (hR : ∀ x ∈ l, ∀ s ∈ x.2, CL.Rs s) : Good (app mark S l).2 := by
  unfold app
  split
  · exact h
  · have := run_good (mark := mark) (i := 0) h hR
    split
    · rename_i e; rw [e] at this; exact this
    · exact h

/-- Samples that p holds of; series without samples are none. -/
def keepS (p : List LB.Lab → Int → Bool) (x : Sr) : Sr := (x.1, x.2.filter fun s => p x.1 s.1)
def kp (p : List LB.Lab → Int → Bool) (S : List Sr) : List Sr := (S.map (keepS p)).filter fun x => decide (0 < x.2.length)

theorem kp_snoc (p : List LB.Lab → Int → Bool) (S : List Sr) (i : Nat) (h : i < S.length) : kp p (S.take (i + 1)) = kp p (S.take i) ++ (if 0 < (keepS p (atSr S i)).2.length then [keepS p (atSr S i)] else []) := by
  unfold kp
  rw [List.take_succ_eq_append_getElem h, List.map_append, List.filter_append, at_get]
  congr 1
  simp only [List.map_cons, List.map_nil, List.filter_cons, List.filter_nil, decide_eq_true_eq]

theorem right_filter (l : List CL.Smp) (q : CL.Smp → Bool) (h : CL.right l = true) : CL.right (l.filter q) = true := by
  have key : ∀ (l : List CL.Smp), (CL.right l = true ↔ l.length ≤ 2000 ∧ l.Pairwise (fun a b => a.1 < b.1) ∧ ∀ s ∈ l, -1099511627776 ≤ s.1 ∧ s.1 ≤ 1099511627776) := by
    intro l
    rw [CL.right_iff]
    have ge : ∀ i (hi : i < l.length), CL.at' l i = l[i] := fun i hi => by
      unfold CL.at'; rw [List.getD_eq_getElem?_getD, List.getElem?_eq_getElem hi]; rfl
    constructor
    · rintro ⟨h1, h2⟩
      refine ⟨h1, ?_, fun s hs => ?_⟩
      · rw [List.pairwise_iff_getElem]
        have step : ∀ n i, i + n < l.length → 0 < n → (CL.at' l i).1 < (CL.at' l (i + n)).1 := by
          intro n
          induction n with
          | zero => intro i _ h; omega
          | succ n ih =>
            intro i hi _
            have h3 := ((CL.okAt_iff l (i + (n + 1))).1 (h2 _ hi)).2
            have h4 : (CL.at' l (i + n)).1 < (CL.at' l (i + (n + 1))).1 := by
              rcases h3 with h3 | h3
              · omega
              · exact h3
            by_cases hn : n = 0
            · subst hn; exact h4
            · have := ih i (by omega) (by omega); omega
        intro i j hi hj hij
        have := step (j - i) i (by omega) (by omega)
        rw [show i + (j - i) = j by omega, ge i hi, ge j hj] at this
        exact this
      · obtain ⟨i, hi, e⟩ := List.mem_iff_getElem.1 hs
        have := ((CL.okAt_iff l i).1 (h2 i hi)).1
        rw [ge i hi, e] at this
        exact this
    · rintro ⟨h1, h2, h3⟩
      refine ⟨h1, fun i hi => (CL.okAt_iff l i).2 ⟨?_, ?_⟩⟩
      · rw [ge i hi]; exact h3 _ (List.getElem_mem hi)
      · by_cases h0 : i = 0
        · exact .inl h0
        · right
          rw [ge i hi, ge (i - 1) (by omega)]
          exact List.pairwise_iff_getElem.1 h2 (i - 1) i (by omega) hi (by omega)
  rw [key] at h ⊢
  exact ⟨Nat.le_trans (List.length_filter_le _ _) h.1, h.2.1.filter _, fun s hs => h.2.2 s (List.mem_filter.1 hs).1⟩

theorem kp_good {p : List LB.Lab → Int → Bool} {S : List Sr} (h : Good S) : Good (kp p S) := by
  refine ⟨?_, ?_, fun x hx => ?_⟩
  · unfold Ord kp
    refine List.Pairwise.filter _ ?_
    rw [List.pairwise_map]
    exact h.ord
  · exact Nat.le_trans (List.length_filter_le _ _) (by rw [List.length_map]; exact h.few)
  · unfold kp at hx
    obtain ⟨h1, h2⟩ := List.mem_filter.1 hx
    obtain ⟨y, hy, rfl⟩ := List.mem_map.1 h1
    have := h.ok y hy
    exact ⟨this.1, right_filter _ _ this.2.1, by simpa using h2, fun s hs => this.2.2.2 s (List.mem_filter.1 hs).1⟩

end HD
end Go.Proofs.YtdmnlmohfaafoaeGreatDoor

namespace Go.Proofs.YtdmnlmohfaafoaeGreatDoor
open Go.RowKit

theorem list_take_three {α : Type} (a b c : List α) (n : Nat) (h : n = a.length + b.length) : (a ++ b ++ c).take n = a ++ b := by
  rw [h, ← List.length_append, List.take_left]

/-- append onto a row of one's own: the row as it was is still there, below. -/
theorem append_both {P : Program} (w : World) (base : Nat) (t ty e : TypeId) (i : TypeInfo) (z : Value) (size bytes : Nat) (ht : P.underlying t = some (.slice e)) (hi : P.info? e = some i) (hz : i.zero = some z)
    (hsize : i.size = size) (hby : i.bytes = bytes) (hzs : z.cells.size = size) (hsz : 0 < size)
    (v : Value) (n : Nat) (xs : List Value) (hown : w.ownsRow base e size v n xs)
    (a : Addr) (m c : Nat) (news : List Value) (hm : 0 < m) (hl : news.length = m * size) (hnews : ∀ j u, news[j]? = some u → w.cell? (a.add j) = some u) (h1 : ∀ u ∈ news, u.oneCell' = true)
    (h63 : n + m ≤ maxLen) (hbytes : (n + m) * bytes ≤ 140737488355328) (hbase : base ≤ w.heap.size) :
    ∃ v' w', (Builtin.append_ #[t, t] ty #[v, .slice (some a) m c]).run P w = .ok v' w' ∧ w'.ownsRow base e size v' (n + m) (xs ++ news) ∧ w'.ownsRow base e size v n xs ∧ w.grownBy w' v.ownBlock ∧
      (v'.ownBlock = v.ownBlock ∨ v'.ownBlock = some w.heap.size) := by
  obtain ⟨v', w', hrun, ho, hg, hnil⟩ := run_append_own (P := P) w base t ty e i z size bytes ht hi hz hsize hby hzs hsz v n xs hown a m c news hl hnews h1 h63 hbytes hbase
  refine ⟨v', w', hrun, ho, ?_⟩
  have hsrc : Src P i.size t (.slice (some a) m c) m news w := Src.ofSlice w ht a m c news (by rw [hsize]; exact hl) hnews h1
  have h63' : ((n + m : Nat) : Int) ≤ 9223372036854775807 := by unfold maxLen at h63; omega
  have hown0 := hown
  rcases hown.2 with ⟨rfl, h0⟩ | ⟨g, cap, cur, rfl, h2, hc, h3, h4, h5, h6⟩
  · subst h0
    have hr := run_append_grow_src (P := P) w t t ty e i z ht hi hz none 0 0 [] (run_firstCells_none w.drew i.size 0 0 0) (.slice (some a) m c) m news hsrc (by omega) h63' (by rw [hby]; exact growslice_fits (by omega) hbytes)
    rw [hr] at hrun
    cases hrun
    exact ⟨⟨hown.1, .inl ⟨rfl, rfl⟩⟩, hg, .inr rfl⟩
  · by_cases hroom : n + m ≤ cap
    · have hfit : n * i.size + news.length ≤ cur.size := by
        rw [hsize, hl, h5, ← Nat.add_mul]
        exact Nat.mul_le_mul_right _ hroom
      have hr := run_append_room (P := P) w t ty e i ht hi g n cap cur hc a m c news (by rw [hsize]; exact hl) hnews h1 hroom hfit
      rw [hr] at hrun
      cases hrun
      refine ⟨⟨hown0.1, .inr ⟨g, cap, _, rfl, h2, setRow_heap w g cur _ e _ hc, h3, h4, ?_, ?_⟩⟩, hg, .inl rfl⟩
      · rw [← h5]
        have : (cur.toList.take (n * i.size) ++ news ++ cur.toList.drop (n * i.size + news.length)).length = cur.size := by
          simp only [List.length_append, List.length_take, List.length_drop, Array.length_toList]
          omega
        simpa using this
      · have hle : n * size ≤ cur.size := by rw [h5]; exact Nat.mul_le_mul_right _ h3
        rw [List.toList_toArray, List.append_assoc, hsize, List.take_append_of_le_length (by rw [List.length_take, Array.length_toList]; omega), List.take_take, Nat.min_self]
        exact h6
    · have hold : (Builtin.firstCells i.size n (.slice (some ⟨g, 0, none⟩) n cap)).run P w.drew = .ok xs.toArray w.drew := by
        rw [hsize]
        exact run_firstCells_some w.drew size n ⟨g, 0, none⟩ n cap xs hown0.1 (fun j u hj => hown0.cells (g := g) rfl j u hj)
      have hr := run_append_grow_src (P := P) w t t ty e i z ht hi hz (some ⟨g, 0, none⟩) n cap xs hold (.slice (some a) m c) m news hsrc (by omega) h63' (by rw [hby]; exact growslice_fits (by omega) hbytes)
      rw [hr] at hrun
      cases hrun
      refine ⟨⟨hown0.1, .inr ⟨g, cap, cur, rfl, h2, ?_, h3, h4, h5, h6⟩⟩, hg, .inr rfl⟩
      exact (Below.heap_alloc w.drew _ g (heap_lt hc)).trans hc

/-- copy of elements of many cells into a row. -/
theorem run_copy_many {P : Program} (w : World) (dT sT ty elem : TypeId) (g o dLen dCap : Nat) (a : Addr) (sLen sCap size : Nat) (cur : Array Value) (t : TypeId) (cs : List Value)
    (hu : P.underlying dT = some (.slice elem)) (hs : (P.info? elem).map (·.size) = some size)
    (hg : w.heap[g]? = some (.cells cur t (0, 0))) (hn : cs.length = Nat.min sLen dLen * size)
    (hsrc : ∀ j v, cs[j]? = some v → w.cell? (a.add j) = some v) (hfit : o + cs.length ≤ cur.size) (h1 : ∀ v ∈ cs, v.oneCell' = true) :
    (Builtin.copy_ #[dT, sT] ty #[.slice (some ⟨g, o, none⟩) dLen dCap, .slice (some a) sLen sCap]).run P w =
      .ok (goInt (Nat.min sLen dLen)) (w.setRow g (cur.toList.take o ++ cs ++ cur.toList.drop (o + cs.length)).toArray) := by
  have hl := run_loadCells_list (P := P) w a cs hsrc
  have hst := run_storeCells_at P g o t cs 0 cur w hg (by simpa using hfit) h1
  cases hq : P.info? elem with
  | none => simp [hq] at hs
  | some i =>
    have hi : i.size = size := by simpa [hq] using hs
    simp [Builtin.copy_, run_underlying hu, Builtin.lenOf, Builtin.firstCells, sizeOf, typeInfo, hq, hi, ← hn, hl, hst]

/-- The operation copy where its run is known by an equation. -/
theorem wpList_copy_eqn {P : Program} (w : World) {ops : Array Oper} {rest : List Oper} {o : Oper} {a : Act} {Q : Exit → Act → World → Prop} (hgd : o.guard = none) (d s : Operand) (t t' : TypeId)
    (ho : o.op = .call { callee := .builtin .copy, args := #[d, s], argTypes := #[t, t'] }) (v u : Value) (hd : a.eval d = v) (hs : a.eval s = u) {v' : Value} {w' : World}
    (hr : (Builtin.copy_ #[t, t'] o.type #[v, u]).run P w = .ok v' w') (h : wpList P ops Q rest (a.put o.dst v') w') : wpList P ops Q (o :: rest) a w :=
  wpList_plain hgd fun _ hK => by
    unfold Oper.wp execOp
    simp only [ho, resolve, invoke, builtin, Sem.run_bind, Sem.run_pure, Result.andThen_ok, List.map_toArray, List.map_cons, List.map_nil, hd, hs, hr]
    exact hK _ _ h

/-- .. and as one step of a region that draws. -/
theorem step_copy_eqn {P : Program} {ops : Array Oper} {o : Oper} {a : Act} {w : World} {K : Act → World → Prop} {Q : Exit → Act → World → Prop} {E : Prop}
    (hg : o.guard = none) (d x : Operand) (dT sT : TypeId) (hop : o.op = Op.call { callee := Callee.builtin Builtin.copy, args := #[d, x], argTypes := #[dT, sT] })
    (v u : Value) (hd : a.eval d = v) (hx : a.eval x = u) {v' : Value} {w' : World} (hr : (Builtin.copy_ #[dT, sT] o.type #[v, u]).run P w = .ok v' w') (hK : K (a.put o.dst v') w') :
    if Region.wanted o (yielded ops a.tmps) = true then Oper.wp P o a w K Q else E := by
  have hw : Region.wanted o (yielded ops a.tmps) = true := by simp [Region.wanted, hg]
  rw [if_pos hw]
  unfold Oper.wp
  simp [execOp, hop, resolve, invoke, builtin, hd, hx, hr, Result.andThen]
  exact hK

/-- append, where its run is known by an equation, as one step of a region that draws. -/
theorem step_append_eqn {P : Program} {ops : Array Oper} {o : Oper} {a : Act} {w : World} {K : Act → World → Prop} {Q : Exit → Act → World → Prop} {E : Prop}
    (hg : o.guard = none) (d x : Operand) (dT sT : TypeId) (hop : o.op = Op.call { callee := Callee.builtin Builtin.append, args := #[d, x], argTypes := #[dT, sT] })
    (v u : Value) (hd : a.eval d = v) (hx : a.eval x = u) {v' : Value} {w' : World} (hr : (Builtin.append_ #[dT, sT] o.type #[v, u]).run P w = .ok v' w') (hK : K (a.put o.dst v') w') :
    if Region.wanted o (yielded ops a.tmps) = true then Oper.wp P o a w K Q else E := by
  have hw : Region.wanted o (yielded ops a.tmps) = true := by simp [Region.wanted, hg]
  rw [if_pos hw]
  unfold Oper.wp
  simp [execOp, hop, resolve, invoke, builtin, hd, hx, hr, Result.andThen]
  exact hK

end Go.Proofs.YtdmnlmohfaafoaeGreatDoor

namespace Go.Proofs.YtdmnlmohfaafoaeGreatDoor
open Go.RowKit

/-- All that was there is as it was, but for the blocks Z. -/
structure ZFr (Z : Nat → Prop) (w w' : World) : Prop where
  os : w'.os = w.os
  tape : w'.tape = w.tape
  output : w'.output = w.output
  size : w.heap.size ≤ w'.heap.size
  block : ∀ j, j < w.heap.size → ¬ Z j → w'.heap[j]? = w.heap[j]?

theorem ZFr.refl (Z : Nat → Prop) (w : World) : ZFr Z w w := ⟨rfl, rfl, rfl, Nat.le_refl _, fun _ _ _ => rfl⟩

theorem ZFr.trans {Z : Nat → Prop} {a b c : World} (h : ZFr Z a b) (k : ZFr Z b c) : ZFr Z a c :=
  ⟨k.os.trans h.os, k.tape.trans h.tape, k.output.trans h.output, Nat.le_trans h.size k.size, fun j hj hn => (k.block j (Nat.lt_of_lt_of_le hj h.size) hn).trans (h.block j hj hn)⟩

/-- .. also where the second may turn what was made behind the first. -/
theorem ZFr.trans' {Z Z' : Nat → Prop} {a b c : World} (h : ZFr Z a b) (k : ZFr Z' b c) (hz : ∀ j, j < a.heap.size → Z' j → Z j) : ZFr Z a c :=
  ⟨k.os.trans h.os, k.tape.trans h.tape, k.output.trans h.output, Nat.le_trans h.size k.size, fun j hj hn => (k.block j (Nat.lt_of_lt_of_le hj h.size) (fun e => hn (hz j hj e))).trans (h.block j hj hn)⟩

theorem ZFr.below {Z : Nat → Prop} {w w' : World} (h : Below w.heap.size w w') : ZFr Z w w' := ⟨h.os, h.tape, h.output, h.size, fun j hj _ => h.block j hj⟩

theorem ZFr.low {Z : Nat → Prop} {w w' : World} (h : ZFr Z w w') {B : Nat} (hB : B ≤ w.heap.size) (hz : ∀ j, Z j → B ≤ j) : Below B w w' := ⟨h.os, h.tape, h.output, h.size, fun j hj => h.block j (by omega) (fun e => by have := hz j e; omega)⟩

theorem bel2 {a b c : World} (h : Below a.heap.size a b) (k : Below b.heap.size b c) : Below a.heap.size a c := h.trans (k.mono h.size)

theorem hfz {w : World} {B : Nat} {c : Array Value} {T : TypeId} (h : w.heap[B]? = some (.cells c T)) (j : Nat) : w.frozen? ⟨B, j, none⟩ = false := by simp [World.frozen?, h]

/-- A store elsewhere. -/
theorem own_set {w : World} {base n size : Nat} {e : TypeId} {v : Value} {xs : List Value} (h : w.ownsRow base e size v n xs) {r : Nat} (hr : v.ownBlock ≠ some r) (o : Nat) (u : Value) : (w.setCell ⟨r, o, none⟩ u).ownsRow base e size v n xs := by
  refine ⟨h.1, ?_⟩
  rcases h.2 with h0 | ⟨g, cap, cur, rfl, a1, a2, a3⟩
  · exact .inl h0
  · exact .inr ⟨g, cap, cur, rfl, a1, (Below.heap_setCell w ⟨r, o, none⟩ u g (fun e => hr (congrArg some e))).trans a2, a3⟩

theorem own_far {w : World} {base n size : Nat} {e : TypeId} {v : Value} {xs : List Value} (h : w.ownsRow base e size v n xs) {r : Nat} (hr : r < base) : v.ownBlock ≠ some r := fun e => by have := (h.lt r e).1; omega

/-- What may turn, and what is new. -/
def wid (Z : Nat → Prop) (w w' : World) : Nat → Prop := fun j => Z j ∨ (w.heap.size ≤ j ∧ j < w'.heap.size)

abbrev nilP : Value × Value := (.nilIface, .nilIface)

abbrev flat (xs : List (Value × Value)) : List Value := xs.flatMap fun p => [p.1, p.2]

abbrev atX (xs : List (Value × Value)) (i : Nat) : Value × Value := xs.getD i nilP

theorem flat_length (xs : List (Value × Value)) : (flat xs).length = xs.length * 2 := by
  induction xs with
  | nil => rfl
  | cons s l ih => simp only [flat, List.flatMap_cons, List.length_append, List.length_cons, List.length_nil] at ih ⊢; omega

theorem flat_cons (p : Value × Value) (xs : List (Value × Value)) : flat (p :: xs) = p.1 :: p.2 :: flat xs := rfl

theorem flat_append (a b : List (Value × Value)) : flat (a ++ b) = flat a ++ flat b := by simp [flat]

theorem flat_get (xs : List (Value × Value)) : ∀ i, i < xs.length → (flat xs)[i * 2]? = some (atX xs i).1 ∧ (flat xs)[i * 2 + 1]? = some (atX xs i).2 := by
  induction xs with
  | nil => intro i hi; simp at hi
  | cons s l ih =>
    intro i hi
    match i with
    | 0 => exact ⟨rfl, rfl⟩
    | i + 1 =>
      obtain ⟨h1, h2⟩ := ih i (by simpa using hi)
      have e1 : (i + 1) * 2 = i * 2 + 2 := by omega
      rw [flat_cons, e1]
      exact ⟨h1, h2⟩

theorem flat_set (xs : List (Value × Value)) (u : Value) : ∀ i, (flat xs).set (i * 2 + 1) u = flat (xs.set i ((atX xs i).1, u)) := by
  induction xs with
  | nil => intro i; rfl
  | cons s l ih =>
    intro i
    match i with
    | 0 => rfl
    | i + 1 =>
      have e1 : (i + 1) * 2 + 1 = (i * 2 + 1) + 2 := by omega
      rw [flat_cons, e1]
      show s.1 :: s.2 :: (flat l).set (i * 2 + 1) u = _
      rw [ih i]
      rfl

theorem atX_mem {xs : List (Value × Value)} {i : Nat} (h : i < xs.length) : atX xs i ∈ xs := by
  unfold atX
  rw [List.getD_eq_getElem?_getD, List.getElem?_eq_getElem h]
  exact List.getElem_mem h

theorem atX_set (xs : List (Value × Value)) (k i : Nat) (p : Value × Value) (hk : k < xs.length) : atX (xs.set k p) i = if i = k then p else atX xs i := by
  unfold atX
  rw [List.getD_eq_getElem?_getD, List.getD_eq_getElem?_getD, List.getElem?_set]
  by_cases h : k = i
  · subst h; rw [if_pos rfl, if_pos rfl, if_pos hk]; rfl
  · rw [if_neg h, if_neg (fun e => h e.symm)]

theorem atSr_set (S : List Sr) (k i : Nat) (p : Sr) (hk : k < S.length) : atSr (S.set k p) i = if i = k then p else atSr S i := by
  unfold atSr
  rw [List.getD_eq_getElem?_getD, List.getD_eq_getElem?_getD, List.getElem?_set]
  by_cases h : k = i
  · subst h; rw [if_pos rfl, if_pos rfl, if_pos hk]; rfl
  · rw [if_neg h, if_neg (fun e => h e.symm)]

/-- Series that lie there, none of them in Z. -/
def LOut (w : World) (Z : Nat → Prop) (ao : Option Addr) (l : List LB.Lab) : Prop := LRow w ao l ∧ ∀ a, ao = some a → 0 < l.length → ¬ Z a.block

def SOut (w : World) (Z : Nat → Prop) (ao : Option Addr) (l : List CL.Smp) : Prop := SRow w ao l ∧ ∀ a, ao = some a → 0 < l.length → ¬ Z a.block

def SrOut (w : World) (Z : Nat → Prop) (ao : Option Addr) (l : List Sr) : Prop :=
  ∀ i, i < l.length → ∃ b off, ao = some ⟨b, off, none⟩ ∧ b < w.heap.size ∧ ¬ Z b ∧ ∃ lo lc so sc, w.cell? ⟨b, off + i * 2, none⟩ = some (.slice lo (atSr l i).1.length lc) ∧ w.cell? ⟨b, off + i * 2 + 1, none⟩ = some (.slice so (atSr l i).2.length sc) ∧ LOut w Z lo (atSr l i).1 ∧ SOut w Z so (atSr l i).2

theorem SrOut.row {w : World} {Z : Nat → Prop} {ao : Option Addr} {l : List Sr} (h : SrOut w Z ao l) : SrRow w ao l := by
  intro i hi
  obtain ⟨b, off, h1, h2, _, lo, lc, so, sc, h3, h4, h5, h6⟩ := h i hi
  exact ⟨b, off, h1, h2, lo, lc, so, sc, h3, h4, h5.1, h6.1⟩

theorem zcell {Z : Nat → Prop} {w w' : World} (h : ZFr Z w w') {b o : Nat} (hb : b < w.heap.size) (hz : ¬ Z b) : w'.cell? ⟨b, o, none⟩ = w.cell? ⟨b, o, none⟩ := World.cell?_of_block (a := ⟨b, o, none⟩) (h.block b hb hz)

theorem LOut.kept {w w' : World} {Z : Nat → Prop} {ao : Option Addr} {l : List LB.Lab} (h : LOut w Z ao l) (hz : ZFr Z w w') : LOut w' Z ao l := by
  refine ⟨fun i hi => ?_, h.2⟩
  obtain ⟨b, off, h1, h2, h3, h4⟩ := h.1 i hi
  have hn : ¬ Z b := h.2 _ h1 (by omega)
  exact ⟨b, off, h1, (zcell hz h4 hn).trans h2, (zcell hz h4 hn).trans h3, Nat.lt_of_lt_of_le h4 hz.size⟩

theorem SOut.kept {w w' : World} {Z : Nat → Prop} {ao : Option Addr} {l : List CL.Smp} (h : SOut w Z ao l) (hz : ZFr Z w w') : SOut w' Z ao l := by
  refine ⟨fun i hi => ?_, h.2⟩
  obtain ⟨b, off, h1, h2, h3, h4⟩ := h.1 i hi
  have hn : ¬ Z b := h.2 _ h1 (by omega)
  exact ⟨b, off, h1, (zcell hz h4 hn).trans h2, (zcell hz h4 hn).trans h3, Nat.lt_of_lt_of_le h4 hz.size⟩

theorem SrOut.kept {w w' : World} {Z : Nat → Prop} {ao : Option Addr} {l : List Sr} (h : SrOut w Z ao l) (hz : ZFr Z w w') : SrOut w' Z ao l := by
  intro i hi
  obtain ⟨b, off, h1, h2, hn, lo, lc, so, sc, h3, h4, h5, h6⟩ := h i hi
  exact ⟨b, off, h1, Nat.lt_of_lt_of_le h2 hz.size, hn, lo, lc, so, sc, (zcell hz h2 hn).trans h3, (zcell hz h2 hn).trans h4, h5.kept hz, h6.kept hz⟩

/-- Z may grow by what is new. -/
theorem SrOut.wide {w : World} {Z Z' : Nat → Prop} {ao : Option Addr} {l : List Sr} (h : SrOut w Z ao l) (hz : ∀ j, Z' j → Z j ∨ w.heap.size ≤ j) : SrOut w Z' ao l := by
  intro i hi
  obtain ⟨b, off, h1, h2, hn, lo, lc, so, sc, h3, h4, h5, h6⟩ := h i hi
  have key : ∀ j, j < w.heap.size → ¬ Z j → ¬ Z' j := fun j hj hnz e => by
    rcases hz j e with e | e
    · exact hnz e
    · omega
  refine ⟨b, off, h1, h2, key b h2 hn, lo, lc, so, sc, h3, h4, ⟨h5.1, fun a ha h0 => ?_⟩, ⟨h6.1, fun a ha h0 => ?_⟩⟩
  · obtain ⟨b', _, e, _, _, h9⟩ := h5.1 0 h0
    rw [ha] at e; cases e
    exact key _ h9 (h5.2 _ ha h0)
  · obtain ⟨b', _, e, _, _, h9⟩ := h6.1 0 h0
    rw [ha] at e; cases e
    exact key _ h9 (h6.2 _ ha h0)

/-- Rows made where no block of Z is. -/
theorem SrOut.of_own {w : World} {base : Nat} {Z : Nat → Prop} {v : Value} {l : List Sr} (h : SrOwn w base v l) (hz : ∀ j, Z j → j < base) : ∃ ao cap, v = .slice ao l.length cap ∧ SrOut w Z ao l := by
  obtain ⟨xs, h1, h2, h3⟩ := h
  have key : ∀ j, base ≤ j → ¬ Z j := fun j hj e => by have := hz j e; omega
  rcases hb : h2.2 with ⟨h0, hn⟩ | ⟨g, cap, cur, h0, hg, hc, _⟩
  · exact ⟨none, 0, by rw [h0, hn], fun i hi => by omega⟩
  · refine ⟨some ⟨g, 0, none⟩, cap, h0, fun i hi => ⟨g, 0, rfl, heap_lt hc, key g hg, ?_⟩⟩
    obtain ⟨k1, k2⟩ := h3 i hi
    obtain ⟨lo, lc, e1, r1⟩ := LRow.of_own k1
    obtain ⟨so, sc, e2, r2⟩ := SRow.of_own k2
    obtain ⟨q1, q2⟩ := flat_get xs i (by omega)
    have c := h2.cells (g := g) (by rw [h0]; rfl)
    have c1 := c _ _ q1
    have c2 := c _ _ q2
    rw [Addr.add_lit, Nat.zero_add] at c1 c2
    refine ⟨lo, lc, so, sc, ?_, ?_, ⟨r1, fun a ha _ => ?_⟩, ⟨r2, fun a ha _ => ?_⟩⟩
    · rw [Nat.zero_add, c1]; exact congrArg some e1
    · rw [Nat.zero_add, c2]; exact congrArg some e2
    · exact key _ (k1.lt a.block (by rw [e1, ha]; rfl)).1
    · exact key _ (k2.lt a.block (by rw [e2, ha]; rfl)).1

/-- .. and rows that were there ahead of Z. -/
theorem SrOut.of_row {w : World} {Z : Nat → Prop} {ao : Option Addr} {l : List Sr} (h : SrRow w ao l) (hz : ∀ j, Z j → w.heap.size ≤ j) : SrOut w Z ao l := by
  have key : ∀ j, j < w.heap.size → ¬ Z j := fun j hj e => by have := hz j e; omega
  intro i hi
  obtain ⟨b, off, h1, h2, lo, lc, so, sc, h3, h4, h5, h6⟩ := h i hi
  refine ⟨b, off, h1, h2, key b h2, lo, lc, so, sc, h3, h4, ⟨h5, fun a ha h0 => ?_⟩, ⟨h6, fun a ha h0 => ?_⟩⟩
  · obtain ⟨b', _, e, _, _, h9⟩ := h5 0 h0
    rw [ha] at e; cases e
    exact key _ h9
  · obtain ⟨b', _, e, _, _, h9⟩ := h6 0 h0
    rw [ha] at e; cases e
    exact key _ h9

/-- The cells of rows that lie there. -/
theorem lrow_cells {w : World} {ao : Option Addr} {l : List LB.Lab} (h : LRow w ao l) : ∀ ad, ao = some ad → ∀ j u, (lv l)[j]? = some u → w.cell? (ad.add j) = some u := by
  intro ad had j u hj
  have hlt : j < (lv l).length := (List.getElem?_eq_some_iff.1 hj).1
  rw [lv_length] at hlt
  obtain ⟨b, off, e, c0, c1, hbs⟩ := h (j / 2) (by omega)
  rw [had] at e
  obtain rfl := Option.some.inj e
  obtain ⟨g0, g1⟩ := lv_get l (j / 2) (by omega)
  rw [Addr.add_lit]
  rcases Nat.mod_two_eq_zero_or_one j with hp | hp
  · have ej : j / 2 * 2 = j := by omega
    rw [ej] at g0 c0
    rw [g0] at hj
    rw [← hj]; exact c0
  · have ej : j / 2 * 2 + 1 = j := by omega
    rw [Nat.add_assoc, ej] at c1
    rw [ej] at g1
    rw [g1] at hj
    rw [← hj]; exact c1

theorem smp_cells {w : World} {ao : Option Addr} {l : List CL.Smp} (h : SRow w ao l) : ∀ ad, ao = some ad → ∀ j u, (sv l)[j]? = some u → w.cell? (ad.add j) = some u := by
  intro ad had j u hj
  have hlt : j < (sv l).length := (List.getElem?_eq_some_iff.1 hj).1
  rw [sv_length] at hlt
  obtain ⟨b, off, e, c0, c1, hbs⟩ := h (j / 2) (by omega)
  rw [had] at e
  obtain rfl := Option.some.inj e
  obtain ⟨g0, g1⟩ := sv_get l (j / 2) (by omega)
  rw [Addr.add_lit]
  rcases Nat.mod_two_eq_zero_or_one j with hp | hp
  · have ej : j / 2 * 2 = j := by omega
    rw [ej] at g0 c0
    rw [g0] at hj
    rw [← hj]; exact c0
  · have ej : j / 2 * 2 + 1 = j := by omega
    rw [Nat.add_assoc, ej] at c1
    rw [ej] at g1
    rw [g1] at hj
    rw [← hj]; exact c1

theorem lv_one (l : List LB.Lab) : ∀ u ∈ lv l, u.oneCell' = true := by
  intro u hu
  simp only [lv, List.mem_flatMap, List.mem_cons, List.not_mem_nil, or_false] at hu
  obtain ⟨s, _, rfl | rfl⟩ := hu <;> rfl

theorem sv_one (l : List CL.Smp) : ∀ u ∈ sv l, u.oneCell' = true := by
  intro u hu
  simp only [sv, List.mem_flatMap, List.mem_cons, List.not_mem_nil, or_false] at hu
  obtain ⟨s, _, rfl | rfl⟩ := hu <;> rfl

theorem own_one {w : World} {base n size : Nat} {e : TypeId} {v : Value} {xs : List Value} (h : w.ownsRow base e size v n xs) : v.oneCell' = true := by
  obtain ⟨ao, cap, rfl⟩ := own_slice h
  rfl

/-- Three new blocks, one behind the other. -/
theorem three_new (w : World) (o1 o2 o3 : Obj) : (((w.alloc o1).alloc o2).alloc o3).heap[w.heap.size]? = some o1 ∧ (((w.alloc o1).alloc o2).alloc o3).heap[w.heap.size + 1]? = some o2 ∧ (((w.alloc o1).alloc o2).alloc o3).heap[w.heap.size + 1 + 1]? = some o3 := by
  have e1 : (w.alloc o1).heap.size = w.heap.size + 1 := by simp
  have e2 : ((w.alloc o1).alloc o2).heap.size = w.heap.size + 1 + 1 := by simp
  refine ⟨?_, ?_, ?_⟩
  · rw [Below.heap_alloc _ o3 _ (by omega), Below.heap_alloc _ o2 _ (by omega)]; exact heap_alloc_new w o1
  · rw [Below.heap_alloc _ o3 _ (by omega)]
    have := heap_alloc_new (w.alloc o1) o2
    rwa [e1] at this
  · have := heap_alloc_new ((w.alloc o1).alloc o2) o3
    rwa [e2] at this

/-- A row of another kind is another block. -/
theorem own_kind {w : World} {base n size g : Nat} {e e' : TypeId} {v : Value} {xs : List Value} {c : Array Value} {fz : Nat × Nat} (h : w.ownsRow base e size v n xs) (hg : w.heap[g]? = some (.cells c e' fz)) (hne : e ≠ e') : v.ownBlock ≠ some g := fun hb => by
  rcases h.2 with ⟨h0, _⟩ | ⟨g', cap, cur, h0, _, a2, _⟩
  · rw [h0] at hb; cases hb
  · rw [h0] at hb
    cases hb
    rw [hg] at a2
    simp only [Option.some.injEq, Obj.cells.injEq] at a2
    exact hne a2.2.1.symm

theorem own_block {w : World} {base n size : Nat} {e : TypeId} {v : Value} {xs : List Value} (h : w.ownsRow base e size v n xs) (hn : 0 < n) : ∃ g cap cur, v = .slice (some ⟨g, 0, none⟩) n cap ∧ v.ownBlock = some g ∧ w.heap[g]? = some (.cells cur e) ∧ n ≤ cap ∧ cur.size = cap * size ∧ cur.toList.take (n * size) = xs := by
  rcases h.2 with ⟨_, h0⟩ | ⟨g, cap, cur, h0, _, a2, a3, _, a4, a5⟩
  · omega
  · exact ⟨g, cap, cur, h0, by rw [h0]; rfl, a2, a3, a4, a5⟩

theorem set_size (w : World) (p : Addr) (u : Value) : (w.setCell p u).heap.size = w.heap.size := by simp [World.setCell]

/-- A block of series grew: rows of another kind stay. -/
theorem kind_grown {W W' : World} {base base' n m : Nat} {v u : Value} {xs ys : List Value} {e : TypeId} (hv : W.ownsRow base 61 2 v n xs) (hu : W.ownsRow base' e 2 u m ys) (hne : e ≠ 61) (k : W.grownBy W' v.ownBlock) : W'.ownsRow base' e 2 u m ys := by
  refine hu.kept k ?_
  rcases hvb : v.ownBlock with _ | g
  · rcases hub : u.ownBlock with _ | g'
    · exact .inl rfl
    · exact .inr (by simp)
  · right
    rcases hv.2 with ⟨e0, _⟩ | ⟨g1, _, c, e0, _, a2, _⟩
    · rw [e0] at hvb; cases hvb
    · rw [e0] at hvb; cases hvb
      exact own_kind hu a2 hne

theorem atX_snoc (xs : List (Value × Value)) (p : Value × Value) (i : Nat) : atX (xs ++ [p]) i = if i < xs.length then atX xs i else if i = xs.length then p else nilP := by
  unfold atX
  rw [List.getD_eq_getElem?_getD, List.getD_eq_getElem?_getD]
  by_cases h : i < xs.length
  · rw [if_pos h, List.getElem?_append_left h]
  · rw [if_neg h, List.getElem?_append_right (by omega)]
    by_cases h2 : i = xs.length
    · rw [if_pos h2, h2, Nat.sub_self]; rfl
    · rw [if_neg h2, List.getElem?_eq_none (by simp; omega)]; rfl

theorem atSr_snoc (S : List Sr) (p : Sr) (i : Nat) (hi : i < S.length + 1) : atSr (S ++ [p]) i = if i < S.length then atSr S i else p := by
  unfold atSr
  rw [List.getD_eq_getElem?_getD, List.getD_eq_getElem?_getD]
  by_cases h : i < S.length
  · rw [if_pos h, List.getElem?_append_left h]
  · have : i = S.length := by omega
    rw [if_neg h, List.getElem?_append_right (by omega), this, Nat.sub_self]; rfl

theorem Tryz.uSms : Tryz.prog.underlying 59 = some (.slice 78) := by kernel_rfl

theorem sm_info : ∃ i, Tryz.prog.info? 78 = some i ∧ i.zero = some (.agg #[.int .i64 0, .int .i64 0]) ∧ i.size = 2 ∧ i.bytes = 16 := by
  have h := Tryz.info78
  cases hq : Tryz.prog.info? 78 with
  | none => rw [hq] at h; cases h
  | some i =>
    rw [hq] at h
    simp only [Option.map_some, Option.some.injEq, Prod.mk.injEq] at h
    exact ⟨i, rfl, h⟩

theorem Tryz.uSrs : Tryz.prog.underlying 22 = some (.slice 61) := by kernel_rfl

theorem sr_info : ∃ i, Tryz.prog.info? 61 = some i ∧ i.zero = some (.agg #[.slice none 0 0, .slice none 0 0]) ∧ i.size = 2 ∧ i.bytes = 48 := by
  have h := Tryz.infoSr
  cases hq : Tryz.prog.info? 61 with
  | none => rw [hq] at h; cases h
  | some i =>
    rw [hq] at h
    simp only [Option.map_some, Option.some.injEq, Prod.mk.injEq] at h
    exact ⟨i, rfl, h⟩

/-- Two cells in a block of their own. -/
theorem two_cells {w : World} {B : Nat} {a b : Value} {T : TypeId} (h : w.heap[B]? = some (.cells #[a, b] T)) : ∀ j u, [a, b][j]? = some u → w.cell? ((⟨B, 0, none⟩ : Addr).add j) = some u := by
  intro j u hj
  match j with
  | 0 => rw [Addr.add_lit]; simp only [List.getElem?_cons_zero, Option.some.injEq] at hj; subst hj; simp [World.cell?, h]
  | 1 => rw [Addr.add_lit]; simp only [List.getElem?_cons_succ, List.getElem?_cons_zero, Option.some.injEq] at hj; subst hj; simp [World.cell?, h]
  | j + 2 => simp at hj

theorem one_two {a b : Value} (ha : a.oneCell' = true) (hb : b.oneCell' = true) : ∀ u ∈ [a, b], u.oneCell' = true := fun u hu => by
  rcases List.mem_cons.1 hu with rfl | hu
  · exact ha
  · rcases List.mem_cons.1 hu with rfl | hu
    · exact hb
    · cases hu

theorem right_len {l : List LB.Lab} (h : LB.right l = true) : 1 ≤ l.length ∧ l.length ≤ 8 := by
  unfold LB.right at h
  have := decide_eq_true_iff.1 h
  exact ⟨this.1, this.2.1⟩

theorem right_le {l : List CL.Smp} (h : CL.right l = true) : l.length ≤ 2000 := ((CL.right_iff l).1 h).1

theorem ld_series (b k : Nat) (ao : Option Addr) (n c : Nat) (w : World) (h : w.cell? ⟨b, k, none⟩ = some (.slice ao n c)) : (Instr.loadAt 22 (.pointer (some ⟨b, k, none⟩))).run Tryz.prog w = .ok (.slice ao n c) w := by
  have hs : (Tryz.prog.info? 22).map (·.size) = some 1 := by kernel_rfl
  go_simp

theorem ld_labels (b k : Nat) (ao : Option Addr) (n c : Nat) (w : World) (h : w.cell? ⟨b, k, none⟩ = some (.slice ao n c)) : (Instr.loadAt 53 (.pointer (some ⟨b, k, none⟩))).run Tryz.prog w = .ok (.slice ao n c) w := by
  have hs : (Tryz.prog.info? 53).map (·.size) = some 1 := by kernel_rfl
  go_simp

/-- One sample at the end of a row of one's own. -/
theorem app_smp (W : World) (base B : Nat) (v : Value) (d : List CL.Smp) (s : CL.Smp) (hB : W.heap[B]? = some (boxS s.1 s.2)) (hv : OwnSm W base v d) (hd : d.length ≤ 1000000) (hb : base ≤ W.heap.size) :
    ∃ v' W', (Builtin.append_ #[59, 59] 59 #[v, .slice (some ⟨B, 0, none⟩) 1 1]).run Tryz.prog W = .ok v' W' ∧ OwnSm W' base v' (d ++ [s]) ∧ W.grownBy W' v.ownBlock ∧ (v'.ownBlock = v.ownBlock ∨ v'.ownBlock = some W.heap.size) := by
  obtain ⟨i, hi, hz, hs, hby⟩ := sm_info
  obtain ⟨v', W', h1, h2, _, h3, h4⟩ := append_both (P := Tryz.prog) W base 59 59 78 i _ 2 16 Tryz.uSms hi hz hs hby rfl (by omega) v d.length (sv d) hv ⟨B, 0, none⟩ 1 1 [.int .i64 s.1, .int .i64 s.2] (by omega) rfl (two_cells hB) (one_two rfl rfl) (by unfold maxLen; omega) (by omega) hb
  refine ⟨v', W', h1, ?_, h3, h4⟩
  show World.ownsRow _ _ _ _ _ _ _
  rw [List.length_append, sv_append]
  exact h2

/-- One series at the end of a row of one's own. -/
theorem app_ser (W : World) (base B : Nat) (v a b : Value) (n : Nat) (xs : List Value) (hB : W.heap[B]? = some (.cells #[a, b] 61)) (ha : a.oneCell' = true) (hb1 : b.oneCell' = true) (hv : W.ownsRow base 61 2 v n xs) (hd : n ≤ 1000000) (hb : base ≤ W.heap.size) :
    ∃ v' W', (Builtin.append_ #[22, 22] 22 #[v, .slice (some ⟨B, 0, none⟩) 1 1]).run Tryz.prog W = .ok v' W' ∧ W'.ownsRow base 61 2 v' (n + 1) (xs ++ [a, b]) ∧ W.grownBy W' v.ownBlock ∧ (v'.ownBlock = v.ownBlock ∨ v'.ownBlock = some W.heap.size) := by
  obtain ⟨i, hi, hz, hs, hby⟩ := sr_info
  obtain ⟨v', W', h1, h2, _, h3, h4⟩ := append_both (P := Tryz.prog) W base 22 22 61 i _ 2 48 Tryz.uSrs hi hz hs hby rfl (by omega) v n xs hv ⟨B, 0, none⟩ 1 1 [a, b] (by omega) rfl (two_cells hB) (one_two ha hb1) (by unfold maxLen; omega) (by omega) hb
  exact ⟨v', W', h1, h2, h3, h4⟩

/-- Two rows of samples of one's own, apart. -/
structure Two (w wr : World) (vo vl : Value) (lo ll : List CL.Smp) : Prop where
  out : OwnSm wr w.heap.size vo lo
  left : OwnSm wr w.heap.size vl ll
  apart : vo.ownBlock = none ∨ vo.ownBlock ≠ vl.ownBlock
  bel : Below w.heap.size w wr

theorem Two.below {w wr wr' : World} {vo vl : Value} {lo ll : List CL.Smp} (h : Two w wr vo vl lo ll) (k : Below wr.heap.size wr wr') : Two w wr' vo vl lo ll :=
  ⟨row_kept h.out fun g _ hg => k.block g (heap_lt hg), row_kept h.left fun g _ hg => k.block g (heap_lt hg), h.apart, bel2 h.bel k⟩

theorem Two.grow1 {w W W' : World} {vo vl v' : Value} {lo ll l' : List CL.Smp} (h : Two w W vo vl lo ll) (h1 : OwnSm W' w.heap.size v' l') (h2 : W.grownBy W' vo.ownBlock) (h3 : v'.ownBlock = vo.ownBlock ∨ v'.ownBlock = some W.heap.size) : Two w W' v' vl l' ll := by
  refine ⟨h1, h.left.kept h2 ?_, ?_, h.bel.grown h2 h.bel.size (fun k hk => (h.out.lt k hk).1)⟩
  · rcases h.apart with e | e
    · rcases hv : vl.ownBlock with _ | g
      · exact .inl rfl
      · rw [e]; exact .inr (by simp)
    · exact .inr (fun e2 => e e2.symm)
  · rcases h3 with e | e
    · rw [e]; exact h.apart
    · right
      rw [e]
      intro e2
      have := (h.left.lt _ e2.symm).2
      omega

theorem Two.grow2 {w W W' : World} {vo vl v' : Value} {lo ll l' : List CL.Smp} (h : Two w W vo vl lo ll) (h1 : OwnSm W' w.heap.size v' l') (h2 : W.grownBy W' vl.ownBlock) (h3 : v'.ownBlock = vl.ownBlock ∨ v'.ownBlock = some W.heap.size) : Two w W' vo v' lo l' := by
  refine ⟨h.out.kept h2 ?_, h1, ?_, h.bel.grown h2 h.bel.size (fun k hk => (h.left.lt k hk).1)⟩
  · rcases h.apart with e | e
    · exact .inl e
    · exact .inr e
  · rcases h3 with e | e
    · rw [e]; exact h.apart
    · rcases hv : vo.ownBlock with _ | g
      · exact .inl rfl
      · right
        rw [e]
        intro e2
        have := (h.out.lt _ (hv.trans e2)).2
        omega

theorem take_smp (l : List CL.Smp) (i : Nat) (h : i < l.length) : l.take (i + 1) = l.take i ++ [CL.at' l i] := (CL.take_nxt l i h).symm

/-- What goes: of series that all matchers hold of, at such times. -/
abbrev goP (m : List LB.Mat) (q : Int → Bool) : List LB.Lab → Int → Bool := fun L t => LB.all L m && q t

abbrev noP (m : List LB.Mat) (q : Int → Bool) : List LB.Lab → Int → Bool := fun L t => !(LB.all L m && q t)

end Go.Proofs.YtdmnlmohfaafoaeGreatDoor

