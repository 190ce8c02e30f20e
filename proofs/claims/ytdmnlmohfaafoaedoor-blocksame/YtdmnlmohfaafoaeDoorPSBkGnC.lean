/- What HeadWhole says, plain: how many come; what is cut off and what stays are together all that was. No program in it. The stable sort's moves, plain: exchanging, exchanging ranges, rotating, and why merging by halves merges. No program in it. What sorting tells, plain: in order, of the same, each once: one list. No program in it. What two rows of series come to together, plain: the document's way (one by one, then sorted) and the short way (jn). Names no function. What is left of series, plain: in any order, ahead of a merge or behind it. Names no function. What is gone, in memory, and which blocks' series are good: what both laws on blocks lean on. Names no function. -/
import Derived.Test.YtdmnlmohfaafoaeDoorPSHdNumC
import Derived.Test.YtdmnlmohfaafoaeDoorPSChMrg
import Derived.RowKit
import Derived.Test.YtdmnlmohfaafoaeDoorPSBkByt
import Derived.Test.YtdmnlmohfaafoaeDoorPSBmMemC
namespace Go.Proofs.YtdmnlmohfaafoaeDoor
namespace HD

theorem total_cons (x : Sr) (S : List Sr) : total (x :: S) = x.2.length + total S := by unfold total; simp

theorem total_ins : ∀ (S : List Sr) (k : Nat) (x : Sr), k ≤ S.length → total (S.insertIdx k x) = total S + x.2.length
  | S, 0, x, _ => by rw [List.insertIdx_zero, total_cons]; omega
  | [], k + 1, x, h => by simp at h
  | y :: S, k + 1, x, h => by
    rw [List.insertIdx_succ_cons, total_cons, total_cons, total_ins S k x (by simpa using h)]
    omega

theorem total_set : ∀ (S : List Sr) (k : Nat) (L : List LB.Lab) (l : List CL.Smp), k < S.length → total (S.set k (L, (atSr S k).2 ++ l)) = total S + l.length
  | [], k, L, l, h => by simp at h
  | y :: S, 0, L, l, _ => by
    rw [List.set_cons_zero, total_cons, total_cons, at_zero]
    simp only [List.length_append]
    omega
  | y :: S, k + 1, L, l, h => by
    rw [List.set_cons_succ, total_cons, total_cons, at_cons, total_set S k L l (by simpa using h)]
    omega

theorem total_nxt {mark : Int} {S : List Sr} {x : Sr} (he : err mark S x = 0) : total (nxt S x) = total S + x.2.length := by
  obtain ⟨_, _, _, _, h5⟩ := err_ok he
  unfold nxt
  rcases h5 with ⟨h6, _, _⟩ | ⟨h6, _⟩
  · rw [if_pos h6, total_set S _ _ _ (decide_eq_true_iff.1 h6).1]
  · rw [if_neg (by rw [h6]; decide), total_ins S _ _ (pos_le S x.1)]

theorem total_run {mark : Int} : ∀ {S l : List Sr} {i : Nat}, (run mark S l i).1 = none → total (run mark S l i).2 = total S + total l
  | S, [], _, _ => by unfold run; rfl
  | S, x :: l, i, h => by
    unfold run at h ⊢
    by_cases he : err mark S x = 0
    · rw [if_pos he] at h ⊢
      rw [total_run h, total_nxt he, total_cons]
      omega
    · rw [if_neg he] at h
      simp at h

/-- What Append tells: as many more as came, or all as it was. -/
theorem total_app {mark : Int} {S l : List Sr} (h : (app mark S l).1 = (0, -1)) : total (app mark S l).2 = total S + total l := by
  unfold app at h ⊢
  by_cases ht : 40 < total l
  · rw [if_pos ht] at h; simp at h
  · rw [if_neg ht] at h ⊢
    rcases hr : run mark S l 0 with ⟨o, S'⟩
    rcases o with _ | ⟨e, i⟩
    · rw [hr] at h
      have := total_run (mark := mark) (S := S) (l := l) (i := 0) (by rw [hr])
      rw [hr] at this
      exact this
    · rw [hr] at h
      simp only [Prod.mk.injEq] at h
      omega

theorem app_same {mark : Int} {S l : List Sr} (h : (app mark S l).1 ≠ (0, -1)) : (app mark S l).2 = S := by
  unfold app at h ⊢
  by_cases ht : 40 < total l
  · rw [if_pos ht]
  · rw [if_neg ht] at h ⊢
    rcases hr : run mark S l 0 with ⟨o, S'⟩
    rcases o with _ | ⟨e, i⟩
    · rw [hr] at h; exact absurd rfl h
    · rfl

/-- Series of both, in order, samples of one together. -/
def jn : List Sr → List Sr → List Sr
  | [], b => b
  | x :: a, [] => x :: a
  | x :: a, y :: b => if LB.cmp x.1 y.1 < 0 then x :: jn a (y :: b) else if 0 < LB.cmp x.1 y.1 then y :: jn (x :: a) b else (x.1, CL.mrg x.2 y.2) :: jn a b
termination_by a b => a.length + b.length

theorem jn_nil (a : List Sr) : jn a [] = a := by cases a <;> simp [jn]
theorem jn_nil' (b : List Sr) : jn [] b = b := by simp [jn]
theorem jn_lt (x y : Sr) (a b : List Sr) (h : LB.cmp x.1 y.1 < 0) : jn (x :: a) (y :: b) = x :: jn a (y :: b) := by rw [jn, if_pos h]
theorem jn_gt (x y : Sr) (a b : List Sr) (h : 0 < LB.cmp x.1 y.1) : jn (x :: a) (y :: b) = y :: jn (x :: a) b := by rw [jn, if_neg (by omega), if_pos h]
theorem jn_eq (x y : Sr) (a b : List Sr) (h : LB.cmp x.1 y.1 = 0) : jn (x :: a) (y :: b) = (x.1, CL.mrg x.2 y.2) :: jn a b := by rw [jn, if_neg (by omega), if_neg (by omega)]

/-- .. whichever is empty. -/
theorem jn_left (x : Sr) (a b : List Sr) (h : ∀ y ∈ b, LB.cmp x.1 y.1 < 0) : jn (x :: a) b = x :: jn a b := by
  cases b with
  | nil => rw [jn_nil, jn_nil]
  | cons y b => exact jn_lt x y a b (h y (by simp))
theorem jn_right (y : Sr) (a b : List Sr) (h : ∀ x ∈ a, 0 < LB.cmp x.1 y.1) : jn a (y :: b) = y :: jn a b := by
  cases a with
  | nil => rw [jn_nil', jn_nil']
  | cons x a => exact jn_gt x y a b (h x (by simp))

theorem kp_cons (p : List LB.Lab → Int → Bool) (x : Sr) (S : List Sr) : kp p (x :: S) = (if 0 < (keepS p x).2.length then [keepS p x] else []) ++ kp p S := by
  unfold kp
  rw [List.map_cons, List.filter_cons]
  by_cases h : 0 < (keepS p x).2.length
  · rw [if_pos (by simpa using h), if_pos h]; rfl
  · rw [if_neg (by simpa using h), if_neg h]; rfl

theorem kp_mem {p : List LB.Lab → Int → Bool} {S : List Sr} {y : Sr} (h : y ∈ kp p S) : ∃ z ∈ S, y.1 = z.1 := by
  unfold kp at h
  obtain ⟨h1, _⟩ := List.mem_filter.1 h
  obtain ⟨z, hz, rfl⟩ := List.mem_map.1 h1
  exact ⟨z, hz, rfl⟩

theorem mrg_parts (l : List CL.Smp) (t : Int) (h : CL.right l = true) : CL.mrg (l.filter fun s => decide (s.1 ≤ t)) (l.filter fun s => !decide (s.1 ≤ t)) = l := by
  have hr := CL.rising_of_right l h
  have h1 : CL.Rising (l.filter fun s => decide (s.1 ≤ t)) := List.Pairwise.filter _ hr
  have h2 : CL.Rising (l.filter fun s => !decide (s.1 ≤ t)) := List.Pairwise.filter _ hr
  refine CL.rising_ext _ _ (CL.rising_mrg _ _ h1 h2) hr fun x => ?_
  rw [CL.mem_mrg _ _ h1 h2]
  simp only [List.mem_filter, decide_eq_true_eq, Bool.not_eq_true', decide_eq_false_iff_not]
  constructor
  · rintro (h | h)
    · exact h.1
    · exact h.1.1
  · intro hx
    by_cases ht : x.1 ≤ t
    · exact .inr ⟨⟨hx, ht⟩, fun y hy e => by omega⟩
    · exact .inl ⟨hx, ht⟩

/-- What is cut off, and what stays, are together all that was. -/
theorem jn_parts (t : Int) : ∀ (S : List Sr), Ord S → (∀ x ∈ S, OkS x) → jn (kp (fun _ s => decide (s ≤ t)) S) (kp (fun _ s => !decide (s ≤ t)) S) = S
  | [], _, _ => by simp [kp, jn]
  | x :: S, ho, hk => by
    have ho2 := List.pairwise_cons.1 ho
    have ih := jn_parts t S ho2.2 (fun y hy => hk y (by simp [hy]))
    have hx := hk x (by simp)
    have hA : ∀ y ∈ kp (fun _ s => decide (s ≤ t)) S, LB.cmp x.1 y.1 = -1 := fun y hy => by
      obtain ⟨z, hz, e⟩ := kp_mem hy
      rw [e]; exact ho2.1 z hz
    have hB : ∀ y ∈ kp (fun _ s => !decide (s ≤ t)) S, LB.cmp x.1 y.1 = -1 := fun y hy => by
      obtain ⟨z, hz, e⟩ := kp_mem hy
      rw [e]; exact ho2.1 z hz
    have hm := mrg_parts x.2 t hx.2.1
    rw [kp_cons, kp_cons]
    have e1 : (keepS (fun _ s => decide (s ≤ t)) x) = (x.1, x.2.filter fun s => decide (s.1 ≤ t)) := rfl
    have e2 : (keepS (fun _ s => !decide (s ≤ t)) x) = (x.1, x.2.filter fun s => !decide (s.1 ≤ t)) := rfl
    rw [e1, e2]
    by_cases h1 : 0 < (x.2.filter fun s => decide (s.1 ≤ t)).length
    · by_cases h2 : 0 < (x.2.filter fun s => !decide (s.1 ≤ t)).length
      · rw [if_pos h1, if_pos h2]
        show jn (_ :: _) (_ :: _) = _
        rw [jn_eq (x.1, x.2.filter fun s => decide (s.1 ≤ t)) (x.1, x.2.filter fun s => !decide (s.1 ≤ t)) _ _ (cmp_refl x.1)]
        show (x.1, CL.mrg (x.2.filter fun s => decide (s.1 ≤ t)) (x.2.filter fun s => !decide (s.1 ≤ t))) :: _ = _
        rw [hm]
        exact congrArg _ ih
      · have h3 : (x.2.filter fun s => !decide (s.1 ≤ t)) = [] := List.eq_nil_of_length_eq_zero (by omega)
        have h4 : (x.2.filter fun s => decide (s.1 ≤ t)) = x.2 := by
          refine List.filter_eq_self.2 fun s hs => ?_
          by_cases ht : s.1 ≤ t
          · simpa using ht
          · have : s ∈ (x.2.filter fun s => !decide (s.1 ≤ t)) := List.mem_filter.2 ⟨hs, by simpa using ht⟩
            rw [h3] at this; cases this
        rw [if_pos h1, if_neg h2, h4]
        show jn (_ :: _) _ = _
        rw [List.nil_append, jn_left _ _ _ (fun y hy => by show LB.cmp x.1 y.1 < 0; rw [hB y hy]; decide)]
        exact congrArg _ ih
    · have h3 : (x.2.filter fun s => decide (s.1 ≤ t)) = [] := List.eq_nil_of_length_eq_zero (by omega)
      have h4 : (x.2.filter fun s => !decide (s.1 ≤ t)) = x.2 := by
        refine List.filter_eq_self.2 fun s hs => ?_
        by_cases ht : s.1 ≤ t
        · have : s ∈ (x.2.filter fun s => decide (s.1 ≤ t)) := List.mem_filter.2 ⟨hs, by simpa using ht⟩
          rw [h3] at this; cases this
        · simpa using ht
      have h5 := hx.2.2.1
      rw [if_neg h1, h4, if_pos h5]
      show jn _ (_ :: _) = _
      rw [List.nil_append, jn_right _ _ _ (fun y hy => by show 0 < LB.cmp y.1 x.1; rw [cmp_flip (hA y hy)]; decide)]
      exact congrArg _ ih

end HD
end Go.Proofs.YtdmnlmohfaafoaeDoor

namespace Go.Proofs.YtdmnlmohfaafoaeDoor
namespace ST

variable {α : Type}

/-- Two places exchanged. -/
def sw (d : Nat → α) (i j : Nat) : Nat → α := fun k => if k = i then d j else if k = j then d i else d k

/-- Exchanges within [a, b). -/
inductive Sw (a b : Nat) : (Nat → α) → (Nat → α) → Prop
  | refl (d) : Sw a b d d
  | step {d e} (i j : Nat) : Sw a b d e → a ≤ i → i < b → a ≤ j → j < b → Sw a b d (sw e i j)

theorem Sw.trans {a b : Nat} {d e f : Nat → α} (h : Sw a b d e) (k : Sw a b e f) : Sw a b d f := by
  induction k with
  | refl => exact h
  | step i j _ h1 h2 h3 h4 ih => exact .step i j ih h1 h2 h3 h4

theorem Sw.wide {a b a' b' : Nat} {d e : Nat → α} (h : Sw a b d e) (ha : a' ≤ a) (hb : b ≤ b') : Sw a' b' d e := by
  induction h with
  | refl => exact .refl _
  | step i j _ h1 h2 h3 h4 ih => exact .step i j ih (by omega) (by omega) (by omega) (by omega)

theorem Sw.out {a b : Nat} {d e : Nat → α} (h : Sw a b d e) {k : Nat} (hk : k < a ∨ b ≤ k) : e k = d k := by
  induction h with
  | refl => rfl
  | step i j _ h1 h2 h3 h4 ih =>
    unfold sw
    rw [if_neg (by omega), if_neg (by omega)]
    exact ih

theorem Sw.back {a b : Nat} {d e : Nat → α} (h : Sw a b d e) {k : Nat} (hk : a ≤ k ∧ k < b) : ∃ k', (a ≤ k' ∧ k' < b) ∧ e k = d k' := by
  induction h generalizing k with
  | refl => exact ⟨k, hk, rfl⟩
  | step i j _ h1 h2 h3 h4 ih =>
    unfold sw
    split
    · exact ih ⟨h3, h4⟩
    · split
      · exact ih ⟨h1, h2⟩
      · exact ih hk

/-- n places from a on exchanged with those from b on. -/
def swR (d : Nat → α) (a b n : Nat) : Nat → α := fun k => if a ≤ k ∧ k < a + n then d (b + (k - a)) else if b ≤ k ∧ k < b + n then d (a + (k - b)) else d k

theorem swR_zero (d : Nat → α) (a b : Nat) : swR d a b 0 = d := by
  funext k
  unfold swR
  rw [if_neg (by omega), if_neg (by omega)]

theorem swR_succ (d : Nat → α) (a b n : Nat) (h : a + n < b) : swR d a b (n + 1) = sw (swR d a b n) (a + n) (b + n) := by
  funext k
  unfold swR sw
  dsimp only
  by_cases h1 : k = a + n
  · subst h1
    rw [if_pos (by omega), if_pos rfl, if_neg (by omega), if_neg (by omega)]
    congr 1
    omega
  · rw [if_neg h1]
    by_cases h2 : k = b + n
    · subst h2
      rw [if_neg (by omega), if_pos (by omega), if_pos rfl, if_neg (by omega), if_neg (by omega)]
      congr 1
      omega
    · rw [if_neg h2]
      by_cases h3 : a ≤ k ∧ k < a + n
      · rw [if_pos (by omega), if_pos h3]
      · rw [if_neg (by omega), if_neg h3]
        by_cases h4 : b ≤ k ∧ k < b + n
        · rw [if_pos (by omega), if_pos h4]
        · rw [if_neg (by omega), if_neg h4]

theorem swR_sw (d : Nat → α) (a b n : Nat) (h : a + n ≤ b) {lo hi : Nat} (hl : lo ≤ a) (hh : b + n ≤ hi) : Sw lo hi d (swR d a b n) := by
  have key : ∀ m, m ≤ n → Sw lo hi d (swR d a b m) := by
    intro m
    induction m with
    | zero => intro _; rw [swR_zero]; exact .refl _
    | succ m ih =>
      intro hm
      rw [swR_succ d a b m (by omega)]
      exact .step _ _ (ih (by omega)) (by omega) (by omega) (by omega) (by omega)
  exact key n (Nat.le_refl _)

/-- [a, m) and [m, b) change places. -/
def rot (d : Nat → α) (a m b : Nat) : Nat → α := fun k => if a ≤ k ∧ k < a + (b - m) then d (m + (k - a)) else if a + (b - m) ≤ k ∧ k < b then d (a + (k - (a + (b - m)))) else d k

theorem rot_same (d : Nat → α) (m i : Nat) (hi : i ≤ m) : rot d (m - i) m (m + i) = swR d (m - i) m i := by
  funext k
  unfold rot swR
  by_cases h1 : m - i ≤ k ∧ k < m - i + i
  · rw [if_pos (by omega), if_pos h1]
  · rw [if_neg (by omega), if_neg h1]
    by_cases h2 : m ≤ k ∧ k < m + i
    · rw [if_pos (by omega), if_pos h2]
      congr 1
      omega
    · rw [if_neg (by omega), if_neg h2]

theorem rot_left (d : Nat → α) (m i j : Nat) (hi : i ≤ m) (hij : j < i) : rot d (m - i) m (m + j) = rot (swR d (m - i) m j) (m - (i - j)) m (m + j) := by
  funext k
  unfold rot swR
  by_cases h1 : m - i ≤ k ∧ k < m - i + (m + j - m)
  · rw [if_pos h1, if_neg (by omega), if_neg (by omega), if_pos (by omega)]
  · rw [if_neg h1]
    by_cases h2 : m - i + (m + j - m) ≤ k ∧ k < m + j
    · rw [if_pos h2]
      by_cases h3 : m - (i - j) ≤ k ∧ k < m - (i - j) + (m + j - m)
      · rw [if_pos h3, if_neg (by omega), if_pos (by omega)]
        congr 1
        omega
      · rw [if_neg h3, if_pos (by omega), if_neg (by omega), if_neg (by omega)]
        congr 1
        omega
    · rw [if_neg h2, if_neg (by omega), if_neg (by omega), if_neg (by omega), if_neg (by omega)]

theorem rot_right (d : Nat → α) (m i j : Nat) (hi : i ≤ m) (hij : i < j) : rot d (m - i) m (m + j) = rot (swR d (m - i) (m + j - i) i) (m - i) m (m + (j - i)) := by
  funext k
  unfold rot swR
  by_cases h1 : m - i ≤ k ∧ k < m - i + (m + j - m)
  · rw [if_pos h1]
    by_cases h2 : m - i ≤ k ∧ k < m - i + (m + (j - i) - m)
    · rw [if_pos h2, if_neg (by omega)]
      by_cases h3 : m + j - i ≤ m + (k - (m - i)) ∧ m + (k - (m - i)) < m + j - i + i
      · omega
      · rw [if_neg h3]
    · rw [if_neg h2]
      by_cases h3 : m - i + (m + (j - i) - m) ≤ k ∧ k < m + (j - i)
      · rw [if_pos h3, if_pos (by omega)]
        congr 1
        omega
      · omega
  · rw [if_neg h1]
    by_cases h2 : m - i + (m + j - m) ≤ k ∧ k < m + j
    · rw [if_pos h2, if_neg (by omega), if_neg (by omega), if_neg (by omega), if_pos (by omega)]
      congr 1
      omega
    · rw [if_neg h2, if_neg (by omega), if_neg (by omega), if_neg (by omega), if_neg (by omega)]

/-- Rotating is exchanging. -/
theorem rot_sw (d : Nat → α) (a m b : Nat) (ham : a < m) (hmb : m < b) : Sw a b d (rot d a m b) := by
  have key : ∀ (k i j : Nat) (e : Nat → α), i + j ≤ k → 1 ≤ i → 1 ≤ j → i ≤ m → Sw (m - i) (m + j) e (rot e (m - i) m (m + j)) := by
    intro k
    induction k with
    | zero => intro i j e h h1; omega
    | succ k ih =>
      intro i j e h h1 h2 h3
      rcases Nat.lt_trichotomy j i with h4 | h4 | h4
      · rw [rot_left e m i j h3 h4]
        exact (swR_sw e (m - i) m j (by omega) (Nat.le_refl _) (Nat.le_refl _)).trans ((ih (i - j) j _ (by omega) (by omega) h2 (by omega)).wide (by omega) (Nat.le_refl _))
      · subst h4
        rw [rot_same e m j h3]
        exact swR_sw e (m - j) m j (by omega) (Nat.le_refl _) (Nat.le_refl _)
      · rw [rot_right e m i j h3 h4]
        exact (swR_sw e (m - i) (m + j - i) i (by omega) (Nat.le_refl _) (by omega)).trans ((ih i (j - i) _ (by omega) h1 (by omega) h3).wide (Nat.le_refl _) (by omega))
  have := key (b - a) (m - a) (b - m) d (by omega) (by omega) (by omega) (by omega)
  have e1 : m - (m - a) = a := by omega
  have e2 : m + (b - m) = b := by omega
  rw [e1, e2] at this
  exact this

theorem rot_none_l (d : Nat → α) (m b : Nat) (h : m ≤ b) : rot d m m b = d := by
  funext k
  unfold rot
  split
  · congr 1; omega
  · split
    · omega
    · rfl

section
variable (lt : α → α → Bool)

/-- None behind is ahead of one before it. -/
def Asc (d : Nat → α) (a b : Nat) : Prop := ∀ i j, a ≤ i → i < j → j < b → lt (d j) (d i) = false

/-- All of [a, m) may stand ahead of all of [m, b). -/
def Apart (d : Nat → α) (a m b : Nat) : Prop := ∀ i j, a ≤ i → i < m → m ≤ j → j < b → lt (d j) (d i) = false

/-- What an order is asked here: not ahead is passed on. -/
structure Weak : Prop where
  irr : ∀ x, lt x x = false
  asym : ∀ x y, lt x y = true → lt y x = false
  ntr : ∀ x y z, lt y x = false → lt z y = false → lt z x = false

variable {lt}

theorem Asc.part {d : Nat → α} {a b a' b' : Nat} (h : Asc lt d a b) (ha : a ≤ a') (hb : b' ≤ b) : Asc lt d a' b' := fun i j h1 h2 h3 => h i j (by omega) h2 (by omega)

theorem Asc.le {d : Nat → α} {a b : Nat} (hw : Weak lt) (h : Asc lt d a b) {i j : Nat} (h1 : a ≤ i) (h2 : i ≤ j) (h3 : j < b) : lt (d j) (d i) = false := by
  rcases Nat.lt_or_eq_of_le h2 with h4 | h4
  · exact h i j h1 h4 h3
  · subst h4; exact hw.irr _

/-- Two halves that are apart, each in order: all in order. -/
theorem asc_join {d : Nat → α} {a m b : Nat} (h1 : Asc lt d a m) (h2 : Asc lt d m b) (h3 : Apart lt d a m b) : Asc lt d a b := fun i j hi hij hj => by
  by_cases h4 : j < m
  · exact h1 i j hi hij h4
  · by_cases h5 : m ≤ i
    · exact h2 i j h5 hij hj
    · exact h3 i j hi (by omega) (by omega) hj

/-- Halves stay apart, whatever is exchanged within each. -/
theorem apart_sw {d e f : Nat → α} {a m b : Nat} (h : Apart lt d a m b) (h1 : Sw a m d e) (h2 : Sw m b e f) : Apart lt f a m b := fun i j hi him hmj hj => by
  have e1 : f i = e i := h2.out (.inl him)
  obtain ⟨i', hi', e2⟩ := h1.back ⟨hi, him⟩
  obtain ⟨j', hj', e3⟩ := h2.back ⟨hmj, hj⟩
  have e4 : e j' = d j' := h1.out (.inr hj'.1)
  rw [e1, e2, e3, e4]
  exact h i' j' hi'.1 hi'.2 hj'.1 hj'.2

/-- The turned middle: both halves are of two rows in order, and apart. -/
theorem sym_halves {d : Nat → α} {a m b s e mid : Nat} (hw : Weak lt) (h1 : Asc lt d a m) (h2 : Asc lt d m b) (has : a ≤ s) (hsm : s ≤ m) (hme : m ≤ e) (heb : e ≤ b) (hmid : s + (e - m) = mid)
    (hL : a < s → e < b → lt (d e) (d (s - 1)) = false) (hR : s < m → m < e → lt (d (e - 1)) (d s) = true) :
    Asc lt (rot d s m e) a s ∧ Asc lt (rot d s m e) s mid ∧ Asc lt (rot d s m e) mid e ∧ Asc lt (rot d s m e) e b ∧ Apart lt (rot d s m e) a mid b := by
  have v1 : ∀ k, k < s → rot d s m e k = d k := fun k hk => by unfold rot; rw [if_neg (by omega), if_neg (by omega)]
  have v2 : ∀ k, s ≤ k → k < mid → rot d s m e k = d (m + (k - s)) := fun k hk hk2 => by unfold rot; rw [if_pos (by omega)]
  have v3 : ∀ k, mid ≤ k → k < e → rot d s m e k = d (s + (k - mid)) := fun k hk hk2 => by
    unfold rot
    rw [if_neg (by omega), if_pos (by omega)]
    congr 1
    omega
  have v4 : ∀ k, e ≤ k → rot d s m e k = d k := fun k hk => by unfold rot; rw [if_neg (by omega), if_neg (by omega)]
  -- L1 = [a, s), R1 = [m, e), L2 = [s, m), R2 = [e, b)
  have c1 : ∀ i j, a ≤ i → i < s → e ≤ j → j < b → lt (d j) (d i) = false := fun i j hi his hj hjb => by
    have k1 := hL (by omega) (by omega)
    have k2 := h1.le hw (i := i) (j := s - 1) hi (by omega) (by omega)
    have k3 := h2.le hw (i := e) (j := j) hme hj hjb
    exact hw.ntr _ _ _ k2 (hw.ntr _ _ _ k1 k3)
  have c2 : ∀ i j, m ≤ i → i < e → s ≤ j → j < m → lt (d j) (d i) = false := fun i j hi hie hj hjm => by
    have k1 := hw.asym _ _ (hR (by omega) (by omega))
    have k2 := h2.le hw (i := i) (j := e - 1) hi (by omega) (by omega)
    have k3 := h1.le hw (i := s) (j := j) has hj hjm
    exact hw.ntr _ _ _ k2 (hw.ntr _ _ _ k1 k3)
  refine ⟨fun i j hi hij hj => ?_, fun i j hi hij hj => ?_, fun i j hi hij hj => ?_, fun i j hi hij hj => ?_, fun i j hi him hmj hj => ?_⟩
  · rw [v1 i (by omega), v1 j (by omega)]; exact h1 i j hi hij (by omega)
  · rw [v2 i hi (by omega), v2 j (by omega) hj]; exact h2 _ _ (by omega) (by omega) (by omega)
  · rw [v3 i hi (by omega), v3 j (by omega) hj]; exact h1 _ _ (by omega) (by omega) (by omega)
  · rw [v4 i hi, v4 j (by omega)]; exact h2 i j (by omega) hij hj
  · by_cases q1 : i < s
    · rw [v1 i q1]
      by_cases q2 : j < e
      · rw [v3 j hmj q2]; exact h1 _ _ hi (by omega) (by omega)
      · rw [v4 j (by omega)]; exact c1 i j hi q1 (by omega) hj
    · rw [v2 i (by omega) him]
      by_cases q2 : j < e
      · rw [v3 j hmj q2]; exact c2 _ _ (by omega) (by omega) (by omega) (by omega)
      · rw [v4 j (by omega)]; exact h2 _ _ (by omega) (by omega) hj

/-- One that goes down to its place. -/
theorem ins_down {d : Nat → α} {a m i : Nat} (hw : Weak lt) (h1 : Asc lt d a m) (hai : a ≤ i) (him : i ≤ m) (hL : a < i → lt (d m) (d (i - 1)) = false) (hR : i < m → lt (d m) (d i) = true) : Asc lt (rot d i m (m + 1)) a (m + 1) := by
  have h2 : Asc lt d m (m + 1) := fun x y hx hxy hy => by omega
  obtain ⟨k1, k2, k3, k4, k5⟩ := sym_halves (mid := i + 1) hw h1 h2 hai him (Nat.le_succ m) (Nat.le_refl _) (by omega) (fun _ h => by omega) (fun h _ => hR h)
  refine asc_join (asc_join k1 k2 fun x y hx hxi hiy hy => ?_) k3 k5
  have hy0 : y = i := by omega
  subst hy0
  have e1 : rot d y m (m + 1) x = d x := by unfold rot; rw [if_neg (by omega), if_neg (by omega)]
  have e2 : rot d y m (m + 1) y = d m := by unfold rot; rw [if_pos (by omega)]; congr 1; omega
  rw [e1, e2]
  exact hw.ntr _ _ _ (h1.le hw (i := x) (j := y - 1) hx (by omega) (by omega)) (hL (by omega))

/-- One that goes up to its place. -/
theorem ins_up {d : Nat → α} {a b i : Nat} (hw : Weak lt) (h2 : Asc lt d (a + 1) b) (hai : a + 1 ≤ i) (hib : i ≤ b) (hL : a + 1 < i → lt (d (i - 1)) (d a) = true) (hR : i < b → lt (d i) (d a) = false) : Asc lt (rot d a (a + 1) i) a b := by
  have h1 : Asc lt d a (a + 1) := fun x y hx hxy hy => by omega
  obtain ⟨k1, k2, k3, k4, k5⟩ := sym_halves (mid := a + (i - (a + 1))) hw h1 h2 (Nat.le_refl _) (Nat.le_succ a) hai hib rfl (fun h _ => by omega) (fun _ h => hL h)
  refine asc_join k2 (asc_join k3 k4 fun x y hx hxi hiy hy => ?_) k5
  have hx0 : x = i - 1 := by omega
  subst hx0
  have e1 : rot d a (a + 1) i (i - 1) = d a := by unfold rot; rw [if_neg (by omega), if_pos (by omega)]; congr 1; omega
  have e2 : rot d a (a + 1) i y = d y := by unfold rot; rw [if_neg (by omega), if_neg (by omega)]
  rw [e1, e2]
  exact hw.ntr _ _ _ (hR (by omega)) (h2.le hw (i := i) (j := y) hai hiy hy)

end

theorem mv_down (d : Nat → α) (k m : Nat) (hk : 0 < k) (hkm : k ≤ m) : sw (rot d k m (m + 1)) k (k - 1) = rot d (k - 1) m (m + 1) := by
  funext x
  unfold sw rot
  by_cases h1 : x = k
  · subst h1
    rw [if_pos rfl, if_neg (by omega), if_neg (by omega), if_neg (by omega), if_pos (by omega)]
    congr 1
    omega
  · rw [if_neg h1]
    by_cases h2 : x = k - 1
    · subst h2
      rw [if_pos rfl, if_pos (by omega), if_pos (by omega)]
      congr 1
      omega
    · rw [if_neg h2, if_neg (show ¬ (k ≤ x ∧ x < k + (m + 1 - m)) by omega), if_neg (show ¬ (k - 1 ≤ x ∧ x < k - 1 + (m + 1 - m)) by omega)]
      by_cases h3 : k + (m + 1 - m) ≤ x ∧ x < m + 1
      · rw [if_pos h3, if_pos (by omega)]
        congr 1
        omega
      · rw [if_neg h3, if_neg (by omega)]

theorem mv_up (d : Nat → α) (a k : Nat) (hk : a ≤ k) : sw (rot d a (a + 1) (k + 1)) k (k + 1) = rot d a (a + 1) (k + 2) := by
  funext x
  unfold sw rot
  by_cases h1 : x = k
  · subst h1
    rw [if_pos rfl, if_neg (by omega), if_neg (by omega), if_pos (by omega)]
    congr 1
    omega
  · rw [if_neg h1]
    by_cases h2 : x = k + 1
    · subst h2
      rw [if_pos rfl, if_neg (by omega), if_pos (by omega), if_neg (by omega), if_pos (by omega)]
      congr 1
      omega
    · rw [if_neg h2]
      by_cases h3 : a ≤ x ∧ x < a + (k + 1 - (a + 1))
      · rw [if_pos h3, if_pos (by omega)]
      · rw [if_neg h3, if_neg (by omega), if_neg (by omega), if_neg (by omega)]

theorem rot_one (d : Nat → α) (m : Nat) : rot d m m (m + 1) = d := rot_none_l d m (m + 1) (Nat.le_succ m)

theorem rot_self (d : Nat → α) (a m : Nat) (_h : a ≤ m) : rot d a m m = d := by
  funext k
  unfold rot
  split
  · omega
  · split
    · congr 1; omega
    · rfl

end ST
end Go.Proofs.YtdmnlmohfaafoaeDoor

namespace Go.Proofs.YtdmnlmohfaafoaeDoor
namespace HD

theorem pairwise_ext {α : Type} {r : α → α → Prop} (hir : ∀ a, ¬ r a a) (has : ∀ a b, r a b → ¬ r b a) : ∀ {l l' : List α}, l.Pairwise r → l'.Pairwise r → (∀ x, x ∈ l ↔ x ∈ l') → l = l'
  | [], [], _, _, _ => rfl
  | [], b :: t', _, _, h => absurd ((h b).2 (by simp)) (by simp)
  | a :: t, [], _, _, h => absurd ((h a).1 (by simp)) (by simp)
  | a :: t, b :: t', h1, h2, h => by
    have p1 := List.pairwise_cons.1 h1
    have p2 := List.pairwise_cons.1 h2
    have hab : a = b := by
      rcases List.mem_cons.1 ((h a).1 (by simp)) with e | e
      · exact e
      · rcases List.mem_cons.1 ((h b).2 (by simp)) with e2 | e2
        · exact e2.symm
        · exact absurd (p1.1 b e2) (has _ _ (p2.1 a e))
    subst hab
    congr 1
    refine pairwise_ext hir has p1.2 p2.2 fun x => ⟨fun hx => ?_, fun hx => ?_⟩
    · rcases List.mem_cons.1 ((h x).1 (by simp [hx])) with e | e
      · subst e; exact absurd (p1.1 x hx) (hir x)
      · exact e
    · rcases List.mem_cons.1 ((h x).2 (by simp [hx])) with e | e
      · subst e; exact absurd (p2.1 x hx) (hir x)
      · exact e

theorem ord_ext {l l' : List Sr} (h1 : Ord l) (h2 : Ord l') (h : ∀ x, x ∈ l ↔ x ∈ l') : l = l' :=
  pairwise_ext (r := fun a b : Sr => LB.cmp a.1 b.1 = -1) (fun a e => by rw [cmp_refl] at e; simp at e) (fun a b e e2 => by rw [cmp_flip e] at e2; simp at e2) h1 h2 h

/-- Exchanges: what is told is what was, each once. -/
theorem sw_forth {α : Type} {n : Nat} {d e : Nat → α} (h : ST.Sw 0 n d e) : ∀ k, k < n → ∃ k', k' < n ∧ e k' = d k := by
  induction h with
  | refl => exact fun k hk => ⟨k, hk, rfl⟩
  | step i j _ _ hi _ hj ih =>
    intro k hk
    obtain ⟨k', h1, h2⟩ := ih k hk
    by_cases e1 : k' = i
    · refine ⟨j, hj, ?_⟩
      unfold ST.sw
      by_cases e2 : j = i
      · rw [if_pos e2, e2, ← e1]; exact h2
      · rw [if_neg e2, if_pos rfl, ← e1]; exact h2
    · by_cases e2 : k' = j
      · refine ⟨i, hi, ?_⟩
        unfold ST.sw
        rw [if_pos rfl, ← e2]; exact h2
      · refine ⟨k', h1, ?_⟩
        unfold ST.sw
        rw [if_neg e1, if_neg e2]; exact h2

theorem sw_inj {α β : Type} {n : Nat} {d e : Nat → α} (key : α → β) (h : ST.Sw 0 n d e) (hd : ∀ i j, i < n → j < n → i ≠ j → key (d i) ≠ key (d j)) : ∀ i j, i < n → j < n → i ≠ j → key (e i) ≠ key (e j) := by
  induction h with
  | refl => exact hd
  | step a b _ _ ha _ hb ih =>
    intro i j hi hj hij
    unfold ST.sw
    by_cases e1 : i = a
    · rw [if_pos e1]
      by_cases e2 : j = a
      · omega
      · rw [if_neg e2]
        by_cases e3 : j = b
        · rw [if_pos e3]; exact ih b a hb ha (by omega)
        · rw [if_neg e3]; exact ih b j hb hj (by omega)
    · rw [if_neg e1]
      by_cases e2 : i = b
      · rw [if_pos e2]
        by_cases e3 : j = a
        · rw [if_pos e3]; exact ih a b ha hb (by omega)
        · rw [if_neg e3, if_neg (by omega)]; exact ih a j ha hj (by omega)
      · rw [if_neg e2]
        by_cases e3 : j = a
        · rw [if_pos e3]; exact ih i b hi hb (by omega)
        · rw [if_neg e3]
          by_cases e4 : j = b
          · rw [if_pos e4]; exact ih i a hi ha (by omega)
          · rw [if_neg e4]; exact ih i j hi hj hij

theorem sw_fun {α β : Type} (k : α → β) (e : Nat → α) (i j : Nat) : (fun m => k (ST.sw e i j m)) = ST.sw (fun m => k (e m)) i j := by
  funext m
  unfold ST.sw
  split
  · rfl
  · split <;> rfl

theorem sw_map {α β : Type} {n : Nat} (k : α → β) {d e : Nat → α} (h : ST.Sw 0 n d e) : ST.Sw 0 n (fun i => k (d i)) (fun i => k (e i)) := by
  induction h with
  | refl => exact .refl _
  | step i j _ h1 h2 h3 h4 ih =>
    rw [sw_fun k _ i j]
    exact .step i j ih h1 h2 h3 h4

/-- Which of two stands ahead. -/
def ltS (a b : Sr) : Bool := decide (LB.cmp a.1 b.1 < 0)

theorem ltS_no {a b : Sr} : ltS a b = false ↔ LB.cmp a.1 b.1 ≠ -1 := by
  unfold ltS
  rw [decide_eq_false_iff_not]
  rcases LB.cmp_ord.rng a.1 b.1 with h | h | h <;> rw [h] <;> simp

theorem ltS_yes {a b : Sr} : ltS a b = true ↔ LB.cmp a.1 b.1 = -1 := by
  unfold ltS
  rw [decide_eq_true_iff]
  rcases LB.cmp_ord.rng a.1 b.1 with h | h | h <;> rw [h] <;> simp

theorem ltS_weak {β : Type} (key : β → Sr) : ST.Weak (fun a b => ltS (key a) (key b)) where
  irr x := ltS_no.2 (by rw [cmp_refl]; decide)
  asym x y h := ltS_no.2 (by rw [cmp_flip (ltS_yes.1 h)]; decide)
  ntr x y z h1 h2 := ltS_no.2 (fun h => by
    have h3 := ltS_no.1 h1
    have h4 := ltS_no.1 h2
    rcases cmp_ge h3 with h5 | h5
    · rw [cmp_eq h5] at h4
      exact h4 h
    · exact h4 (LB.cmp_ord.tr _ _ _ h (cmp_flip' h5)))

/-- A row with one more, sorted. -/
theorem sorted_is {S : List Sr} {x : Sr} (ho : Ord S) (hn : there S x.1 = false) {f : Nat → Sr} (hs : ST.Sw 0 (S.length + 1) (fun i => atSr (S ++ [x]) i) f) (ha : ST.Asc ltS f 0 (S.length + 1)) :
    (List.range (S.length + 1)).map f = S.insertIdx (pos S x.1) x := by
  have hat : ∀ i, i < S.length + 1 → atSr (S ++ [x]) i = if i < S.length then atSr S i else x := fun i hi => by
    unfold atSr
    rw [List.getD_eq_getElem?_getD, List.getD_eq_getElem?_getD]
    by_cases h : i < S.length
    · rw [if_pos h, List.getElem?_append_left h]
    · have : i = S.length := by omega
      rw [if_neg h, List.getElem?_append_right (by omega), this, Nat.sub_self]; rfl
  have hnx : ∀ i, i < S.length → (atSr S i).1 ≠ x.1 := fun i hi e => by
    have : there S x.1 = true := (there_iff ho x.1).2 ⟨i, hi, by rw [e]; exact cmp_refl _⟩
    rw [this] at hn; simp at hn
  have hinj : ∀ i j, i < S.length + 1 → j < S.length + 1 → i ≠ j → (atSr (S ++ [x]) i).1 ≠ (atSr (S ++ [x]) j).1 := fun i j hi hj hij => by
    rw [hat i hi, hat j hj]
    by_cases h1 : i < S.length
    · rw [if_pos h1]
      by_cases h2 : j < S.length
      · rw [if_pos h2]
        intro e
        rcases Nat.lt_or_gt_of_ne hij with h3 | h3
        · have := ord_at ho i j h3 h2
          rw [e, cmp_refl] at this; simp at this
        · have := ord_at ho j i h3 h1
          rw [e, cmp_refl] at this; simp at this
      · rw [if_neg h2]; exact hnx i h1
    · rw [if_neg h1, if_pos (by omega)]
      exact fun e => hnx j (by omega) e.symm
  have hinj2 := sw_inj (fun s : Sr => s.1) hs hinj
  refine ord_ext ?_ (insert_ord ho x hn) fun y => ?_
  · unfold Ord
    rw [List.pairwise_map, List.pairwise_iff_getElem]
    intro i j hi hj hij
    rw [List.length_range] at hi hj
    rw [List.getElem_range, List.getElem_range]
    have h1 : ltS (f j) (f i) = false := ha i j (Nat.zero_le _) hij hj
    have h2 := hinj2 i j hi hj (by omega)
    unfold ltS at h1
    have h3 := of_decide_eq_false h1
    rcases LB.cmp_ord.rng (f i).1 (f j).1 with h | h | h
    · exact h
    · exact absurd (cmp_eq h) h2
    · have := cmp_flip' h
      omega
  · rw [List.mem_insertIdx (pos_le S x.1), List.mem_map]
    constructor
    · rintro ⟨k, hk, rfl⟩
      rw [List.mem_range] at hk
      obtain ⟨k', h1, h2⟩ := hs.back ⟨Nat.zero_le k, hk⟩
      rw [h2, hat k' h1.2]
      by_cases h : k' < S.length
      · rw [if_pos h]; exact .inr (at_mem S k' h)
      · rw [if_neg h]; exact .inl rfl
    · intro h
      have hk : ∃ k, k < S.length + 1 ∧ atSr (S ++ [x]) k = y := by
        rcases h with h | h
        · exact ⟨S.length, by omega, by rw [hat _ (by omega), if_neg (by omega), h]⟩
        · obtain ⟨k, h1, h2⟩ := mem_at h
          exact ⟨k, by omega, by rw [hat k (by omega), if_pos h1, h2]⟩
      obtain ⟨k, h1, h2⟩ := hk
      obtain ⟨k', h3, h4⟩ := sw_forth hs k h1
      exact ⟨k', List.mem_range.2 h3, by rw [h4, h2]⟩

end HD
end Go.Proofs.YtdmnlmohfaafoaeDoor

namespace Go.Proofs.YtdmnlmohfaafoaeDoor
open Go.RowKit

namespace BK

/-- What is in both together. -/
def MJ (a b : List Sr) (x : Sr) : Prop := (x ∈ a ∧ ∀ y ∈ b, y.1 ≠ x.1) ∨ (x ∈ b ∧ ∀ y ∈ a, y.1 ≠ x.1) ∨ ∃ u ∈ a, ∃ v ∈ b, u.1 = v.1 ∧ x = (u.1, CL.mrg u.2 v.2)

theorem lt_ne {x y : Sr} (h : LB.cmp x.1 y.1 = -1) : x.1 ≠ y.1 := fun e => by rw [e, HD.cmp_refl] at h; cases h

theorem cmp3 (x y : List LB.Lab) : LB.cmp x y < 0 ∨ 0 < LB.cmp x y ∨ LB.cmp x y = 0 := by omega

theorem cmp_neg {x y : List LB.Lab} (h : LB.cmp x y < 0) : LB.cmp x y = -1 := by
  rcases LB.cmp_ord.rng x y with e | e | e <;> omega

theorem cmp_pos {x y : List LB.Lab} (h : 0 < LB.cmp x y) : LB.cmp y x = -1 := by
  rcases LB.cmp_ord.rng x y with e | e | e
  · omega
  · omega
  · exact HD.cmp_flip' e

theorem head_lt {x : Sr} {a : List Sr} (h : HD.Ord (x :: a)) : ∀ y ∈ a, LB.cmp x.1 y.1 = -1 := fun y hy => (List.pairwise_cons.1 h).1 y hy

theorem lt_trans' {x y z : List LB.Lab} (h1 : LB.cmp x y = -1) (h2 : LB.cmp y z = -1) : LB.cmp x z = -1 := LB.cmp_ord.tr x y z h1 h2

theorem mem_jn : ∀ (n : Nat) (a b : List Sr), a.length + b.length ≤ n → HD.Ord a → HD.Ord b → ∀ x, x ∈ HD.jn a b ↔ MJ a b x := by
  intro n
  induction n with
  | zero =>
    intro a b hn ha hb x
    have h1 : a = [] := List.eq_nil_of_length_eq_zero (by omega)
    have h2 : b = [] := List.eq_nil_of_length_eq_zero (by omega)
    subst h1 h2
    simp [HD.jn_nil, MJ]
  | succ n ih =>
    intro a b hn ha hb x
    cases a with
    | nil => rw [HD.jn_nil']; simp [MJ]
    | cons u a =>
      cases b with
      | nil => rw [HD.jn_nil]; simp [MJ]
      | cons v b =>
        have hau := head_lt ha
        have hbv := head_lt hb
        have ha' : HD.Ord a := (List.pairwise_cons.1 ha).2
        have hb' : HD.Ord b := (List.pairwise_cons.1 hb).2
        simp only [List.length_cons] at hn
        rcases cmp3 u.1 v.1 with h | h | h
        · have huv := cmp_neg h
          rw [HD.jn_lt u v a b h, List.mem_cons, ih a (v :: b) (by simp only [List.length_cons]; omega) ha' hb x]
          have hub : ∀ y ∈ v :: b, u.1 ≠ y.1 := fun y hy => by
            rcases List.mem_cons.1 hy with rfl | hy
            · exact lt_ne huv
            · exact lt_ne (lt_trans' huv (hbv y hy))
          constructor
          · rintro (rfl | h1 | h1 | ⟨p, hp, q, hq, e1, e2⟩)
            · exact .inl ⟨List.mem_cons_self, fun y hy e => hub y hy e.symm⟩
            · exact .inl ⟨List.mem_cons_of_mem _ h1.1, h1.2⟩
            · refine .inr (.inl ⟨h1.1, fun y hy => ?_⟩)
              rcases List.mem_cons.1 hy with rfl | hy
              · exact hub x h1.1
              · exact h1.2 y hy
            · exact .inr (.inr ⟨p, List.mem_cons_of_mem _ hp, q, hq, e1, e2⟩)
          · rintro (h1 | h1 | ⟨p, hp, q, hq, e1, e2⟩)
            · rcases List.mem_cons.1 h1.1 with rfl | h2
              · exact .inl rfl
              · exact .inr (.inl ⟨h2, h1.2⟩)
            · exact .inr (.inr (.inl ⟨h1.1, fun y hy => h1.2 y (List.mem_cons_of_mem _ hy)⟩))
            · rcases List.mem_cons.1 hp with rfl | hp
              · exact absurd e1 (hub q hq)
              · exact .inr (.inr (.inr ⟨p, hp, q, hq, e1, e2⟩))
        · have hvu := cmp_pos h
          rw [HD.jn_gt u v a b h, List.mem_cons, ih (u :: a) b (by simp only [List.length_cons]; omega) ha hb' x]
          have hva : ∀ y ∈ u :: a, v.1 ≠ y.1 := fun y hy => by
            rcases List.mem_cons.1 hy with rfl | hy
            · exact lt_ne hvu
            · exact lt_ne (lt_trans' hvu (hau y hy))
          constructor
          · rintro (rfl | h1 | h1 | ⟨p, hp, q, hq, e1, e2⟩)
            · exact .inr (.inl ⟨List.mem_cons_self, fun y hy e => hva y hy e.symm⟩)
            · refine .inl ⟨h1.1, fun y hy => ?_⟩
              rcases List.mem_cons.1 hy with rfl | hy
              · exact hva x h1.1
              · exact h1.2 y hy
            · exact .inr (.inl ⟨List.mem_cons_of_mem _ h1.1, h1.2⟩)
            · exact .inr (.inr ⟨p, hp, q, List.mem_cons_of_mem _ hq, e1, e2⟩)
          · rintro (h1 | h1 | ⟨p, hp, q, hq, e1, e2⟩)
            · exact .inr (.inl ⟨h1.1, fun y hy => h1.2 y (List.mem_cons_of_mem _ hy)⟩)
            · rcases List.mem_cons.1 h1.1 with rfl | h2
              · exact .inl rfl
              · exact .inr (.inr (.inl ⟨h2, h1.2⟩))
            · rcases List.mem_cons.1 hq with rfl | hq
              · exact absurd e1.symm (hva p hp)
              · exact .inr (.inr (.inr ⟨p, hp, q, hq, e1, e2⟩))
        · have huv := HD.cmp_eq h
          rw [HD.jn_eq u v a b h, List.mem_cons, ih a b (by omega) ha' hb' x]
          have hub : ∀ y ∈ b, u.1 ≠ y.1 := fun y hy => by rw [huv]; exact lt_ne (hbv y hy)
          have hva : ∀ y ∈ a, v.1 ≠ y.1 := fun y hy => by rw [← huv]; exact lt_ne (hau y hy)
          constructor
          · rintro (rfl | h1 | h1 | ⟨p, hp, q, hq, e1, e2⟩)
            · exact .inr (.inr ⟨u, List.mem_cons_self, v, List.mem_cons_self, huv, rfl⟩)
            · refine .inl ⟨List.mem_cons_of_mem _ h1.1, fun y hy => ?_⟩
              rcases List.mem_cons.1 hy with rfl | hy
              · exact hva x h1.1
              · exact h1.2 y hy
            · refine .inr (.inl ⟨List.mem_cons_of_mem _ h1.1, fun y hy => ?_⟩)
              rcases List.mem_cons.1 hy with rfl | hy
              · exact hub x h1.1
              · exact h1.2 y hy
            · exact .inr (.inr ⟨p, List.mem_cons_of_mem _ hp, q, List.mem_cons_of_mem _ hq, e1, e2⟩)
          · rintro (h1 | h1 | ⟨p, hp, q, hq, e1, e2⟩)
            · rcases List.mem_cons.1 h1.1 with rfl | h2
              · exact absurd huv.symm (h1.2 v List.mem_cons_self)
              · exact .inr (.inl ⟨h2, fun y hy => h1.2 y (List.mem_cons_of_mem _ hy)⟩)
            · rcases List.mem_cons.1 h1.1 with rfl | h2
              · exact absurd huv (h1.2 u List.mem_cons_self)
              · exact .inr (.inr (.inl ⟨h2, fun y hy => h1.2 y (List.mem_cons_of_mem _ hy)⟩))
            · rcases List.mem_cons.1 hp with rfl | hp
              · rcases List.mem_cons.1 hq with rfl | hq
                · exact .inl e2
                · exact absurd e1 (hub q hq)
              · rcases List.mem_cons.1 hq with rfl | hq
                · exact absurd e1.symm (hva p hp)
                · exact .inr (.inr (.inr ⟨p, hp, q, hq, e1, e2⟩))

/-- Whose labels they are. -/
theorem MJ.lab {a b : List Sr} {x : Sr} (h : MJ a b x) : (∃ u ∈ a, u.1 = x.1) ∨ ∃ v ∈ b, v.1 = x.1 := by
  rcases h with h | h | ⟨u, hu, v, hv, e1, e2⟩
  · exact .inl ⟨x, h.1, rfl⟩
  · exact .inr ⟨x, h.1, rfl⟩
  · exact .inl ⟨u, hu, by rw [e2]⟩

theorem ord_jn : ∀ (n : Nat) (a b : List Sr), a.length + b.length ≤ n → HD.Ord a → HD.Ord b → HD.Ord (HD.jn a b) := by
  intro n
  induction n with
  | zero =>
    intro a b hn ha hb
    have h1 : a = [] := List.eq_nil_of_length_eq_zero (by omega)
    subst h1
    rw [HD.jn_nil']; exact hb
  | succ n ih =>
    intro a b hn ha hb
    cases a with
    | nil => rw [HD.jn_nil']; exact hb
    | cons u a =>
      cases b with
      | nil => rw [HD.jn_nil]; exact ha
      | cons v b =>
        have hau := head_lt ha
        have hbv := head_lt hb
        have ha' : HD.Ord a := (List.pairwise_cons.1 ha).2
        have hb' : HD.Ord b := (List.pairwise_cons.1 hb).2
        simp only [List.length_cons] at hn
        rcases cmp3 u.1 v.1 with h | h | h
        · have huv := cmp_neg h
          rw [HD.jn_lt u v a b h]
          refine List.pairwise_cons.2 ⟨fun y hy => ?_, ih a (v :: b) (by simp only [List.length_cons]; omega) ha' hb⟩
          rcases ((mem_jn _ a (v :: b) (Nat.le_refl _) ha' hb y).1 hy).lab with ⟨p, hp, e⟩ | ⟨p, hp, e⟩
          · rw [← e]; exact hau p hp
          · rw [← e]
            rcases List.mem_cons.1 hp with rfl | hp
            · exact huv
            · exact lt_trans' huv (hbv p hp)
        · have hvu := cmp_pos h
          rw [HD.jn_gt u v a b h]
          refine List.pairwise_cons.2 ⟨fun y hy => ?_, ih (u :: a) b (by simp only [List.length_cons]; omega) ha hb'⟩
          rcases ((mem_jn _ (u :: a) b (Nat.le_refl _) ha hb' y).1 hy).lab with ⟨p, hp, e⟩ | ⟨p, hp, e⟩
          · rw [← e]
            rcases List.mem_cons.1 hp with rfl | hp
            · exact hvu
            · exact lt_trans' hvu (hau p hp)
          · rw [← e]; exact hbv p hp
        · have huv := HD.cmp_eq h
          rw [HD.jn_eq u v a b h]
          refine List.pairwise_cons.2 ⟨fun y hy => ?_, ih a b (by omega) ha' hb'⟩
          rcases ((mem_jn _ a b (Nat.le_refl _) ha' hb' y).1 hy).lab with ⟨p, hp, e⟩ | ⟨p, hp, e⟩
          · rw [← e]; exact hau p hp
          · rw [← e, huv]; exact hbv p hp

/-- No two of the same labels. -/
def Dis (l : List Sr) : Prop := ∀ i j, i < l.length → j < l.length → i ≠ j → (atSr l i).1 ≠ (atSr l j).1

theorem ord_dis {l : List Sr} (h : HD.Ord l) : Dis l := fun i j hi hj hij e => by
  rcases Nat.lt_or_gt_of_ne hij with h3 | h3
  · have := HD.ord_at h i j h3 hj
    rw [e, HD.cmp_refl] at this; cases this
  · have := HD.ord_at h j i h3 hi
    rw [e, HD.cmp_refl] at this; cases this

/-- The document's way, so far. -/
structure Way (a b : List Sr) (j : Nat) (out : List Sr) : Prop where
  dis : Dis out
  mem : ∀ x, x ∈ out ↔ MJ a (b.take j) x

theorem Way.start {a b : List Sr} (ha : HD.Ord a) : Way a b 0 a := ⟨ord_dis ha, fun x => by simp [MJ]⟩

theorem mem_take {b : List Sr} {j : Nat} {x : Sr} (h : x ∈ b.take j) : ∃ i, i < j ∧ i < b.length ∧ atSr b i = x := by
  obtain ⟨i, hi, e⟩ := HD.mem_at h
  rw [List.length_take] at hi
  refine ⟨i, by omega, by omega, ?_⟩
  rw [← e]
  unfold atSr
  rw [List.getD_eq_getElem?_getD, List.getD_eq_getElem?_getD, List.getElem?_take, if_pos (by omega)]

theorem take_next {b : List Sr} {j : Nat} (h : j < b.length) : b.take (j + 1) = b.take j ++ [atSr b j] := by
  rw [List.take_add_one]
  congr 1
  unfold atSr
  rw [List.getD_eq_getElem?_getD, List.getElem?_eq_getElem h]; rfl

/-- The next one's labels are none of those ahead of it. -/
theorem take_new {b : List Sr} (hb : HD.Ord b) {j : Nat} (h : j < b.length) : ∀ y ∈ b.take j, y.1 ≠ (atSr b j).1 := fun y hy e => by
  obtain ⟨i, h1, h2, rfl⟩ := mem_take hy
  have := HD.ord_at hb i j h1 h
  rw [e, HD.cmp_refl] at this; cases this

/-- One whose labels are nowhere. -/
theorem Way.push {a b out : List Sr} {j : Nat} (h : Way a b j out) (hb : HD.Ord b) (hj : j < b.length) (hno : ∀ i, i < out.length → LB.cmp (atSr out i).1 (atSr b j).1 ≠ 0) : Way a b (j + 1) (out ++ [atSr b j]) := by
  have hno' : ∀ y ∈ out, y.1 ≠ (atSr b j).1 := fun y hy e => by
    obtain ⟨i, hi, rfl⟩ := HD.mem_at hy
    exact hno i hi (by rw [e]; exact HD.cmp_refl _)
  have hna : ∀ y ∈ a, y.1 ≠ (atSr b j).1 := fun y hy e => by
    by_cases h1 : ∃ v ∈ b.take j, v.1 = y.1
    · obtain ⟨v, hv, e2⟩ := h1
      exact take_new hb hj v hv (e2.trans e)
    · exact hno' y ((h.mem y).2 (.inl ⟨hy, fun v hv e2 => h1 ⟨v, hv, e2⟩⟩)) e
  have hat : ∀ i, i < out.length + 1 → atSr (out ++ [atSr b j]) i = if i < out.length then atSr out i else atSr b j := fun i hi => by
    unfold atSr
    rw [List.getD_eq_getElem?_getD]
    by_cases h1 : i < out.length
    · rw [if_pos h1, List.getElem?_append_left h1, List.getD_eq_getElem?_getD]
    · rw [if_neg h1, List.getElem?_append_right (by omega), show i - out.length = 0 by omega]; rfl
  refine ⟨fun i k hi hk hik => ?_, fun x => ?_⟩
  · rw [List.length_append, List.length_singleton] at hi hk
    rw [hat i hi, hat k hk]
    by_cases h1 : i < out.length
    · rw [if_pos h1]
      by_cases h2 : k < out.length
      · rw [if_pos h2]; exact h.dis i k h1 h2 hik
      · rw [if_neg h2]; exact hno' _ (HD.at_mem out i h1)
    · rw [if_neg h1, if_pos (by omega)]
      exact fun e => hno' _ (HD.at_mem out k (by omega)) e.symm
  · rw [List.mem_append, List.mem_singleton, h.mem x, take_next hj]
    constructor
    · rintro ((h1 | h1 | ⟨u, hu, v, hv, e1, e2⟩) | rfl)
      · refine .inl ⟨h1.1, fun y hy => ?_⟩
        rcases List.mem_append.1 hy with hy | hy
        · exact h1.2 y hy
        · rw [List.mem_singleton.1 hy]; exact fun e => hna x h1.1 e.symm
      · exact .inr (.inl ⟨List.mem_append_left _ h1.1, h1.2⟩)
      · exact .inr (.inr ⟨u, hu, v, List.mem_append_left _ hv, e1, e2⟩)
      · exact .inr (.inl ⟨List.mem_append_right _ (List.mem_singleton.2 rfl), hna⟩)
    · rintro (h1 | h1 | ⟨u, hu, v, hv, e1, e2⟩)
      · exact .inl (.inl ⟨h1.1, fun y hy => h1.2 y (List.mem_append_left _ hy)⟩)
      · rcases List.mem_append.1 h1.1 with h2 | h2
        · exact .inl (.inr (.inl ⟨h2, h1.2⟩))
        · exact .inr (List.mem_singleton.1 h2)
      · rcases List.mem_append.1 hv with h2 | h2
        · exact .inl (.inr (.inr ⟨u, hu, v, h2, e1, e2⟩))
        · rw [List.mem_singleton.1 h2] at e1
          exact absurd e1 (hna u hu)

/-- One whose labels are there: then they are one of a's. -/
theorem Way.meet {a b out : List Sr} {j k : Nat} (h : Way a b j out) (ha : HD.Ord a) (hb : HD.Ord b) (hj : j < b.length) (hk : k < out.length) (he : LB.cmp (atSr out k).1 (atSr b j).1 = 0) : Way a b (j + 1) (out.set k ((atSr b j).1, CL.mrg (atSr out k).2 (atSr b j).2)) ∧ atSr out k ∈ a := by
  have hlab := HD.cmp_eq he
  have hin := (h.mem _).1 (HD.at_mem out k hk)
  have hka : atSr out k ∈ a := by
    rcases hin with h1 | h1 | ⟨u, hu, v, hv, e1, e2⟩
    · exact h1.1
    · exact absurd hlab (take_new hb hj _ h1.1)
    · exact absurd (show v.1 = (atSr b j).1 by rw [← e1, ← hlab, e2]) (take_new hb hj v hv)
  have hone : ∀ u ∈ a, u.1 = (atSr out k).1 → u = atSr out k := fun u hu e => by
    obtain ⟨p, hp, rfl⟩ := HD.mem_at hu
    obtain ⟨q, hq, e2⟩ := HD.mem_at hka
    rw [← e2] at e ⊢
    by_cases hpq : p = q
    · rw [hpq]
    · exact absurd e (ord_dis ha p q hp hq hpq)
  have hset : ∀ i, atSr (out.set k ((atSr b j).1, CL.mrg (atSr out k).2 (atSr b j).2)) i = if i = k then ((atSr b j).1, CL.mrg (atSr out k).2 (atSr b j).2) else atSr out i := fun i => by
    unfold atSr
    rw [List.getD_eq_getElem?_getD, List.getElem?_set]
    by_cases e : k = i
    · rw [if_pos e, if_pos e.symm, if_pos (by omega)]; rfl
    · rw [if_neg e, if_neg (fun e2 => e e2.symm), List.getD_eq_getElem?_getD]
  have hmem : ∀ x, x ∈ out.set k ((atSr b j).1, CL.mrg (atSr out k).2 (atSr b j).2) ↔ (x = ((atSr b j).1, CL.mrg (atSr out k).2 (atSr b j).2) ∨ (x ∈ out ∧ x ≠ atSr out k)) := fun x => by
    constructor
    · intro hx
      obtain ⟨i, hi, e⟩ := HD.mem_at hx
      rw [List.length_set] at hi
      rw [hset i] at e
      by_cases hik : i = k
      · rw [if_pos hik] at e; exact .inl e.symm
      · rw [if_neg hik] at e
        refine .inr ⟨by rw [← e]; exact HD.at_mem out i hi, fun e2 => ?_⟩
        exact h.dis i k hi hk hik (by rw [e, e2])
    · rintro (rfl | ⟨h1, h2⟩)
      · have := HD.at_mem (out.set k ((atSr b j).1, CL.mrg (atSr out k).2 (atSr b j).2)) k (by rw [List.length_set]; exact hk)
        rw [hset k, if_pos rfl] at this
        exact this
      · obtain ⟨i, hi, rfl⟩ := HD.mem_at h1
        have hik : i ≠ k := fun e => h2 (by rw [e])
        have := HD.at_mem (out.set k ((atSr b j).1, CL.mrg (atSr out k).2 (atSr b j).2)) i (by rw [List.length_set]; exact hi)
        rw [hset i, if_neg hik] at this
        exact this
  refine ⟨⟨fun i i' hi hi' hii => ?_, fun x => ?_⟩, hka⟩
  · rw [List.length_set] at hi hi'
    rw [hset i, hset i']
    by_cases h1 : i = k
    · rw [if_pos h1, if_neg (by omega)]
      show (atSr b j).1 ≠ _
      rw [← hlab]
      exact h.dis k i' hk hi' (by omega)
    · rw [if_neg h1]
      by_cases h2 : i' = k
      · rw [if_pos h2]
        show _ ≠ (atSr b j).1
        rw [← hlab]
        exact h.dis i k hi hk h1
      · rw [if_neg h2]; exact h.dis i i' hi hi' hii
  · rw [hmem x, h.mem x, take_next hj]
    constructor
    · rintro (rfl | ⟨h1 | h1 | ⟨u, hu, v, hv, e1, e2⟩, h2⟩)
      · exact .inr (.inr ⟨atSr out k, hka, atSr b j, List.mem_append_right _ (List.mem_singleton.2 rfl), hlab, by rw [hlab]⟩)
      · refine .inl ⟨h1.1, fun y hy => ?_⟩
        rcases List.mem_append.1 hy with hy | hy
        · exact h1.2 y hy
        · rw [List.mem_singleton.1 hy]
          exact fun e => h2 (hone x h1.1 (by rw [← e, hlab]))
      · exact .inr (.inl ⟨List.mem_append_left _ h1.1, h1.2⟩)
      · exact .inr (.inr ⟨u, hu, v, List.mem_append_left _ hv, e1, e2⟩)
    · rintro (h1 | h1 | ⟨u, hu, v, hv, e1, e2⟩)
      · refine .inr ⟨.inl ⟨h1.1, fun y hy => h1.2 y (List.mem_append_left _ hy)⟩, fun e => ?_⟩
        exact h1.2 (atSr b j) (List.mem_append_right _ (List.mem_singleton.2 rfl)) (by rw [e, hlab])
      · rcases List.mem_append.1 h1.1 with h2 | h2
        · refine .inr ⟨.inr (.inl ⟨h2, h1.2⟩), fun e => ?_⟩
          exact h1.2 (atSr out k) hka (by rw [e])
        · rw [List.mem_singleton.1 h2] at h1
          exact absurd hlab (h1.2 (atSr out k) hka)
      · rcases List.mem_append.1 hv with h2 | h2
        · refine .inr ⟨.inr (.inr ⟨u, hu, v, h2, e1, e2⟩), fun e => ?_⟩
          have : u.1 = (atSr b j).1 := by rw [← hlab, ← e, e2]
          exact take_new hb hj v h2 (e1.symm.trans this)
        · rw [List.mem_singleton.1 h2] at e1 e2
          have hu2 := hone u hu (by rw [e1, hlab])
          refine .inl ?_
          rw [e2, e1, hu2]

/-- The document's way and the short one come to the same. -/
theorem Way.fin {a b out R : List Sr} (h : Way a b b.length out) (ha : HD.Ord a) (hb : HD.Ord b) (hR : HD.Ord R) (hm : ∀ x, x ∈ R ↔ x ∈ out) : R = HD.jn a b := by
  refine HD.ord_ext hR (ord_jn _ a b (Nat.le_refl _) ha hb) fun x => ?_
  rw [hm x, h.mem x, List.take_length, mem_jn _ a b (Nat.le_refl _) ha hb x]

end BK

end Go.Proofs.YtdmnlmohfaafoaeDoor

namespace Go.Proofs.YtdmnlmohfaafoaeDoor
open Go.RowKit

namespace BK

theorem mem_kp {p : List LB.Lab → Int → Bool} {S : List Sr} {x : Sr} : x ∈ HD.kp p S ↔ ∃ y ∈ S, x = HD.keepS p y ∧ 0 < x.2.length := by
  unfold HD.kp
  rw [List.mem_filter, List.mem_map]
  constructor
  · rintro ⟨⟨y, hy, e⟩, h⟩
    exact ⟨y, hy, e.symm, by simpa using h⟩
  · rintro ⟨y, hy, e, h⟩
    exact ⟨⟨y, hy, e.symm⟩, by simpa using h⟩

theorem keep_keep (p q : List LB.Lab → Int → Bool) (x : Sr) : HD.keepS p (HD.keepS q x) = HD.keepS (fun L t => q L t && p L t) x := by
  unfold HD.keepS
  simp only [List.filter_filter, Prod.mk.injEq, true_and]
  congr 1
  funext s
  exact Bool.and_comm _ _

theorem kp_kp (p q : List LB.Lab → Int → Bool) : ∀ S : List Sr, HD.kp p (HD.kp q S) = HD.kp (fun L t => q L t && p L t) S := by
  intro S
  induction S with
  | nil => rfl
  | cons x S ih =>
    rw [HD.kp_cons q x S, HD.kp_cons (fun L t => q L t && p L t) x S, ← ih]
    by_cases h : 0 < (HD.keepS q x).2.length
    · rw [if_pos h]
      show HD.kp p (HD.keepS q x :: HD.kp q S) = _
      rw [HD.kp_cons p, keep_keep]
    · have h0 : ¬ 0 < (HD.keepS (fun L t => q L t && p L t) x).2.length := by
        rw [← keep_keep p q x]
        have : (HD.keepS p (HD.keepS q x)).2.length ≤ (HD.keepS q x).2.length := List.length_filter_le _ _
        omega
      rw [if_neg h, if_neg h0]
      rfl

theorem kp_true {p : List LB.Lab → Int → Bool} (hp : ∀ L t, p L t = true) : ∀ S : List Sr, (∀ x ∈ S, 0 < x.2.length) → HD.kp p S = S := by
  intro S
  induction S with
  | nil => intro _; rfl
  | cons x S ih =>
    intro h
    have e : HD.keepS p x = x := by
      unfold HD.keepS
      rw [List.filter_eq_self.2 (fun s _ => hp _ _)]
    rw [HD.kp_cons p x S, e, if_pos (h x List.mem_cons_self), ih (fun y hy => h y (List.mem_cons_of_mem _ hy))]
    rfl

/-- Those that are of none. -/
def none' {γ : Type} (f : γ → List LB.Lab → Int → Bool) (gs : List γ) : List LB.Lab → Int → Bool := fun L t => gs.all fun g => !f g L t

/-- One by one is at once. -/
theorem left_all {γ : Type} (f : γ → List LB.Lab → Int → Bool) : ∀ (gs : List γ) (S : List Sr), (∀ x ∈ S, 0 < x.2.length) → gs.foldl (fun l g => HD.kp (fun L t => !f g L t) l) S = HD.kp (none' f gs) S := by
  intro gs
  induction gs with
  | nil => intro S h; exact (kp_true (fun _ _ => rfl) S h).symm
  | cons g gs ih =>
    intro S h
    rw [List.foldl_cons, ih _ (fun x hx => (mem_kp.1 hx).choose_spec.2.2), kp_kp]
    rfl

theorem kp_congr {p q : List LB.Lab → Int → Bool} (h : ∀ L t, p L t = q L t) (S : List Sr) : HD.kp p S = HD.kp q S := by
  have : p = q := by funext L t; exact h L t
  rw [this]

theorem none_append {γ : Type} (f : γ → List LB.Lab → Int → Bool) (a b : List γ) (L : List LB.Lab) (t : Int) : none' f (a ++ b) L t = (none' f a L t && none' f b L t) := List.all_append

/-- In any order. -/
theorem kp_split {γ : Type} (f : γ → List LB.Lab → Int → Bool) (gs : List γ) (k : Nat) (S : List Sr) : HD.kp (none' f (gs.take k)) (HD.kp (none' f (gs.drop k)) S) = HD.kp (none' f gs) S := by
  rw [kp_kp]
  refine kp_congr (fun L t => ?_) S
  rw [Bool.and_comm, ← none_append, List.take_append_drop]

theorem kp_twice (p : List LB.Lab → Int → Bool) (S : List Sr) : HD.kp p (HD.kp p S) = HD.kp p S := by
  rw [kp_kp]
  exact kp_congr (fun L t => Bool.and_self _) S

theorem mrg_filter (q : Int → Bool) (a b : List CL.Smp) (ha : CL.Rising a) (hb : CL.Rising b) : (CL.mrg a b).filter (fun s => q s.1) = CL.mrg (a.filter fun s => q s.1) (b.filter fun s => q s.1) := by
  have hfa : CL.Rising (a.filter fun s => q s.1) := ha.filter _
  have hfb : CL.Rising (b.filter fun s => q s.1) := hb.filter _
  refine CL.rising_ext _ _ ((CL.rising_mrg a b ha hb).filter _) (CL.rising_mrg _ _ hfa hfb) fun x => ?_
  rw [List.mem_filter, CL.mem_mrg a b ha hb, CL.mem_mrg _ _ hfa hfb, List.mem_filter, List.mem_filter]
  constructor
  · rintro ⟨h | ⟨h1, h2⟩, hq⟩
    · exact .inl ⟨h, hq⟩
    · exact .inr ⟨⟨h1, hq⟩, fun y hy => h2 y (List.mem_filter.1 hy).1⟩
  · rintro (⟨h, hq⟩ | ⟨⟨h1, hq⟩, h2⟩)
    · exact ⟨.inl h, hq⟩
    · refine ⟨.inr ⟨h1, fun y hy e => ?_⟩, hq⟩
      exact h2 y (List.mem_filter.2 ⟨hy, by rw [e]; exact hq⟩) e

theorem mrg_nil (a : List CL.Smp) : CL.mrg a [] = a := by cases a <;> simp [CL.mrg]
theorem nil_mrg (a : List CL.Smp) : CL.mrg [] a = a := by cases a <;> simp [CL.mrg]

theorem mrg_self (a : List CL.Smp) (h : CL.Rising a) : CL.mrg a a = a :=
  CL.rising_ext _ _ (CL.rising_mrg a a h h) h fun x => by
    rw [CL.mem_mrg a a h h]
    exact ⟨fun h => h.elim id fun h => h.1, .inl⟩

/-- Ahead of a merge or behind it. -/
theorem kp_jn (p : List LB.Lab → Int → Bool) {a b : List Sr} (ha : HD.Good a) (hb : HD.Good b) : HD.kp p (HD.jn a b) = HD.jn (HD.kp p a) (HD.kp p b) := by
  have hoa := (HD.kp_good (p := p) ha).ord
  have hob := (HD.kp_good (p := p) hb).ord
  have hoj := ord_jn _ a b (Nat.le_refl _) ha.ord hb.ord
  have hris : ∀ {S : List Sr}, HD.Good S → ∀ x ∈ S, CL.Rising x.2 := fun h x hx => CL.rising_of_right _ (h.ok x hx).2.1
  have hkp : ∀ {S : List Sr}, HD.Ord S → HD.Ord (HD.kp p S) := fun {S} h => by
    unfold HD.kp HD.Ord
    exact (List.pairwise_map.2 (h.imp fun h => h)).filter _
  have hone : ∀ {S : List Sr}, HD.Ord S → ∀ x ∈ S, ∀ y ∈ S, x.1 = y.1 → x = y := fun {S} h x hx y hy e => by
    obtain ⟨i, hi, rfl⟩ := HD.mem_at hx
    obtain ⟨j, hj, rfl⟩ := HD.mem_at hy
    by_cases hij : i = j
    · rw [hij]
    · exact absurd e (ord_dis h i j hi hj hij)
  have hlk : ∀ y : Sr, (HD.keepS p y).1 = y.1 := fun _ => rfl
  have hmk : ∀ u v : Sr, u.1 = v.1 → CL.Rising u.2 → CL.Rising v.2 → HD.keepS p (u.1, CL.mrg u.2 v.2) = (u.1, CL.mrg (HD.keepS p u).2 (HD.keepS p v).2) := fun u v e hu hv => by
    unfold HD.keepS
    simp only [Prod.mk.injEq, true_and]
    rw [← e]
    exact mrg_filter (fun t => p u.1 t) u.2 v.2 hu hv
  refine HD.ord_ext (hkp hoj) (ord_jn _ _ _ (Nat.le_refl _) hoa hob) fun x => ?_
  rw [mem_kp, mem_jn _ _ _ (Nat.le_refl _) hoa hob x]
  constructor
  · rintro ⟨y, hy, rfl, hpos⟩
    rcases (mem_jn _ a b (Nat.le_refl _) ha.ord hb.ord y).1 hy with ⟨h1, h2⟩ | ⟨h1, h2⟩ | ⟨u, hu, v, hv, e1, e2⟩
    · refine .inl ⟨mem_kp.2 ⟨y, h1, rfl, hpos⟩, fun z hz => ?_⟩
      obtain ⟨w, hw, e, _⟩ := mem_kp.1 hz
      rw [e]
      exact h2 w hw
    · refine .inr (.inl ⟨mem_kp.2 ⟨y, h1, rfl, hpos⟩, fun z hz => ?_⟩)
      obtain ⟨w, hw, e, _⟩ := mem_kp.1 hz
      rw [e]
      exact h2 w hw
    · have hm := hmk u v e1 (hris ha u hu) (hris hb v hv)
      rw [e2] at hpos ⊢
      rw [hm] at hpos ⊢
      by_cases h1 : 0 < (HD.keepS p u).2.length
      · by_cases h2 : 0 < (HD.keepS p v).2.length
        · exact .inr (.inr ⟨HD.keepS p u, mem_kp.2 ⟨u, hu, rfl, h1⟩, HD.keepS p v, mem_kp.2 ⟨v, hv, rfl, h2⟩, e1, rfl⟩)
        · have e0 : (HD.keepS p v).2 = [] := List.eq_nil_of_length_eq_zero (by omega)
          refine .inl ⟨mem_kp.2 ⟨u, hu, ?_, ?_⟩, fun z hz => ?_⟩
          · rw [e0, mrg_nil]; rfl
          · exact hpos
          · obtain ⟨w, hw, e, hp⟩ := mem_kp.1 hz
            intro ez
            rw [e] at ez hp
            have : w = v := hone hb.ord w hw v hv (ez.trans e1)
            rw [this] at hp
            exact h2 hp
      · have e0 : (HD.keepS p u).2 = [] := List.eq_nil_of_length_eq_zero (by omega)
        refine .inr (.inl ⟨mem_kp.2 ⟨v, hv, ?_, ?_⟩, fun z hz => ?_⟩)
        · rw [e0, nil_mrg, e1]; rfl
        · exact hpos
        · obtain ⟨w, hw, e, hp⟩ := mem_kp.1 hz
          intro ez
          rw [e] at ez hp
          have : w = u := hone ha.ord w hw u hu ez
          rw [this] at hp
          exact h1 hp
  · rintro (⟨h1, h2⟩ | ⟨h1, h2⟩ | ⟨u, hu, v, hv, e1, e2⟩)
    · obtain ⟨y, hy, e, hpos⟩ := mem_kp.1 h1
      by_cases hb2 : ∃ v ∈ b, v.1 = y.1
      · obtain ⟨v, hv, ev⟩ := hb2
        refine ⟨(y.1, CL.mrg y.2 v.2), (mem_jn _ a b (Nat.le_refl _) ha.ord hb.ord _).2 (.inr (.inr ⟨y, hy, v, hv, ev.symm, rfl⟩)), ?_, hpos⟩
        have h0 : ¬ 0 < (HD.keepS p v).2.length := fun h => h2 (HD.keepS p v) (mem_kp.2 ⟨v, hv, rfl, h⟩) (by rw [e]; exact ev)
        have e0 : (HD.keepS p v).2 = [] := List.eq_nil_of_length_eq_zero (by omega)
        rw [hmk y v ev.symm (hris ha y hy) (hris hb v hv), e0, mrg_nil, e]; rfl
      · exact ⟨y, (mem_jn _ a b (Nat.le_refl _) ha.ord hb.ord _).2 (.inl ⟨hy, fun v hv ev => hb2 ⟨v, hv, ev⟩⟩), e, hpos⟩
    · obtain ⟨y, hy, e, hpos⟩ := mem_kp.1 h1
      by_cases hb2 : ∃ u ∈ a, u.1 = y.1
      · obtain ⟨u, hu, eu⟩ := hb2
        refine ⟨(u.1, CL.mrg u.2 y.2), (mem_jn _ a b (Nat.le_refl _) ha.ord hb.ord _).2 (.inr (.inr ⟨u, hu, y, hy, eu, rfl⟩)), ?_, hpos⟩
        have h0 : ¬ 0 < (HD.keepS p u).2.length := fun h => h2 (HD.keepS p u) (mem_kp.2 ⟨u, hu, rfl, h⟩) (by rw [e]; exact eu)
        have e0 : (HD.keepS p u).2 = [] := List.eq_nil_of_length_eq_zero (by omega)
        rw [hmk u y eu (hris ha u hu) (hris hb y hy), e0, nil_mrg, e, eu]; rfl
      · exact ⟨y, (mem_jn _ a b (Nat.le_refl _) ha.ord hb.ord _).2 (.inr (.inl ⟨hy, fun u hu eu => hb2 ⟨u, hu, eu⟩⟩)), e, hpos⟩
    · obtain ⟨y, hy, ey, h1⟩ := mem_kp.1 hu
      obtain ⟨z, hz, ez, h2⟩ := mem_kp.1 hv
      rw [ey, ez] at e1
      refine ⟨(y.1, CL.mrg y.2 z.2), (mem_jn _ a b (Nat.le_refl _) ha.ord hb.ord _).2 (.inr (.inr ⟨y, hy, z, hz, e1, rfl⟩)), ?_, ?_⟩
      · rw [hmk y z e1 (hris ha y hy) (hris hb z hz), e2, ey, ez]; rfl
      · rw [e2]
        have h3 := CL.mem_mrg u.2 v.2 (by rw [ey]; exact (hris ha y hy).filter _) (by rw [ez]; exact (hris hb z hz).filter _)
        obtain ⟨s, hs⟩ := List.exists_mem_of_length_pos h2
        exact List.length_pos_of_mem ((h3 s).2 (.inl hs))

/-- Merged with itself nothing changes. -/
theorem jn_self : ∀ (a : List Sr), (∀ x ∈ a, CL.Rising x.2) → HD.jn a a = a := by
  intro a
  induction a with
  | nil => intro _; rw [HD.jn_nil]
  | cons x a ih =>
    intro h
    rw [HD.jn_eq x x a a (HD.cmp_refl _), ih (fun y hy => h y (List.mem_cons_of_mem _ hy)), mrg_self x.2 (h x List.mem_cons_self)]

end BK

end Go.Proofs.YtdmnlmohfaafoaeDoor

namespace Go.Proofs.YtdmnlmohfaafoaeDoor
open Go.RowKit

/-- A slice that is one: no longer than its room. -/
def CapV (v : Value) : Prop := ∀ so n sc, v = .slice so n sc → n ≤ sc ∧ (so = none → sc = 0)

theorem own_cap {w : World} {base n size : Nat} {e : TypeId} {v : Value} {xs : List Value} (h : w.ownsRow base e size v n xs) : CapV v := fun so m sc e => by
  rcases h.2 with ⟨h0, h1⟩ | ⟨g, cap, cur, h0, _, _, h3, _⟩
  · rw [h0] at e; cases e; exact ⟨Nat.le_refl _, fun _ => rfl⟩
  · rw [h0] at e; cases e; exact ⟨h3, fun e => by cases e⟩

/-- Which samples may be, told apart. -/
theorem right_key (l : List CL.Smp) : CL.right l = true ↔ l.length ≤ 2000 ∧ l.Pairwise (fun a b => a.1 < b.1) ∧ ∀ s ∈ l, -1099511627776 ≤ s.1 ∧ s.1 ≤ 1099511627776 := by
  rw [CL.right_iff]
  have ge : ∀ i (hi : i < l.length), CL.at' l i = l[i] := fun i hi => by
    unfold CL.at'; rw [List.getD_eq_getElem?_getD, List.getElem?_eq_getElem hi]; rfl
  constructor
  · rintro ⟨h1, h2⟩
    refine ⟨h1, ?_, fun s hs => ?_⟩
    · rw [List.pairwise_iff_getElem]
      have step : ∀ n i, i + n < l.length → 0 < n → (CL.at' l i).1 < (CL.at' l (i + n)).1 := by
        intro n
        induction n with
        | zero => intro i _ h; omega
        | succ n ih =>
          intro i hi _
          have h3 := ((CL.okAt_iff l (i + (n + 1))).1 (h2 _ hi)).2
          have h4 : (CL.at' l (i + n)).1 < (CL.at' l (i + (n + 1))).1 := by
            rcases h3 with h3 | h3
            · omega
            · exact h3
          by_cases hn : n = 0
          · subst hn; exact h4
          · have := ih i (by omega) (by omega); omega
      intro i j hi hj hij
      have := step (j - i) i (by omega) (by omega)
      rw [show i + (j - i) = j by omega, ge i hi, ge j hj] at this
      exact this
    · obtain ⟨i, hi, e⟩ := List.mem_iff_getElem.1 hs
      have := ((CL.okAt_iff l i).1 (h2 i hi)).1
      rw [ge i hi, e] at this
      exact this
  · rintro ⟨h1, h2, h3⟩
    refine ⟨h1, fun i hi => (CL.okAt_iff l i).2 ⟨?_, ?_⟩⟩
    · rw [ge i hi]; exact h3 _ (List.getElem_mem hi)
    · by_cases h0 : i = 0
      · exact .inl h0
      · right
        rw [ge i hi, ge (i - 1) (by omega)]
        exact List.pairwise_iff_getElem.1 h2 (i - 1) i (by omega) hi (by omega)

theorem right_mrg {a b : List CL.Smp} (ha : CL.right a = true) (hb : CL.right b = true) (hn : (CL.mrg a b).length ≤ 2000) : CL.right (CL.mrg a b) = true := by
  have hra := CL.rising_of_right a ha
  have hrb := CL.rising_of_right b hb
  refine (right_key _).2 ⟨hn, CL.rising_mrg a b hra hrb, fun s hs => ?_⟩
  rcases (CL.mem_mrg a b hra hrb s).1 hs with h | h
  · exact ((right_key b).1 hb).2.2 s h
  · exact ((right_key a).1 ha).2.2 s h.1

/-- What is gone. -/
structure Gn where
  M : List LB.Mat
  fr : Int
  tt : Int

def atG (l : List Gn) (i : Nat) : Gn := l.getD i ⟨[], 0, 0⟩

/-- Rows of what is gone that came in. -/
def GRow (w : World) (ao : Option Addr) (l : List Gn) : Prop := ∀ i, i < l.length → ∃ b off, ao = some ⟨b, off, none⟩ ∧ b < w.heap.size ∧ ∃ mo mc, w.cell? ⟨b, off + i * 3, none⟩ = some (.slice mo (atG l i).M.length mc) ∧ w.cell? ⟨b, off + i * 3 + 1, none⟩ = some (.int .i64 (atG l i).fr) ∧ w.cell? ⟨b, off + i * 3 + 2, none⟩ = some (.int .i64 (atG l i).tt) ∧ MRow w mo (atG l i).M

/-- A sample is gone. -/
abbrev goG (g : Gn) : List LB.Lab → Int → Bool := goP g.M fun s => decide (g.fr ≤ s) && decide (s ≤ g.tt)

/-- What is left, one by one. -/
def leftG (a : List Sr) (gs : List Gn) : List Sr := gs.foldl (fun l g => HD.kp (fun L t => !goG g L t) l) a

theorem leftG_next (a : List Sr) (gs : List Gn) (k : Nat) (h : k < gs.length) : leftG a (gs.take (k + 1)) = HD.kp (fun L t => !goG (atG gs k) L t) (leftG a (gs.take k)) := by
  have e : gs.take (k + 1) = gs.take k ++ [atG gs k] := by
    rw [List.take_add_one]
    congr 1
    unfold atG
    rw [List.getD_eq_getElem?_getD, List.getElem?_eq_getElem h]; rfl
  rw [e]
  unfold leftG
  rw [List.foldl_append]
  rfl

theorem leftG_good {a : List Sr} (h : HD.Good a) : ∀ gs : List Gn, HD.Good (leftG a gs) := by
  intro gs
  induction gs generalizing a with
  | nil => exact h
  | cons g gs ih => exact ih (HD.kp_good h)

theorem ord_steps {S : List Sr} (h : ∀ k, k < S.length → 0 < k → LB.cmp (atSr S (k - 1)).1 (atSr S k).1 < 0) : HD.Ord S := by
  have key : ∀ j, j < S.length → ∀ i, i < j → LB.cmp (atSr S i).1 (atSr S j).1 = -1 := by
    intro j
    induction j with
    | zero => intro _ i hi; omega
    | succ j ih =>
      intro hj i hi
      have h1 := BK.cmp_neg (h (j + 1) hj (by omega))
      rw [Nat.add_sub_cancel] at h1
      by_cases e : i = j
      · rw [e]; exact h1
      · exact BK.lt_trans' (ih (by omega) i (by omega)) h1
  unfold HD.Ord
  rw [List.pairwise_iff_getElem]
  intro i j hi hj hij
  rw [HD.at_get S i hi, HD.at_get S j hj]
  exact key j hj i hij

theorem right_good {tp old : Int} {S : List Sr} (h : BK.right tp old S = true) (hn : S.length ≤ 60) (hR : ∀ i, i < S.length → ∀ s ∈ (atSr S i).2, CL.Rs s) : HD.Good S := by
  unfold BK.right at h
  simp only [Bool.and_eq_true] at h
  have h1 := of_decide_eq_true h.1
  refine ⟨ord_steps fun k hk h0 => (h1 k hk).2 h0, hn, fun x hx => ?_⟩
  obtain ⟨i, hi, rfl⟩ := HD.mem_at hx
  have h2 := (h1 i hi).1
  unfold BK.okS at h2
  simp only [Bool.and_eq_true, decide_eq_true_eq] at h2
  exact ⟨h2.1, h2.2.1, h2.2.2.1, hR i hi⟩

theorem good_fewB {S : List Sr} (h : HD.Good S) : SrFew S := ⟨by have := h.few; omega, fun i hi => by
  have hok := h.ok _ (HD.at_mem S i hi)
  have h1 := right_len hok.1
  have h2 := right_le hok.2.1
  omega⟩

theorem jn_len : ∀ (n : Nat) (a b : List Sr), a.length + b.length ≤ n → (HD.jn a b).length ≤ a.length + b.length := by
  intro n
  induction n with
  | zero =>
    intro a b hn
    have h1 : a = [] := List.eq_nil_of_length_eq_zero (by omega)
    subst h1
    rw [HD.jn_nil']; simp
  | succ n ih =>
    intro a b hn
    cases a with
    | nil => rw [HD.jn_nil']; simp
    | cons u a =>
      cases b with
      | nil => rw [HD.jn_nil]; simp
      | cons v b =>
        simp only [List.length_cons] at hn
        rcases BK.cmp3 u.1 v.1 with h | h | h
        · rw [HD.jn_lt u v a b h]
          have := ih a (v :: b) (by simp only [List.length_cons]; omega)
          simp only [List.length_cons] at this ⊢
          omega
        · rw [HD.jn_gt u v a b h]
          have := ih (u :: a) b (by simp only [List.length_cons]; omega)
          simp only [List.length_cons] at this ⊢
          omega
        · rw [HD.jn_eq u v a b h]
          have := ih a b (by omega)
          simp only [List.length_cons] at this ⊢
          omega

theorem jn_few {a b : List Sr} (ha : HD.Good a) (hb : HD.Good b) : SrFew (HD.jn a b) := by
  have h1 := jn_len _ a b (Nat.le_refl _)
  have h2 := ha.few
  have h3 := hb.few
  refine ⟨by omega, fun i hi => ?_⟩
  have hm := (BK.mem_jn _ a b (Nat.le_refl _) ha.ord hb.ord _).1 (HD.at_mem _ i hi)
  rcases hm with h | h | ⟨u, hu, v, hv, e1, e2⟩
  · have hok := ha.ok _ h.1
    have := right_len hok.1
    have := right_le hok.2.1
    omega
  · have hok := hb.ok _ h.1
    have := right_len hok.1
    have := right_le hok.2.1
    omega
  · rw [e2]
    have hok := ha.ok _ hu
    have hok2 := hb.ok _ hv
    have := right_len hok.1
    have := right_le hok.2.1
    have := right_le hok2.2.1
    have := CL.mrg_len u.2 v.2
    exact ⟨by show u.1.length ≤ 1000; omega, by show (CL.mrg u.2 v.2).length ≤ 1000000; omega⟩

theorem asked_opB {l : List LB.Mat} (h : LB.asked l = true) (i : Nat) (hi : i < l.length) : 0 ≤ (LB.am l i).op ∧ (LB.am l i).op ≤ 3 := by
  unfold LB.asked at h
  simp only [Bool.and_eq_true] at h
  have h1 := List.all_eq_true.1 h.2 (LB.am l i) (LB.am_mem l i hi)
  unfold LB.askd at h1
  simp only [Bool.and_eq_true, decide_eq_true_eq] at h1
  omega

/-- A row's slices of samples are no longer than their room. -/
def CapR (w : World) (ao : Option Addr) (a : List Sr) : Prop := ∀ i, i < a.length → ∀ b off, ao = some ⟨b, off, none⟩ → ∀ v, w.cell? ⟨b, off + i * 2 + 1, none⟩ = some v → CapV v

/-- A row of series, with its room. -/
def RowOk (w : World) (v : Value) (S : List Sr) : Prop := ∃ ao cap, v = .slice ao S.length cap ∧ SrRow w ao S ∧ CapR w ao S ∧ S.length ≤ cap ∧ (ao = none → cap = 0)

theorem RowOk.below {w w' : World} {v : Value} {S : List Sr} (h : RowOk w v S) (k : Below w.heap.size w w') : RowOk w' v S := by
  obtain ⟨ao, cap, h1, h2, h3, h4, h5⟩ := h
  refine ⟨ao, cap, h1, h2.below k, fun i hi b off e u hu => ?_, h4, h5⟩
  obtain ⟨b2, off2, e2, hb2, _⟩ := h2 i hi
  rw [e] at e2
  cases e2
  exact h3 i hi b off e u ((k.cell (p := ⟨b, _, none⟩) hb2).symm.trans hu)

theorem RowOk.of_own {w : World} {base : Nat} {v : Value} {S : List Sr} (h : SrOwn w base v S) : RowOk w v S := by
  obtain ⟨ao, cap, e, hr⟩ := SrRow.of_own h
  obtain ⟨xs, h1, h2, h3⟩ := h
  refine ⟨ao, cap, e, hr, fun i hi b off eb u hu => ?_, ?_, ?_⟩
  · rcases h2.2 with ⟨h0, hn⟩ | ⟨g, c, cur, h0, _⟩
    · omega
    · rw [e] at h0
      simp only [Value.slice.injEq] at h0
      rw [eb] at h0
      have hg : b = g ∧ off = 0 := by
        have := h0.1
        simp only [Option.some.injEq, Addr.mk.injEq] at this
        exact ⟨this.1, this.2.1⟩
      obtain ⟨rfl, rfl⟩ := hg
      have c1 := h2.cells (g := b) (by rw [e, eb]; rfl) _ _ (flat_get xs i (by omega)).2
      rw [Addr.add_lit] at c1
      rw [show 0 + i * 2 + 1 = 0 + (i * 2 + 1) by omega, c1] at hu
      cases hu
      exact own_cap (h3 i hi).2
  · exact (own_cap h2 ao S.length cap e).1
  · exact (own_cap h2 ao S.length cap e).2

/-- A row of what is gone, with its room. -/
def GOk (w : World) (v : Value) (gs : List Gn) : Prop := ∃ go gc, v = .slice go gs.length gc ∧ GRow w go gs ∧ gs.length ≤ gc ∧ (go = none → gc = 0)

theorem GRow.below {w w' : World} {go : Option Addr} {gs : List Gn} (h : GRow w go gs) (k : Below w.heap.size w w') : GRow w' go gs := fun i hi => by
  obtain ⟨b, off, e, hb, mo, mc, c0, c1, c2, hM⟩ := h i hi
  exact ⟨b, off, e, Nat.lt_of_lt_of_le hb k.size, mo, mc, (k.cell (p := ⟨b, _, none⟩) hb).trans c0, (k.cell (p := ⟨b, _, none⟩) hb).trans c1, (k.cell (p := ⟨b, _, none⟩) hb).trans c2, hM.below k⟩

theorem GOk.below {w w' : World} {v : Value} {gs : List Gn} (h : GOk w v gs) (k : Below w.heap.size w w') : GOk w' v gs := by
  obtain ⟨go, gc, h1, h2, h3, h4⟩ := h
  exact ⟨go, gc, h1, h2.below k, h3, h4⟩

end Go.Proofs.YtdmnlmohfaafoaeDoor

