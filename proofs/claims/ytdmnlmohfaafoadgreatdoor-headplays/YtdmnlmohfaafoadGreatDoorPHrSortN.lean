/- The stable sort's moves, plain: exchanging, exchanging ranges, rotating, and why merging by halves merges. No program in it. What sorting tells, plain: in order, of the same, each once: one list. No program in it. -/
import Derived.RowKit
import Derived.Test.YtdmnlmohfaafoadGreatDoorPHdRow
namespace Go.Proofs.YtdmnlmohfaafoadGreatDoor
namespace ST

variable {α : Type}

/-- Two places exchanged. -/
def sw (d : Nat → α) (i j : Nat) : Nat → α := fun k => if k = i then d j else if k = j then d i else d k

/-- Exchanges within [a, b). -/
inductive Sw (a b : Nat) : (Nat → α) → (Nat → α) → Prop
  | refl (d) : Sw a b d d
  | step {d e} (i j : Nat) : Sw a b d e → a ≤ i → i < b → a ≤ j → j < b → Sw a b d (sw e i j)

theorem Sw.trans {a b : Nat} {d e f : Nat → α} (h : Sw a b d e) (k : Sw a b e f) : Sw a b d f := by
  induction k with
  | refl => exact h
  | step i j _ h1 h2 h3 h4 ih => exact .step i j ih h1 h2 h3 h4

theorem Sw.wide {a b a' b' : Nat} {d e : Nat → α} (h : Sw a b d e) (ha : a' ≤ a) (hb : b ≤ b') : Sw a' b' d e := by
  induction h with
  | refl => exact .refl _
  | step i j _ h1 h2 h3 h4 ih => exact .step i j ih (by omega) (by omega) (by omega) (by omega)

theorem Sw.out {a b : Nat} {d e : Nat → α} (h : Sw a b d e) {k : Nat} (hk : k < a ∨ b ≤ k) : e k = d k := by
  induction h with
  | refl => rfl
  | step i j _ h1 h2 h3 h4 ih =>
    unfold sw
    rw [if_neg (by omega), if_neg (by omega)]
    exact ih

theorem Sw.back {a b : Nat} {d e : Nat → α} (h : Sw a b d e) {k : Nat} (hk : a ≤ k ∧ k < b) : ∃ k', (a ≤ k' ∧ k' < b) ∧ e k = d k' := by
  induction h generalizing k with
  | refl => exact ⟨k, hk, rfl⟩
  | step i j _ h1 h2 h3 h4 ih =>
    unfold sw
    split
    · exact ih ⟨h3, h4⟩
    · split
      · exact ih ⟨h1, h2⟩
      · exact ih hk

/-- n places from a on exchanged with those from b on. -/
def swR (d : Nat → α) (a b n : Nat) : Nat → α := fun k => if a ≤ k ∧ k < a + n then d (b + (k - a)) else if b ≤ k ∧ k < b + n then d (a + (k - b)) else d k

theorem swR_zero (d : Nat → α) (a b : Nat) : swR d a b 0 = d := by
  funext k
  unfold swR
  rw [if_neg (by omega), if_neg (by omega)]

theorem swR_succ (d : Nat → α) (a b n : Nat) (h : a + n < b) : swR d a b (n + 1) = sw (swR d a b n) (a + n) (b + n) := by
  funext k
  unfold swR sw
  dsimp only
  by_cases h1 : k = a + n
  · subst h1
    rw [if_pos (by omega), if_pos rfl, if_neg (by omega), if_neg (by omega)]
    congr 1
    omega
  · rw [if_neg h1]
    by_cases h2 : k = b + n
    · subst h2
      rw [if_neg (by omega), if_pos (by omega), if_pos rfl, if_neg (by omega), if_neg (by omega)]
      congr 1
      omega
    · rw [if_neg h2]
      by_cases h3 : a ≤ k ∧ k < a + n
      · rw [if_pos (by omega), if_pos h3]
      · rw [if_neg (by omega), if_neg h3]
        by_cases h4 : b ≤ k ∧ k < b + n
        · rw [if_pos (by omega), if_pos h4]
        · rw [if_neg (by omega), if_neg h4]

theorem swR_sw (d : Nat → α) (a b n : Nat) (h : a + n ≤ b) {lo hi : Nat} (hl : lo ≤ a) (hh : b + n ≤ hi) : Sw lo hi d (swR d a b n) := by
  have key : ∀ m, m ≤ n → Sw lo hi d (swR d a b m) := by
    intro m
    induction m with
    | zero => intro _; rw [swR_zero]; exact .refl _
    | succ m ih =>
      intro hm
      rw [swR_succ d a b m (by omega)]
      exact .step _ _ (ih (by omega)) (by omega) (by omega) (by omega) (by omega)
  exact key n (Nat.le_refl _)

/-- [a, m) and [m, b) change places. -/
def rot (d : Nat → α) (a m b : Nat) : Nat → α := fun k => if a ≤ k ∧ k < a + (b - m) then d (m + (k - a)) else if a + (b - m) ≤ k ∧ k < b then d (a + (k - (a + (b - m)))) else d k

theorem rot_same (d : Nat → α) (m i : Nat) (hi : i ≤ m) : rot d (m - i) m (m + i) = swR d (m - i) m i := by
  funext k
  unfold rot swR
  by_cases h1 : m - i ≤ k ∧ k < m - i + i
  · rw [if_pos (by omega), if_pos h1]
  · rw [if_neg (by omega), if_neg h1]
    by_cases h2 : m ≤ k ∧ k < m + i
    · rw [if_pos (by omega), if_pos h2]
      congr 1
      omega
    · rw [if_neg (by omega), if_neg h2]

theorem rot_left (d : Nat → α) (m i j : Nat) (hi : i ≤ m) (hij : j < i) : rot d (m - i) m (m + j) = rot (swR d (m - i) m j) (m - (i - j)) m (m + j) := by
  funext k
  unfold rot swR
  by_cases h1 : m - i ≤ k ∧ k < m - i + (m + j - m)
  · rw [if_pos h1, if_neg (by omega), if_neg (by omega), if_pos (by omega)]
  · rw [if_neg h1]
    by_cases h2 : m - i + (m + j - m) ≤ k ∧ k < m + j
    · rw [if_pos h2]
      by_cases h3 : m - (i - j) ≤ k ∧ k < m - (i - j) + (m + j - m)
      · rw [if_pos h3, if_neg (by omega), if_pos (by omega)]
        congr 1
        omega
      · rw [if_neg h3, if_pos (by omega), if_neg (by omega), if_neg (by omega)]
        congr 1
        omega
    · rw [if_neg h2, if_neg (by omega), if_neg (by omega), if_neg (by omega), if_neg (by omega)]

theorem rot_right (d : Nat → α) (m i j : Nat) (hi : i ≤ m) (hij : i < j) : rot d (m - i) m (m + j) = rot (swR d (m - i) (m + j - i) i) (m - i) m (m + (j - i)) := by
  funext k
  unfold rot swR
  by_cases h1 : m - i ≤ k ∧ k < m - i + (m + j - m)
  · rw [if_pos h1]
    by_cases h2 : m - i ≤ k ∧ k < m - i + (m + (j - i) - m)
    · rw [if_pos h2, if_neg (by omega)]
      by_cases h3 : m + j - i ≤ m + (k - (m - i)) ∧ m + (k - (m - i)) < m + j - i + i
      · omega
      · rw [if_neg h3]
    · rw [if_neg h2]
      by_cases h3 : m - i + (m + (j - i) - m) ≤ k ∧ k < m + (j - i)
      · rw [if_pos h3, if_pos (by omega)]
        congr 1
        omega
      · omega
  · rw [if_neg h1]
    by_cases h2 : m - i + (m + j - m) ≤ k ∧ k < m + j
    · rw [if_pos h2, if_neg (by omega), if_neg (by omega), if_neg (by omega), if_pos (by omega)]
      congr 1
      omega
    · rw [if_neg h2, if_neg (by omega), if_neg (by omega), if_neg (by omega), if_neg (by omega)]

/-- Rotating is exchanging. -/
theorem rot_sw (d : Nat → α) (a m b : Nat) (ham : a < m) (hmb : m < b) : Sw a b d (rot d a m b) := by
  have key : ∀ (k i j : Nat) (e : Nat → α), i + j ≤ k → 1 ≤ i → 1 ≤ j → i ≤ m → Sw (m - i) (m + j) e (rot e (m - i) m (m + j)) := by
    intro k
    induction k with
    | zero => intro i j e h h1; omega
    | succ k ih =>
      intro i j e h h1 h2 h3
      rcases Nat.lt_trichotomy j i with h4 | h4 | h4
      · rw [rot_left e m i j h3 h4]
        exact (swR_sw e (m - i) m j (by omega) (Nat.le_refl _) (Nat.le_refl _)).trans ((ih (i - j) j _ (by omega) (by omega) h2 (by omega)).wide (by omega) (Nat.le_refl _))
      · subst h4
        rw [rot_same e m j h3]
        exact swR_sw e (m - j) m j (by omega) (Nat.le_refl _) (Nat.le_refl _)
      · rw [rot_right e m i j h3 h4]
        exact (swR_sw e (m - i) (m + j - i) i (by omega) (Nat.le_refl _) (by omega)).trans ((ih i (j - i) _ (by omega) h1 (by omega) h3).wide (Nat.le_refl _) (by omega))
  have := key (b - a) (m - a) (b - m) d (by omega) (by omega) (by omega) (by omega)
  have e1 : m - (m - a) = a := by omega
  have e2 : m + (b - m) = b := by omega
  rw [e1, e2] at this
  exact this

theorem rot_none_l (d : Nat → α) (m b : Nat) (h : m ≤ b) : rot d m m b = d := by
  funext k
  unfold rot
  split
  · congr 1; omega
  · split
    · omega
    · rfl

section
variable (lt : α → α → Bool)

/-- None behind is ahead of one before it. -/
def Asc (d : Nat → α) (a b : Nat) : Prop := ∀ i j, a ≤ i → i < j → j < b → lt (d j) (d i) = false

/-- All of [a, m) may stand ahead of all of [m, b). -/
def Apart (d : Nat → α) (a m b : Nat) : Prop := ∀ i j, a ≤ i → i < m → m ≤ j → j < b → lt (d j) (d i) = false

/-- What an order is asked here: not ahead is passed on. -/
structure Weak : Prop where
  irr : ∀ x, lt x x = false
  asym : ∀ x y, lt x y = true → lt y x = false
  ntr : ∀ x y z, lt y x = false → lt z y = false → lt z x = false

variable {lt}

theorem Asc.part {d : Nat → α} {a b a' b' : Nat} (h : Asc lt d a b) (ha : a ≤ a') (hb : b' ≤ b) : Asc lt d a' b' := fun i j h1 h2 h3 => h i j (by omega) h2 (by omega)

theorem Asc.le {d : Nat → α} {a b : Nat} (hw : Weak lt) (h : Asc lt d a b) {i j : Nat} (h1 : a ≤ i) (h2 : i ≤ j) (h3 : j < b) : lt (d j) (d i) = false := by
  rcases Nat.lt_or_eq_of_le h2 with h4 | h4
  · exact h i j h1 h4 h3
  · subst h4; exact hw.irr _

/-- Two halves that are apart, each in order: all in order. -/
theorem asc_join {d : Nat → α} {a m b : Nat} (h1 : Asc lt d a m) (h2 : Asc lt d m b) (h3 : Apart lt d a m b) : Asc lt d a b := fun i j hi hij hj => by
  by_cases h4 : j < m
  · exact h1 i j hi hij h4
  · by_cases h5 : m ≤ i
    · exact h2 i j h5 hij hj
    · exact h3 i j hi (by omega) (by omega) hj

/-- Halves stay apart, whatever is exchanged within each. -/
theorem apart_sw {d e f : Nat → α} {a m b : Nat} (h : Apart lt d a m b) (h1 : Sw a m d e) (h2 : Sw m b e f) : Apart lt f a m b := fun i j hi him hmj hj => by
  have e1 : f i = e i := h2.out (.inl him)
  obtain ⟨i', hi', e2⟩ := h1.back ⟨hi, him⟩
  obtain ⟨j', hj', e3⟩ := h2.back ⟨hmj, hj⟩
  have e4 : e j' = d j' := h1.out (.inr hj'.1)
  rw [e1, e2, e3, e4]
  exact h i' j' hi'.1 hi'.2 hj'.1 hj'.2

/-- The turned middle: both halves are of two rows in order, and apart. -/
theorem sym_halves {d : Nat → α} {a m b s e mid : Nat} (hw : Weak lt) (h1 : Asc lt d a m) (h2 : Asc lt d m b) (has : a ≤ s) (hsm : s ≤ m) (hme : m ≤ e) (heb : e ≤ b) (hmid : s + (e - m) = mid)
    (hL : a < s → e < b → lt (d e) (d (s - 1)) = false) (hR : s < m → m < e → lt (d (e - 1)) (d s) = true) :
    Asc lt (rot d s m e) a s ∧ Asc lt (rot d s m e) s mid ∧ Asc lt (rot d s m e) mid e ∧ Asc lt (rot d s m e) e b ∧ Apart lt (rot d s m e) a mid b := by
  have v1 : ∀ k, k < s → rot d s m e k = d k := fun k hk => by unfold rot; rw [if_neg (by omega), if_neg (by omega)]
  have v2 : ∀ k, s ≤ k → k < mid → rot d s m e k = d (m + (k - s)) := fun k hk hk2 => by unfold rot; rw [if_pos (by omega)]
  have v3 : ∀ k, mid ≤ k → k < e → rot d s m e k = d (s + (k - mid)) := fun k hk hk2 => by
    unfold rot
    rw [if_neg (by omega), if_pos (by omega)]
    congr 1
    omega
  have v4 : ∀ k, e ≤ k → rot d s m e k = d k := fun k hk => by unfold rot; rw [if_neg (by omega), if_neg (by omega)]
  -- L1 = [a, s), R1 = [m, e), L2 = [s, m), R2 = [e, b)
  have c1 : ∀ i j, a ≤ i → i < s → e ≤ j → j < b → lt (d j) (d i) = false := fun i j hi his hj hjb => by
    have k1 := hL (by omega) (by omega)
    have k2 := h1.le hw (i := i) (j := s - 1) hi (by omega) (by omega)
    have k3 := h2.le hw (i := e) (j := j) hme hj hjb
    exact hw.ntr _ _ _ k2 (hw.ntr _ _ _ k1 k3)
  have c2 : ∀ i j, m ≤ i → i < e → s ≤ j → j < m → lt (d j) (d i) = false := fun i j hi hie hj hjm => by
    have k1 := hw.asym _ _ (hR (by omega) (by omega))
    have k2 := h2.le hw (i := i) (j := e - 1) hi (by omega) (by omega)
    have k3 := h1.le hw (i := s) (j := j) has hj hjm
    exact hw.ntr _ _ _ k2 (hw.ntr _ _ _ k1 k3)
  refine ⟨fun i j hi hij hj => ?_, fun i j hi hij hj => ?_, fun i j hi hij hj => ?_, fun i j hi hij hj => ?_, fun i j hi him hmj hj => ?_⟩
  · rw [v1 i (by omega), v1 j (by omega)]; exact h1 i j hi hij (by omega)
  · rw [v2 i hi (by omega), v2 j (by omega) hj]; exact h2 _ _ (by omega) (by omega) (by omega)
  · rw [v3 i hi (by omega), v3 j (by omega) hj]; exact h1 _ _ (by omega) (by omega) (by omega)
  · rw [v4 i hi, v4 j (by omega)]; exact h2 i j (by omega) hij hj
  · by_cases q1 : i < s
    · rw [v1 i q1]
      by_cases q2 : j < e
      · rw [v3 j hmj q2]; exact h1 _ _ hi (by omega) (by omega)
      · rw [v4 j (by omega)]; exact c1 i j hi q1 (by omega) hj
    · rw [v2 i (by omega) him]
      by_cases q2 : j < e
      · rw [v3 j hmj q2]; exact c2 _ _ (by omega) (by omega) (by omega) (by omega)
      · rw [v4 j (by omega)]; exact h2 _ _ (by omega) (by omega) hj

/-- One that goes down to its place. -/
theorem ins_down {d : Nat → α} {a m i : Nat} (hw : Weak lt) (h1 : Asc lt d a m) (hai : a ≤ i) (him : i ≤ m) (hL : a < i → lt (d m) (d (i - 1)) = false) (hR : i < m → lt (d m) (d i) = true) : Asc lt (rot d i m (m + 1)) a (m + 1) := by
  have h2 : Asc lt d m (m + 1) := fun x y hx hxy hy => by omega
  obtain ⟨k1, k2, k3, k4, k5⟩ := sym_halves (mid := i + 1) hw h1 h2 hai him (Nat.le_succ m) (Nat.le_refl _) (by omega) (fun _ h => by omega) (fun h _ => hR h)
  refine asc_join (asc_join k1 k2 fun x y hx hxi hiy hy => ?_) k3 k5
  have hy0 : y = i := by omega
  subst hy0
  have e1 : rot d y m (m + 1) x = d x := by unfold rot; rw [if_neg (by omega), if_neg (by omega)]
  have e2 : rot d y m (m + 1) y = d m := by unfold rot; rw [if_pos (by omega)]; congr 1; omega
  rw [e1, e2]
  exact hw.ntr _ _ _ (h1.le hw (i := x) (j := y - 1) hx (by omega) (by omega)) (hL (by omega))

/-- One that goes up to its place. -/
theorem ins_up {d : Nat → α} {a b i : Nat} (hw : Weak lt) (h2 : Asc lt d (a + 1) b) (hai : a + 1 ≤ i) (hib : i ≤ b) (hL : a + 1 < i → lt (d (i - 1)) (d a) = true) (hR : i < b → lt (d i) (d a) = false) : Asc lt (rot d a (a + 1) i) a b := by
  have h1 : Asc lt d a (a + 1) := fun x y hx hxy hy => by omega
  obtain ⟨k1, k2, k3, k4, k5⟩ := sym_halves (mid := a + (i - (a + 1))) hw h1 h2 (Nat.le_refl _) (Nat.le_succ a) hai hib rfl (fun h _ => by omega) (fun _ h => hL h)
  refine asc_join k2 (asc_join k3 k4 fun x y hx hxi hiy hy => ?_) k5
  have hx0 : x = i - 1 := by omega
  subst hx0
  have e1 : rot d a (a + 1) i (i - 1) = d a := by unfold rot; rw [if_neg (by omega), if_pos (by omega)]; congr 1; omega
  have e2 : rot d a (a + 1) i y = d y := by unfold rot; rw [if_neg (by omega), if_neg (by omega)]
  rw [e1, e2]
  exact hw.ntr _ _ _ (hR (by omega)) (h2.le hw (i := i) (j := y) hai hiy hy)

end

theorem mv_down (d : Nat → α) (k m : Nat) (hk : 0 < k) (hkm : k ≤ m) : sw (rot d k m (m + 1)) k (k - 1) = rot d (k - 1) m (m + 1) := by
  funext x
  unfold sw rot
  by_cases h1 : x = k
  · subst h1
    rw [if_pos rfl, if_neg (by omega), if_neg (by omega), if_neg (by omega), if_pos (by omega)]
    congr 1
    omega
  · rw [if_neg h1]
    by_cases h2 : x = k - 1
    · subst h2
      rw [if_pos rfl, if_pos (by omega), if_pos (by omega)]
      congr 1
      omega
    · rw [if_neg h2, if_neg (show ¬ (k ≤ x ∧ x < k + (m + 1 - m)) by omega), if_neg (show ¬ (k - 1 ≤ x ∧ x < k - 1 + (m + 1 - m)) by omega)]
      by_cases h3 : k + (m + 1 - m) ≤ x ∧ x < m + 1
      · rw [if_pos h3, if_pos (by omega)]
        congr 1
        omega
      · rw [if_neg h3, if_neg (by omega)]

theorem mv_up (d : Nat → α) (a k : Nat) (hk : a ≤ k) : sw (rot d a (a + 1) (k + 1)) k (k + 1) = rot d a (a + 1) (k + 2) := by
  funext x
  unfold sw rot
  by_cases h1 : x = k
  · subst h1
    rw [if_pos rfl, if_neg (by omega), if_neg (by omega), if_pos (by omega)]
    congr 1
    omega
  · rw [if_neg h1]
    by_cases h2 : x = k + 1
    · subst h2
      rw [if_pos rfl, if_neg (by omega), if_pos (by omega), if_neg (by omega), if_pos (by omega)]
      congr 1
      omega
    · rw [if_neg h2]
      by_cases h3 : a ≤ x ∧ x < a + (k + 1 - (a + 1))
      · rw [if_pos h3, if_pos (by omega)]
      · rw [if_neg h3, if_neg (by omega), if_neg (by omega), if_neg (by omega)]

theorem rot_one (d : Nat → α) (m : Nat) : rot d m m (m + 1) = d := rot_none_l d m (m + 1) (Nat.le_succ m)

theorem rot_self (d : Nat → α) (a m : Nat) (_h : a ≤ m) : rot d a m m = d := by
  funext k
  unfold rot
  split
  · omega
  · split
    · congr 1; omega
    · rfl

end ST
end Go.Proofs.YtdmnlmohfaafoadGreatDoor

namespace Go.Proofs.YtdmnlmohfaafoadGreatDoor
namespace HD

theorem pairwise_ext {α : Type} {r : α → α → Prop} (hir : ∀ a, ¬ r a a) (has : ∀ a b, r a b → ¬ r b a) : ∀ {l l' : List α}, l.Pairwise r → l'.Pairwise r → (∀ x, x ∈ l ↔ x ∈ l') → l = l'
  | [], [], _, _, _ => rfl
  | [], b :: t', _, _, h => absurd ((h b).2 (by simp)) (by simp)
  | a :: t, [], _, _, h => absurd ((h a).1 (by simp)) (by simp)
  | a :: t, b :: t', h1, h2, h => by
    have p1 := List.pairwise_cons.1 h1
    have p2 := List.pairwise_cons.1 h2
    have hab : a = b := by
      rcases List.mem_cons.1 ((h a).1 (by simp)) with e | e
      · exact e
      · rcases List.mem_cons.1 ((h b).2 (by simp)) with e2 | e2
        · exact e2.symm
        · exact absurd (p1.1 b e2) (has _ _ (p2.1 a e))
    subst hab
    congr 1
    refine pairwise_ext hir has p1.2 p2.2 fun x => ⟨fun hx => ?_, fun hx => ?_⟩
    · rcases List.mem_cons.1 ((h x).1 (by simp [hx])) with e | e
      · subst e; exact absurd (p1.1 x hx) (hir x)
      · exact e
    · rcases List.mem_cons.1 ((h x).2 (by simp [hx])) with e | e
      · subst e; exact absurd (p2.1 x hx) (hir x)
      · exact e

theorem ord_ext {l l' : List Sr} (h1 : Ord l) (h2 : Ord l') (h : ∀ x, x ∈ l ↔ x ∈ l') : l = l' :=
  pairwise_ext (r := fun a b : Sr => LB.cmp a.1 b.1 = -1) (fun a e => by rw [cmp_refl] at e; simp at e) (fun a b e e2 => by rw [cmp_flip e] at e2; simp at e2) h1 h2 h

/-- Exchanges: what is told is what was, each once. -/
theorem sw_forth {α : Type} {n : Nat} {d e : Nat → α} (h : ST.Sw 0 n d e) : ∀ k, k < n → ∃ k', k' < n ∧ e k' = d k := by
  induction h with
  | refl => exact fun k hk => ⟨k, hk, rfl⟩
  | step i j _ _ hi _ hj ih =>
    intro k hk
    obtain ⟨k', h1, h2⟩ := ih k hk
    by_cases e1 : k' = i
    · refine ⟨j, hj, ?_⟩
      unfold ST.sw
      by_cases e2 : j = i
      · rw [if_pos e2, e2, ← e1]; exact h2
      · rw [if_neg e2, if_pos rfl, ← e1]; exact h2
    · by_cases e2 : k' = j
      · refine ⟨i, hi, ?_⟩
        unfold ST.sw
        rw [if_pos rfl, ← e2]; exact h2
      · refine ⟨k', h1, ?_⟩
        unfold ST.sw
        rw [if_neg e1, if_neg e2]; exact h2

theorem sw_inj {α β : Type} {n : Nat} {d e : Nat → α} (key : α → β) (h : ST.Sw 0 n d e) (hd : ∀ i j, i < n → j < n → i ≠ j → key (d i) ≠ key (d j)) : ∀ i j, i < n → j < n → i ≠ j → key (e i) ≠ key (e j) := by
  induction h with
  | refl => exact hd
  | step a b _ _ ha _ hb ih =>
    intro i j hi hj hij
    unfold ST.sw
    by_cases e1 : i = a
    · rw [if_pos e1]
      by_cases e2 : j = a
      · omega
      · rw [if_neg e2]
        by_cases e3 : j = b
        · rw [if_pos e3]; exact ih b a hb ha (by omega)
        · rw [if_neg e3]; exact ih b j hb hj (by omega)
    · rw [if_neg e1]
      by_cases e2 : i = b
      · rw [if_pos e2]
        by_cases e3 : j = a
        · rw [if_pos e3]; exact ih a b ha hb (by omega)
        · rw [if_neg e3, if_neg (by omega)]; exact ih a j ha hj (by omega)
      · rw [if_neg e2]
        by_cases e3 : j = a
        · rw [if_pos e3]; exact ih i b hi hb (by omega)
        · rw [if_neg e3]
          by_cases e4 : j = b
          · rw [if_pos e4]; exact ih i a hi ha (by omega)
          · rw [if_neg e4]; exact ih i j hi hj hij

theorem sw_fun {α β : Type} (k : α → β) (e : Nat → α) (i j : Nat) : (fun m => k (ST.sw e i j m)) = ST.sw (fun m => k (e m)) i j := by
  funext m
  unfold ST.sw
  split
  · rfl
  · split <;> rfl

theorem sw_map {α β : Type} {n : Nat} (k : α → β) {d e : Nat → α} (h : ST.Sw 0 n d e) : ST.Sw 0 n (fun i => k (d i)) (fun i => k (e i)) := by
  induction h with
  | refl => exact .refl _
  | step i j _ h1 h2 h3 h4 ih =>
    rw [sw_fun k _ i j]
    exact .step i j ih h1 h2 h3 h4

/-- Which of two stands ahead. -/
def ltS (a b : Sr) : Bool := decide (LB.cmp a.1 b.1 < 0)

theorem ltS_no {a b : Sr} : ltS a b = false ↔ LB.cmp a.1 b.1 ≠ -1 := by
  unfold ltS
  rw [decide_eq_false_iff_not]
  rcases LB.cmp_ord.rng a.1 b.1 with h | h | h <;> rw [h] <;> simp

theorem ltS_yes {a b : Sr} : ltS a b = true ↔ LB.cmp a.1 b.1 = -1 := by
  unfold ltS
  rw [decide_eq_true_iff]
  rcases LB.cmp_ord.rng a.1 b.1 with h | h | h <;> rw [h] <;> simp

theorem ltS_weak {β : Type} (key : β → Sr) : ST.Weak (fun a b => ltS (key a) (key b)) where
  irr x := ltS_no.2 (by rw [cmp_refl]; decide)
  asym x y h := ltS_no.2 (by rw [cmp_flip (ltS_yes.1 h)]; decide)
  ntr x y z h1 h2 := ltS_no.2 (fun h => by
    have h3 := ltS_no.1 h1
    have h4 := ltS_no.1 h2
    rcases cmp_ge h3 with h5 | h5
    · rw [cmp_eq h5] at h4
      exact h4 h
    · exact h4 (LB.cmp_ord.tr _ _ _ h (cmp_flip' h5)))

/-- A row with one more, sorted. -/
theorem sorted_is {S : List Sr} {x : Sr} (ho : Ord S) (hn : there S x.1 = false) {f : Nat → Sr} (hs : ST.Sw 0 (S.length + 1) (fun i => atSr (S ++ [x]) i) f) (ha : ST.Asc ltS f 0 (S.length + 1)) :
    (List.range (S.length + 1)).map f = S.insertIdx (pos S x.1) x := by
  have hat : ∀ i, i < S.length + 1 → atSr (S ++ [x]) i = if i < S.length then atSr S i else x := fun i hi => by
    unfold atSr
    rw [List.getD_eq_getElem?_getD, List.getD_eq_getElem?_getD]
    by_cases h : i < S.length
    · rw [if_pos h, List.getElem?_append_left h]
    · have : i = S.length := by omega
      rw [if_neg h, List.getElem?_append_right (by omega), this, Nat.sub_self]; rfl
  have hnx : ∀ i, i < S.length → (atSr S i).1 ≠ x.1 := fun i hi e => by
    have : there S x.1 = true := (there_iff ho x.1).2 ⟨i, hi, by rw [e]; exact cmp_refl _⟩
    rw [this] at hn; simp at hn
  have hinj : ∀ i j, i < S.length + 1 → j < S.length + 1 → i ≠ j → (atSr (S ++ [x]) i).1 ≠ (atSr (S ++ [x]) j).1 := fun i j hi hj hij => by
    rw [hat i hi, hat j hj]
    by_cases h1 : i < S.length
    · rw [if_pos h1]
      by_cases h2 : j < S.length
      · rw [if_pos h2]
        intro e
        rcases Nat.lt_or_gt_of_ne hij with h3 | h3
        · have := ord_at ho i j h3 h2
          rw [e, cmp_refl] at this; simp at this
        · have := ord_at ho j i h3 h1
          rw [e, cmp_refl] at this; simp at this
      · rw [if_neg h2]; exact hnx i h1
    · rw [if_neg h1, if_pos (by omega)]
      exact fun e => hnx j (by omega) e.symm
  have hinj2 := sw_inj (fun s : Sr => s.1) hs hinj
  refine ord_ext ?_ (insert_ord ho x hn) fun y => ?_
  · unfold Ord
    rw [List.pairwise_map, List.pairwise_iff_getElem]
    intro i j hi hj hij
    rw [List.length_range] at hi hj
    rw [List.getElem_range, List.getElem_range]
    have h1 : ltS (f j) (f i) = false := ha i j (Nat.zero_le _) hij hj
    have h2 := hinj2 i j hi hj (by omega)
    unfold ltS at h1
    have h3 := of_decide_eq_false h1
    rcases LB.cmp_ord.rng (f i).1 (f j).1 with h | h | h
    · exact h
    · exact absurd (cmp_eq h) h2
    · have := cmp_flip' h
      omega
  · rw [List.mem_insertIdx (pos_le S x.1), List.mem_map]
    constructor
    · rintro ⟨k, hk, rfl⟩
      rw [List.mem_range] at hk
      obtain ⟨k', h1, h2⟩ := hs.back ⟨Nat.zero_le k, hk⟩
      rw [h2, hat k' h1.2]
      by_cases h : k' < S.length
      · rw [if_pos h]; exact .inr (at_mem S k' h)
      · rw [if_neg h]; exact .inl rfl
    · intro h
      have hk : ∃ k, k < S.length + 1 ∧ atSr (S ++ [x]) k = y := by
        rcases h with h | h
        · exact ⟨S.length, by omega, by rw [hat _ (by omega), if_neg (by omega), h]⟩
        · obtain ⟨k, h1, h2⟩ := mem_at h
          exact ⟨k, by omega, by rw [hat k (by omega), if_pos h1, h2]⟩
      obtain ⟨k, h1, h2⟩ := hk
      obtain ⟨k', h3, h4⟩ := sw_forth hs k h1
      exact ⟨k', List.mem_range.2 h3, by rw [h4, h2]⟩

end HD
end Go.Proofs.YtdmnlmohfaafoadGreatDoor

