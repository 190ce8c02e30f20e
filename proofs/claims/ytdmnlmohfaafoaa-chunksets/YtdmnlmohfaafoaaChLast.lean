/- Plain facts: the last value of a time; a map that tells it; what is collected of a map. No program in it. -/
import Derived.Test.YtdmnlmohfaafoaaChMrg
import Derived.Maps.RangeWalk
import Derived.Maps.OwnOps
import Derived.Maps.OwnSet
namespace Go.Proofs.Ytdmnlmohfaafoaa
open Go.Maps
namespace CL

/-- The last value of a time. -/
def lastOf : List Smp → Int → Option Int
  | [], _ => none
  | s :: l, t => match lastOf l t with
    | some v => some v
    | none => if s.1 = t then some s.2 else none

theorem lastOf_append (a b : List Smp) (t : Int) : lastOf (a ++ b) t = match lastOf b t with
    | some v => some v
    | none => lastOf a t := by
  induction a with
  | nil => cases h : lastOf b t <;> simp [lastOf, h]
  | cons s a ih =>
    show (match lastOf (a ++ b) t with
      | some v => some v
      | none => if s.1 = t then some s.2 else none) = _
    rw [ih]
    cases h : lastOf b t <;> rfl

theorem lastOf_snoc (l : List Smp) (s : Smp) (t : Int) : lastOf (l ++ [s]) t = if s.1 = t then some s.2 else lastOf l t := by
  rw [lastOf_append]
  show (match (if s.1 = t then some s.2 else none) with
    | some v => some v
    | none => lastOf l t) = _
  by_cases e : s.1 = t <;> simp [e]

theorem lastOf_none (l : List Smp) (t : Int) : lastOf l t = none ↔ ∀ y ∈ l, y.1 ≠ t := by
  induction l with
  | nil => simp [lastOf]
  | cons s l ih =>
    unfold lastOf
    cases h : lastOf l t with
    | some v =>
      have : ¬ ∀ y ∈ l, y.1 ≠ t := fun hh => by rw [ih.2 hh] at h; cases h
      simp only [reduceCtorEq, false_iff]
      exact fun hh => this (fun y hy => hh y (List.mem_cons_of_mem _ hy))
    | none =>
      have := ih.1 h
      by_cases e : s.1 = t
      · simp [e]
      · simp [e]; exact fun a b hab => this (a, b) hab

theorem lastOf_mem (l : List Smp) (hl : Rising l) (t v : Int) : lastOf l t = some v ↔ (t, v) ∈ l := by
  induction l with
  | nil => simp [lastOf]
  | cons s l ih =>
    have h' := List.pairwise_cons.1 hl
    unfold lastOf
    cases h : lastOf l t with
    | some v' =>
      have hm := (ih h'.2)
      constructor
      · intro e
        have e : v' = v := by simpa using e
        subst e
        exact List.mem_cons_of_mem _ (hm.1 h)
      · intro hh
        rcases List.mem_cons.1 hh with e | e
        · exfalso
          have hn : lastOf l t = none := (lastOf_none l t).2 (fun y hy => by
            have := h'.1 y hy
            rw [← e] at this
            simp at this
            omega)
          rw [hn] at h; cases h
        · have := hm.2 e
          rw [h] at this
          simpa using this
    | none =>
      have hn := (lastOf_none l t).1 h
      by_cases e : s.1 = t
      · subst e
        simp only [if_true, Option.some.injEq, List.mem_cons]
        constructor
        · intro e; left; rw [← e]
        · rintro (e | e)
          · rw [← e]
          · exact absurd rfl (hn (s.1, v) e)
      · simp only [if_neg e, reduceCtorEq, List.mem_cons, false_iff, not_or]
        exact ⟨fun h2 => e (by rw [← h2]), fun h2 => hn _ h2 rfl⟩

theorem last_mrg (a b : List Smp) (ha : Rising a) (hb : Rising b) (x : Smp) : lastOf (a ++ b) x.1 = some x.2 ↔ x ∈ mrg a b := by
  rw [lastOf_append, mem_mrg a b ha hb]
  cases h : lastOf b x.1 with
  | some v =>
    constructor
    · intro e
      have e : v = x.2 := by simpa using e
      subst e
      exact .inl ((lastOf_mem b hb _ _).1 h)
    · rintro (h1 | ⟨_, h2⟩)
      · have := (lastOf_mem b hb x.1 x.2).2 h1
        rw [h] at this; exact this
      · rw [(lastOf_none b x.1).2 h2] at h; cases h
  | none =>
    have hn := (lastOf_none b x.1).1 h
    constructor
    · intro e
      exact .inr ⟨(lastOf_mem a ha _ _).1 e, hn⟩
    · rintro (h1 | ⟨h1, _⟩)
      · exact absurd rfl (hn _ h1)
      · exact (lastOf_mem a ha _ _).2 h1

end CL

/-- A map that tells the last value of each time. -/
def Tells (D : DataW Unit) (l : List CL.Smp) : Prop :=
  Tidy D ∧ Maps.size D ≤ l.length ∧ ∀ t, (CL.lastOf l t = none → has D (.int .i64 t) = false) ∧ ∀ v, CL.lastOf l t = some v → ∀ z, D.atKey (.int .i64 t) z = .lit (.int .i64 v)

theorem Tells.start : Tells (.map []) [] := ⟨tidy_empty, Nat.le_refl _, fun _ => ⟨fun _ => rfl, fun v h => by cases h⟩⟩

theorem Tells.step {D : DataW Unit} {l : List CL.Smp} (h : Tells D l) (s : CL.Smp) : Tells (D.put (.int .i64 s.1) (.lit (.int .i64 s.2))) (l ++ [s]) := by
  obtain ⟨h1, h2, h3⟩ := h
  refine ⟨h1.put (k := .int .i64 s.1) trivial _, ?_, fun t => ⟨fun hn => ?_, fun v hv z => ?_⟩⟩
  · rw [size_put h1, List.length_append]
    split <;> simp <;> omega
  · rw [CL.lastOf_snoc] at hn
    by_cases e : s.1 = t
    · simp [e] at hn
    · rw [if_neg e] at hn
      rw [has_put_other (fun e' => e (by simpa using e'.symm))]
      exact (h3 t).1 hn
  · rw [CL.lastOf_snoc] at hv
    by_cases e : s.1 = t
    · subst e
      rw [if_pos rfl] at hv
      rw [atKey_put_same h1.isMap (k := .int .i64 s.1) trivial]
      simpa using hv
    · rw [if_neg e] at hv
      rw [atKey_put_other (fun e' => e (by simpa using e'.symm))]
      exact (h3 t).2 v hv z

theorem Tells.iff {D : DataW Unit} {l : List CL.Smp} (h : Tells D l) (t v : Int) : (∀ z, D.atKey (.int .i64 t) z = .lit (.int .i64 v)) ↔ CL.lastOf l t = some v := by
  constructor
  · intro hat
    cases hl : CL.lastOf l t with
    | none =>
      have a := (h.2.2 t).1 hl
      rw [has_true_of_atKey hat] at a; cases a
    | some v' =>
      have := (h.2.2 t).2 v' hl .nil
      rw [hat] at this
      simp at this
      rw [this]
  · exact (h.2.2 t).2 v

/-- What has been collected of a map. -/
def Coll (D : DataW Unit) (left : Lit → Bool) (ss : List CL.Smp) : Prop :=
  ss.Pairwise (fun x y => x.1 ≠ y.1) ∧ ∀ x : CL.Smp, x ∈ ss ↔ (left (.int .i64 x.1) = false ∧ ∀ z, D.atKey (.int .i64 x.1) z = .lit (.int .i64 x.2))

theorem Coll.start (D : DataW Unit) : Coll D (has D) [] := by
  refine ⟨List.Pairwise.nil, fun x => ⟨fun h => absurd h (by simp), fun h => ?_⟩⟩
  have h1 := h.1
  rw [has_true_of_atKey h.2] at h1; cases h1

theorem Coll.step {D : DataW Unit} {left : Lit → Bool} {ss : List CL.Smp} (h : Coll D left ss) {x c : Int} (hl : left (.int .i64 x) = true) (hat : ∀ zd, D.atKey (.int .i64 x) zd = .lit (.int .i64 c)) :
    Coll D (fun z => left z && !z.sameKey (.int .i64 x)) (ss ++ [(x, c)]) := by
  obtain ⟨h1, h2⟩ := h
  refine ⟨?_, fun y => ?_⟩
  · rw [List.pairwise_append]
    refine ⟨h1, List.pairwise_singleton _ _, fun a ha b hb e => ?_⟩
    rw [List.mem_singleton] at hb
    subst hb
    have := ((h2 a).1 ha).1
    simp at e
    rw [e, hl] at this; cases this
  · rw [List.mem_append, List.mem_singleton, h2 y]
    by_cases e : y.1 = x
    · have hs : (Lit.int .i64 y.1).sameKey (.int .i64 x) = true := by simp [Lit.sameKey, e]
      simp only [hs, Bool.not_true, Bool.and_false, true_and]
      constructor
      · rintro (⟨a, _⟩ | rfl)
        · rw [e, hl] at a; cases a
        · exact hat
      · intro hy
        right
        have := hy .nil
        rw [e, hat] at this
        simp at this
        rw [← e, this]
    · have hs : (Lit.int .i64 y.1).sameKey (.int .i64 x) = false := by simp [Lit.sameKey, e]
      simp only [hs, Bool.not_false, Bool.and_true]
      constructor
      · rintro (a | rfl)
        · exact a
        · exact absurd rfl e
      · exact .inl

/-- All of it, in order, is what two lists come to. -/
theorem Coll.whole {D : DataW Unit} {left : Lit → Bool} {ss l' a b : List CL.Smp} (h : Coll D left ss) (hl : ∀ kl, left kl = false) (hT : Tells D (a ++ b)) (ha : CL.Rising a) (hb : CL.Rising b) (hp : l'.Perm ss) (hs : l'.Pairwise fun x y => x.1 ≤ y.1) : l' = CL.mrg a b := by
  refine CL.rising_ext _ _ ?_ (CL.rising_mrg a b ha hb) (fun x => ?_)
  · have hne : l'.Pairwise (fun x y => x.1 ≠ y.1) := (hp.pairwise_iff (fun {x y} h e => h e.symm)).2 h.1
    exact (hs.and hne).imp (fun ⟨h1, h2⟩ => by omega)
  · rw [hp.mem_iff, h.2 x, ← CL.last_mrg a b ha hb, ← hT.iff]
    simp [hl]

end Go.Proofs.Ytdmnlmohfaafoaa
