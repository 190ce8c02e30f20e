/- Plain facts on samples of two lists put together: no program in it. -/
import Derived.Test.YtdmnlmohfaafoaeDoorChNum
namespace Go.Proofs.YtdmnlmohfaafoaeDoor
namespace CL

/-- Times rise. -/
def Rising (l : List Smp) : Prop := l.Pairwise fun x y => x.1 < y.1

theorem rising_of_right (l : List Smp) (h : right l = true) : Rising l := by
  obtain ⟨_, h2⟩ := (right_iff l).1 h
  have step : ∀ i, i + 1 < l.length → (at' l i).1 < (at' l (i + 1)).1 := fun i hi => by
    have := ((okAt_iff l (i + 1)).1 (h2 (i + 1) hi)).2
    rcases this with h | h
    · omega
    · simpa using h
  have far : ∀ d i, i + d + 1 < l.length → (at' l i).1 < (at' l (i + d + 1)).1 := by
    intro d
    induction d with
    | zero => intro i hi; exact step i hi
    | succ d ih =>
      intro i hi
      have a := ih i (by omega)
      have b := step (i + d + 1) (by omega)
      have e : i + (d + 1) + 1 = i + d + 1 + 1 := by omega
      rw [e]; omega
  unfold Rising
  rw [List.pairwise_iff_getElem]
  intro i j hi hj hij
  have := far (j - i - 1) i (by omega)
  rw [show i + (j - i - 1) + 1 = j by omega] at this
  simpa [at', hi, hj] using this

/-- What two lists come to together. -/
def mrg : List Smp → List Smp → List Smp
  | [], b => b
  | x :: a, [] => x :: a
  | x :: a, y :: b => if x.1 < y.1 then x :: mrg a (y :: b) else if x.1 = y.1 then y :: mrg a b else y :: mrg (x :: a) b
  termination_by a b => a.length + b.length

theorem mem_mrg (a b : List Smp) (ha : Rising a) (hb : Rising b) (x : Smp) : x ∈ mrg a b ↔ x ∈ b ∨ (x ∈ a ∧ ∀ y ∈ b, y.1 ≠ x.1) := by
  match a, b with
  | [], b => unfold mrg; simp
  | p :: a, [] => unfold mrg; simp
  | p :: a, q :: b =>
    have ha' := List.pairwise_cons.1 ha
    have hb' := List.pairwise_cons.1 hb
    unfold mrg
    split
    · next h =>
      rw [List.mem_cons, mem_mrg a (q :: b) ha'.2 hb x]
      constructor
      · rintro (rfl | h' | ⟨h1, h2⟩)
        · refine .inr ⟨List.mem_cons_self, fun y hy => ?_⟩
          rcases List.mem_cons.1 hy with rfl | hy
          · omega
          · have := hb'.1 y hy; omega
        · exact .inl h'
        · exact .inr ⟨List.mem_cons_of_mem _ h1, h2⟩
      · rintro (h' | ⟨h1, h2⟩)
        · exact .inr (.inl h')
        · rcases List.mem_cons.1 h1 with rfl | h1
          · exact .inl rfl
          · exact .inr (.inr ⟨h1, h2⟩)
    · next h =>
      split
      · next he =>
        rw [List.mem_cons, mem_mrg a b ha'.2 hb'.2 x]
        constructor
        · rintro (rfl | h' | ⟨h1, h2⟩)
          · exact .inl List.mem_cons_self
          · exact .inl (List.mem_cons_of_mem _ h')
          · refine .inr ⟨List.mem_cons_of_mem _ h1, fun y hy => ?_⟩
            rcases List.mem_cons.1 hy with rfl | hy
            · have := ha'.1 x h1; omega
            · exact h2 y hy
        · rintro (h' | ⟨h1, h2⟩)
          · rcases List.mem_cons.1 h' with rfl | h'
            · exact .inl rfl
            · exact .inr (.inl h')
          · rcases List.mem_cons.1 h1 with rfl | h1
            · exact absurd he.symm (h2 q List.mem_cons_self)
            · exact .inr (.inr ⟨h1, fun y hy => h2 y (List.mem_cons_of_mem _ hy)⟩)
      · next he =>
        rw [List.mem_cons, mem_mrg (p :: a) b ha hb'.2 x]
        constructor
        · rintro (rfl | h' | ⟨h1, h2⟩)
          · exact .inl List.mem_cons_self
          · exact .inl (List.mem_cons_of_mem _ h')
          · refine .inr ⟨h1, fun y hy => ?_⟩
            rcases List.mem_cons.1 hy with rfl | hy
            · rcases List.mem_cons.1 h1 with rfl | h1
              · omega
              · have := ha'.1 x h1; omega
            · exact h2 y hy
        · rintro (h' | ⟨h1, h2⟩)
          · rcases List.mem_cons.1 h' with rfl | h'
            · exact .inl rfl
            · exact .inr (.inl h')
          · exact .inr (.inr ⟨h1, fun y hy => h2 y (List.mem_cons_of_mem _ hy)⟩)
  termination_by a.length + b.length

theorem rising_mrg (a b : List Smp) (ha : Rising a) (hb : Rising b) : Rising (mrg a b) := by
  match a, b with
  | [], b => unfold mrg; exact hb
  | p :: a, [] => unfold mrg; exact ha
  | p :: a, q :: b =>
    have ha' := List.pairwise_cons.1 ha
    have hb' := List.pairwise_cons.1 hb
    unfold mrg
    split
    · next h =>
      refine List.pairwise_cons.2 ⟨fun y hy => ?_, rising_mrg a (q :: b) ha'.2 hb⟩
      rcases (mem_mrg a (q :: b) ha'.2 hb y).1 hy with h' | ⟨h1, _⟩
      · rcases List.mem_cons.1 h' with rfl | h'
        · exact h
        · have := hb'.1 y h'; omega
      · exact ha'.1 y h1
    · next h =>
      split
      · next he =>
        refine List.pairwise_cons.2 ⟨fun y hy => ?_, rising_mrg a b ha'.2 hb'.2⟩
        rcases (mem_mrg a b ha'.2 hb'.2 y).1 hy with h' | ⟨h1, _⟩
        · exact hb'.1 y h'
        · have := ha'.1 y h1; omega
      · next he =>
        refine List.pairwise_cons.2 ⟨fun y hy => ?_, rising_mrg (p :: a) b ha hb'.2⟩
        rcases (mem_mrg (p :: a) b ha hb'.2 y).1 hy with h' | ⟨h1, _⟩
        · exact hb'.1 y h'
        · rcases List.mem_cons.1 h1 with rfl | h1
          · omega
          · have := ha'.1 y h1; omega
  termination_by a.length + b.length

theorem mrg_len (a b : List Smp) : (mrg a b).length ≤ a.length + b.length := by
  match a, b with
  | [], b => unfold mrg; simp
  | p :: a, [] => unfold mrg; simp
  | p :: a, q :: b =>
    unfold mrg
    split
    · have := mrg_len a (q :: b); simp at this ⊢; omega
    · split
      · have := mrg_len a b; simp at this ⊢; omega
      · have := mrg_len (p :: a) b; simp at this ⊢; omega
  termination_by a.length + b.length

/-- Two rising lists of the same samples are one. -/
theorem rising_ext : ∀ (l l' : List Smp), Rising l → Rising l' → (∀ x, x ∈ l ↔ x ∈ l') → l = l'
  | [], [], _, _, _ => rfl
  | [], y :: l', _, _, h => by have := (h y).2 List.mem_cons_self; simp at this
  | x :: l, [], _, _, h => by have := (h x).1 List.mem_cons_self; simp at this
  | x :: l, y :: l', h1, h2, h => by
    have a := List.pairwise_cons.1 h1
    have b := List.pairwise_cons.1 h2
    have exy : x = y := by
      rcases List.mem_cons.1 ((h x).1 List.mem_cons_self) with e | e
      · exact e
      · rcases List.mem_cons.1 ((h y).2 List.mem_cons_self) with e' | e'
        · exact e'.symm
        · have c := b.1 x e
          have d := a.1 y e'
          omega
    subst exy
    rw [rising_ext l l' a.2 b.2 (fun z => ?_)]
    constructor
    · intro hz
      rcases List.mem_cons.1 ((h z).1 (List.mem_cons_of_mem _ hz)) with e | e
      · subst e; have := a.1 z hz; omega
      · exact e
    · intro hz
      rcases List.mem_cons.1 ((h z).2 (List.mem_cons_of_mem _ hz)) with e | e
      · subst e; have := b.1 z hz; omega
      · exact e

end CL
end Go.Proofs.YtdmnlmohfaafoaeDoor
