/- What is left of series, plain: in any order, ahead of a merge or behind it. Names no function. Blocks, plain: which series may be a block's. Names no function. What is gone, in memory, and which blocks' series are good: what both laws on blocks lean on. Names no function. -/
import Derived.Test.YtdmnlmohfaafoaePMBkJn
import Derived.Test.YtdmnlmohfaafoaePMHdMem
import Derived.Test.YtdmnlmohfaafoaePMBmMem
namespace Go.Proofs.Ytdmnlmohfaafoae
open Go.RowKit

namespace BK

theorem mem_kp {p : List LB.Lab → Int → Bool} {S : List Sr} {x : Sr} : x ∈ HD.kp p S ↔ ∃ y ∈ S, x = HD.keepS p y ∧ 0 < x.2.length := by
  unfold HD.kp
  rw [List.mem_filter, List.mem_map]
  constructor
  · rintro ⟨⟨y, hy, e⟩, h⟩
    exact ⟨y, hy, e.symm, by simpa using h⟩
  · rintro ⟨y, hy, e, h⟩
    exact ⟨⟨y, hy, e.symm⟩, by simpa using h⟩

theorem keep_keep (p q : List LB.Lab → Int → Bool) (x : Sr) : HD.keepS p (HD.keepS q x) = HD.keepS (fun L t => q L t && p L t) x := by
  unfold HD.keepS
  simp only [List.filter_filter, Prod.mk.injEq, true_and]
  congr 1
  funext s
  exact Bool.and_comm _ _

theorem kp_kp (p q : List LB.Lab → Int → Bool) : ∀ S : List Sr, HD.kp p (HD.kp q S) = HD.kp (fun L t => q L t && p L t) S := by
  intro S
  induction S with
  | nil => rfl
  | cons x S ih =>
    rw [HD.kp_cons q x S, HD.kp_cons (fun L t => q L t && p L t) x S, ← ih]
    by_cases h : 0 < (HD.keepS q x).2.length
    · rw [if_pos h]
      show HD.kp p (HD.keepS q x :: HD.kp q S) = _
      rw [HD.kp_cons p, keep_keep]
    · have h0 : ¬ 0 < (HD.keepS (fun L t => q L t && p L t) x).2.length := by
        rw [← keep_keep p q x]
        have : (HD.keepS p (HD.keepS q x)).2.length ≤ (HD.keepS q x).2.length := List.length_filter_le _ _
        omega
      rw [if_neg h, if_neg h0]
      rfl

theorem kp_true {p : List LB.Lab → Int → Bool} (hp : ∀ L t, p L t = true) : ∀ S : List Sr, (∀ x ∈ S, 0 < x.2.length) → HD.kp p S = S := by
  intro S
  induction S with
  | nil => intro _; rfl
  | cons x S ih =>
    intro h
    have e : HD.keepS p x = x := by
      unfold HD.keepS
      rw [List.filter_eq_self.2 (fun s _ => hp _ _)]
    rw [HD.kp_cons p x S, e, if_pos (h x List.mem_cons_self), ih (fun y hy => h y (List.mem_cons_of_mem _ hy))]
    rfl

/-- Those that are of none. -/
def none' {γ : Type} (f : γ → List LB.Lab → Int → Bool) (gs : List γ) : List LB.Lab → Int → Bool := fun L t => gs.all fun g => !f g L t

/-- One by one is at once. -/
theorem left_all {γ : Type} (f : γ → List LB.Lab → Int → Bool) : ∀ (gs : List γ) (S : List Sr), (∀ x ∈ S, 0 < x.2.length) → gs.foldl (fun l g => HD.kp (fun L t => !f g L t) l) S = HD.kp (none' f gs) S := by
  intro gs
  induction gs with
  | nil => intro S h; exact (kp_true (fun _ _ => rfl) S h).symm
  | cons g gs ih =>
    intro S h
    rw [List.foldl_cons, ih _ (fun x hx => (mem_kp.1 hx).choose_spec.2.2), kp_kp]
    rfl

theorem kp_congr {p q : List LB.Lab → Int → Bool} (h : ∀ L t, p L t = q L t) (S : List Sr) : HD.kp p S = HD.kp q S := by
  have : p = q := by funext L t; exact h L t
  rw [this]

theorem none_append {γ : Type} (f : γ → List LB.Lab → Int → Bool) (a b : List γ) (L : List LB.Lab) (t : Int) : none' f (a ++ b) L t = (none' f a L t && none' f b L t) := List.all_append

/-- In any order. -/
theorem kp_split {γ : Type} (f : γ → List LB.Lab → Int → Bool) (gs : List γ) (k : Nat) (S : List Sr) : HD.kp (none' f (gs.take k)) (HD.kp (none' f (gs.drop k)) S) = HD.kp (none' f gs) S := by
  rw [kp_kp]
  refine kp_congr (fun L t => ?_) S
  rw [Bool.and_comm, ← none_append, List.take_append_drop]

theorem kp_twice (p : List LB.Lab → Int → Bool) (S : List Sr) : HD.kp p (HD.kp p S) = HD.kp p S := by
  rw [kp_kp]
  exact kp_congr (fun L t => Bool.and_self _) S

theorem mrg_filter (q : Int → Bool) (a b : List CL.Smp) (ha : CL.Rising a) (hb : CL.Rising b) : (CL.mrg a b).filter (fun s => q s.1) = CL.mrg (a.filter fun s => q s.1) (b.filter fun s => q s.1) := by
  have hfa : CL.Rising (a.filter fun s => q s.1) := ha.filter _
  have hfb : CL.Rising (b.filter fun s => q s.1) := hb.filter _
  refine CL.rising_ext _ _ ((CL.rising_mrg a b ha hb).filter _) (CL.rising_mrg _ _ hfa hfb) fun x => ?_
  rw [List.mem_filter, CL.mem_mrg a b ha hb, CL.mem_mrg _ _ hfa hfb, List.mem_filter, List.mem_filter]
  constructor
  · rintro ⟨h | ⟨h1, h2⟩, hq⟩
    · exact .inl ⟨h, hq⟩
    · exact .inr ⟨⟨h1, hq⟩, fun y hy => h2 y (List.mem_filter.1 hy).1⟩
  · rintro (⟨h, hq⟩ | ⟨⟨h1, hq⟩, h2⟩)
    · exact ⟨.inl h, hq⟩
    · refine ⟨.inr ⟨h1, fun y hy e => ?_⟩, hq⟩
      exact h2 y (List.mem_filter.2 ⟨hy, by rw [e]; exact hq⟩) e

theorem mrg_nil (a : List CL.Smp) : CL.mrg a [] = a := by cases a <;> simp [CL.mrg]
theorem nil_mrg (a : List CL.Smp) : CL.mrg [] a = a := by cases a <;> simp [CL.mrg]

theorem mrg_self (a : List CL.Smp) (h : CL.Rising a) : CL.mrg a a = a :=
  CL.rising_ext _ _ (CL.rising_mrg a a h h) h fun x => by
    rw [CL.mem_mrg a a h h]
    exact ⟨fun h => h.elim id fun h => h.1, .inl⟩

/-- Ahead of a merge or behind it. -/
theorem kp_jn (p : List LB.Lab → Int → Bool) {a b : List Sr} (ha : HD.Good a) (hb : HD.Good b) : HD.kp p (HD.jn a b) = HD.jn (HD.kp p a) (HD.kp p b) := by
  have hoa := (HD.kp_good (p := p) ha).ord
  have hob := (HD.kp_good (p := p) hb).ord
  have hoj := ord_jn _ a b (Nat.le_refl _) ha.ord hb.ord
  have hris : ∀ {S : List Sr}, HD.Good S → ∀ x ∈ S, CL.Rising x.2 := fun h x hx => CL.rising_of_right _ (h.ok x hx).2.1
  have hkp : ∀ {S : List Sr}, HD.Ord S → HD.Ord (HD.kp p S) := fun {S} h => by
    unfold HD.kp HD.Ord
    exact (List.pairwise_map.2 (h.imp fun h => h)).filter _
  have hone : ∀ {S : List Sr}, HD.Ord S → ∀ x ∈ S, ∀ y ∈ S, x.1 = y.1 → x = y := fun {S} h x hx y hy e => by
    obtain ⟨i, hi, rfl⟩ := HD.mem_at hx
    obtain ⟨j, hj, rfl⟩ := HD.mem_at hy
    by_cases hij : i = j
    · rw [hij]
    · exact absurd e (ord_dis h i j hi hj hij)
  have hlk : ∀ y : Sr, (HD.keepS p y).1 = y.1 := fun _ => rfl
  have hmk : ∀ u v : Sr, u.1 = v.1 → CL.Rising u.2 → CL.Rising v.2 → HD.keepS p (u.1, CL.mrg u.2 v.2) = (u.1, CL.mrg (HD.keepS p u).2 (HD.keepS p v).2) := fun u v e hu hv => by
    unfold HD.keepS
    simp only [Prod.mk.injEq, true_and]
    rw [← e]
    exact mrg_filter (fun t => p u.1 t) u.2 v.2 hu hv
  refine HD.ord_ext (hkp hoj) (ord_jn _ _ _ (Nat.le_refl _) hoa hob) fun x => ?_
  rw [mem_kp, mem_jn _ _ _ (Nat.le_refl _) hoa hob x]
  constructor
  · rintro ⟨y, hy, rfl, hpos⟩
    rcases (mem_jn _ a b (Nat.le_refl _) ha.ord hb.ord y).1 hy with ⟨h1, h2⟩ | ⟨h1, h2⟩ | ⟨u, hu, v, hv, e1, e2⟩
    · refine .inl ⟨mem_kp.2 ⟨y, h1, rfl, hpos⟩, fun z hz => ?_⟩
      obtain ⟨w, hw, e, _⟩ := mem_kp.1 hz
      rw [e]
      exact h2 w hw
    · refine .inr (.inl ⟨mem_kp.2 ⟨y, h1, rfl, hpos⟩, fun z hz => ?_⟩)
      obtain ⟨w, hw, e, _⟩ := mem_kp.1 hz
      rw [e]
      exact h2 w hw
    · have hm := hmk u v e1 (hris ha u hu) (hris hb v hv)
      rw [e2] at hpos ⊢
      rw [hm] at hpos ⊢
      by_cases h1 : 0 < (HD.keepS p u).2.length
      · by_cases h2 : 0 < (HD.keepS p v).2.length
        · exact .inr (.inr ⟨HD.keepS p u, mem_kp.2 ⟨u, hu, rfl, h1⟩, HD.keepS p v, mem_kp.2 ⟨v, hv, rfl, h2⟩, e1, rfl⟩)
        · have e0 : (HD.keepS p v).2 = [] := List.eq_nil_of_length_eq_zero (by omega)
          refine .inl ⟨mem_kp.2 ⟨u, hu, ?_, ?_⟩, fun z hz => ?_⟩
          · rw [e0, mrg_nil]; rfl
          · exact hpos
          · obtain ⟨w, hw, e, hp⟩ := mem_kp.1 hz
            intro ez
            rw [e] at ez hp
            have : w = v := hone hb.ord w hw v hv (ez.trans e1)
            rw [this] at hp
            exact h2 hp
      · have e0 : (HD.keepS p u).2 = [] := List.eq_nil_of_length_eq_zero (by omega)
        refine .inr (.inl ⟨mem_kp.2 ⟨v, hv, ?_, ?_⟩, fun z hz => ?_⟩)
        · rw [e0, nil_mrg, e1]; rfl
        · exact hpos
        · obtain ⟨w, hw, e, hp⟩ := mem_kp.1 hz
          intro ez
          rw [e] at ez hp
          have : w = u := hone ha.ord w hw u hu ez
          rw [this] at hp
          exact h1 hp
  · rintro (⟨h1, h2⟩ | ⟨h1, h2⟩ | ⟨u, hu, v, hv, e1, e2⟩)
    · obtain ⟨y, hy, e, hpos⟩ := mem_kp.1 h1
      by_cases hb2 : ∃ v ∈ b, v.1 = y.1
      · obtain ⟨v, hv, ev⟩ := hb2
        refine ⟨(y.1, CL.mrg y.2 v.2), (mem_jn _ a b (Nat.le_refl _) ha.ord hb.ord _).2 (.inr (.inr ⟨y, hy, v, hv, ev.symm, rfl⟩)), ?_, hpos⟩
        have h0 : ¬ 0 < (HD.keepS p v).2.length := fun h => h2 (HD.keepS p v) (mem_kp.2 ⟨v, hv, rfl, h⟩) (by rw [e]; exact ev)
        have e0 : (HD.keepS p v).2 = [] := List.eq_nil_of_length_eq_zero (by omega)
        rw [hmk y v ev.symm (hris ha y hy) (hris hb v hv), e0, mrg_nil, e]; rfl
      · exact ⟨y, (mem_jn _ a b (Nat.le_refl _) ha.ord hb.ord _).2 (.inl ⟨hy, fun v hv ev => hb2 ⟨v, hv, ev⟩⟩), e, hpos⟩
    · obtain ⟨y, hy, e, hpos⟩ := mem_kp.1 h1
      by_cases hb2 : ∃ u ∈ a, u.1 = y.1
      · obtain ⟨u, hu, eu⟩ := hb2
        refine ⟨(u.1, CL.mrg u.2 y.2), (mem_jn _ a b (Nat.le_refl _) ha.ord hb.ord _).2 (.inr (.inr ⟨u, hu, y, hy, eu, rfl⟩)), ?_, hpos⟩
        have h0 : ¬ 0 < (HD.keepS p u).2.length := fun h => h2 (HD.keepS p u) (mem_kp.2 ⟨u, hu, rfl, h⟩) (by rw [e]; exact eu)
        have e0 : (HD.keepS p u).2 = [] := List.eq_nil_of_length_eq_zero (by omega)
        rw [hmk u y eu (hris ha u hu) (hris hb y hy), e0, nil_mrg, e, eu]; rfl
      · exact ⟨y, (mem_jn _ a b (Nat.le_refl _) ha.ord hb.ord _).2 (.inr (.inl ⟨hy, fun u hu eu => hb2 ⟨u, hu, eu⟩⟩)), e, hpos⟩
    · obtain ⟨y, hy, ey, h1⟩ := mem_kp.1 hu
      obtain ⟨z, hz, ez, h2⟩ := mem_kp.1 hv
      rw [ey, ez] at e1
      refine ⟨(y.1, CL.mrg y.2 z.2), (mem_jn _ a b (Nat.le_refl _) ha.ord hb.ord _).2 (.inr (.inr ⟨y, hy, z, hz, e1, rfl⟩)), ?_, ?_⟩
      · rw [hmk y z e1 (hris ha y hy) (hris hb z hz), e2, ey, ez]; rfl
      · rw [e2]
        have h3 := CL.mem_mrg u.2 v.2 (by rw [ey]; exact (hris ha y hy).filter _) (by rw [ez]; exact (hris hb z hz).filter _)
        obtain ⟨s, hs⟩ := List.exists_mem_of_length_pos h2
        exact List.length_pos_of_mem ((h3 s).2 (.inl hs))

/-- Merged with itself nothing changes. -/
theorem jn_self : ∀ (a : List Sr), (∀ x ∈ a, CL.Rising x.2) → HD.jn a a = a := by
  intro a
  induction a with
  | nil => intro _; rw [HD.jn_nil]
  | cons x a ih =>
    intro h
    rw [HD.jn_eq x x a a (HD.cmp_refl _), ih (fun y hy => h y (List.mem_cons_of_mem _ hy)), mrg_self x.2 (h x List.mem_cons_self)]

end BK

end Go.Proofs.Ytdmnlmohfaafoae

namespace Go.Proofs.Ytdmnlmohfaafoae
open Go.RowKit

namespace BK

/-- A series that may be in a block. -/
def okS (tp : Int) (x : Sr) : Bool := LB.right x.1 && (CL.right x.2 && (decide (0 < x.2.length) && decide ((CL.at' x.2 (x.2.length - 1)).1 ≤ tp)))

/-- The first i series are so, and rise. -/
def Ok (tp : Int) (S : List Sr) (i : Nat) : Prop := ∀ k, k < i → okS tp (atSr S k) = true ∧ (0 < k → LB.cmp (atSr S (k - 1)).1 (atSr S k).1 < 0)


def ser (tp : Int) (S : List Sr) : Bool := decide (∀ k, k < S.length → okS tp (atSr S k) = true ∧ (0 < k → LB.cmp (atSr S (k - 1)).1 (atSr S k).1 < 0))

/-- Which blocks may be. -/
def right (tp old : Int) (S : List Sr) : Bool := ser tp S && (decide (-1099511627776 ≤ tp ∧ tp ≤ 1099511627776) && decide (-1 ≤ old))

theorem Ok.next {tp : Int} {S : List Sr} {i : Nat} (h : Ok tp S i) (h1 : okS tp (atSr S i) = true) (h2 : 0 < i → LB.cmp (atSr S (i - 1)).1 (atSr S i).1 < 0) : Ok tp S (i + 1) := fun k hk => by
  rcases Nat.lt_or_ge k i with h3 | h3
  · exact h k h3
  · have : k = i := by omega
    subst this
    exact ⟨h1, h2⟩

theorem ser_ok {tp : Int} {S : List Sr} (h : Ok tp S S.length) : ser tp S = true := decide_eq_true h

theorem right_bad {tp old : Int} {S : List Sr} {i : Nat} (hi : i < S.length) (h : okS tp (atSr S i) = false ∨ (0 < i ∧ ¬ LB.cmp (atSr S (i - 1)).1 (atSr S i).1 < 0)) : right tp old S = false := by
  have : ser tp S = false := by
    unfold ser
    rw [decide_eq_false_iff_not]
    intro h2
    obtain ⟨h3, h4⟩ := h2 i hi
    rcases h with h | ⟨h, h5⟩
    · rw [h] at h3; cases h3
    · exact h5 (h4 h)
  unfold right
  rw [this]
  rfl

theorem okS_lab {tp : Int} {x : Sr} (h : LB.right x.1 = false) : okS tp x = false := by unfold okS; rw [h]; rfl
theorem okS_smp {tp : Int} {x : Sr} (h : CL.right x.2 = false) : okS tp x = false := by unfold okS; rw [h]; simp
theorem okS_none {tp : Int} {x : Sr} (h : x.2.length = 0) : okS tp x = false := by unfold okS; simp [h]
theorem okS_late {tp : Int} {x : Sr} (h : tp < (CL.at' x.2 (x.2.length - 1)).1) : okS tp x = false := by
  have : decide ((CL.at' x.2 (x.2.length - 1)).1 ≤ tp) = false := decide_eq_false (by omega)
  unfold okS; rw [this]; simp
theorem okS_yes {tp : Int} {x : Sr} (h1 : LB.right x.1 = true) (h2 : CL.right x.2 = true) (h3 : 0 < x.2.length) (h4 : (CL.at' x.2 (x.2.length - 1)).1 ≤ tp) : okS tp x = true := by
  unfold okS; rw [h1, h2, decide_eq_true h3, decide_eq_true h4]; rfl

end BK

end Go.Proofs.Ytdmnlmohfaafoae

namespace Go.Proofs.Ytdmnlmohfaafoae
open Go.RowKit

/-- A slice that is one: no longer than its room. -/
def CapV (v : Value) : Prop := ∀ so n sc, v = .slice so n sc → n ≤ sc ∧ (so = none → sc = 0)

theorem own_cap {w : World} {base n size : Nat} {e : TypeId} {v : Value} {xs : List Value} (h : w.ownsRow base e size v n xs) : CapV v := fun so m sc e => by
  rcases h.2 with ⟨h0, h1⟩ | ⟨g, cap, cur, h0, _, _, h3, _⟩
  · rw [h0] at e; cases e; exact ⟨Nat.le_refl _, fun _ => rfl⟩
  · rw [h0] at e; cases e; exact ⟨h3, fun e => by cases e⟩

/-- Which samples may be, told apart. -/
theorem right_key (l : List CL.Smp) : CL.right l = true ↔ l.length ≤ 2000 ∧ l.Pairwise (fun a b => a.1 < b.1) ∧ ∀ s ∈ l, -1099511627776 ≤ s.1 ∧ s.1 ≤ 1099511627776 := by
  rw [CL.right_iff]
  have ge : ∀ i (hi : i < l.length), CL.at' l i = l[i] := fun i hi => by
    unfold CL.at'; rw [List.getD_eq_getElem?_getD, List.getElem?_eq_getElem hi]; rfl
  constructor
  · rintro ⟨h1, h2⟩
    refine ⟨h1, ?_, fun s hs => ?_⟩
    · rw [List.pairwise_iff_getElem]
      have step : ∀ n i, i + n < l.length → 0 < n → (CL.at' l i).1 < (CL.at' l (i + n)).1 := by
        intro n
        induction n with
        | zero => intro i _ h; omega
        | succ n ih =>
          intro i hi _
          have h3 := ((CL.okAt_iff l (i + (n + 1))).1 (h2 _ hi)).2
          have h4 : (CL.at' l (i + n)).1 < (CL.at' l (i + (n + 1))).1 := by
            rcases h3 with h3 | h3
            · omega
            · exact h3
          by_cases hn : n = 0
          · subst hn; exact h4
          · have := ih i (by omega) (by omega); omega
      intro i j hi hj hij
      have := step (j - i) i (by omega) (by omega)
      rw [show i + (j - i) = j by omega, ge i hi, ge j hj] at this
      exact this
    · obtain ⟨i, hi, e⟩ := List.mem_iff_getElem.1 hs
      have := ((CL.okAt_iff l i).1 (h2 i hi)).1
      rw [ge i hi, e] at this
      exact this
  · rintro ⟨h1, h2, h3⟩
    refine ⟨h1, fun i hi => (CL.okAt_iff l i).2 ⟨?_, ?_⟩⟩
    · rw [ge i hi]; exact h3 _ (List.getElem_mem hi)
    · by_cases h0 : i = 0
      · exact .inl h0
      · right
        rw [ge i hi, ge (i - 1) (by omega)]
        exact List.pairwise_iff_getElem.1 h2 (i - 1) i (by omega) hi (by omega)

theorem right_mrg {a b : List CL.Smp} (ha : CL.right a = true) (hb : CL.right b = true) (hn : (CL.mrg a b).length ≤ 2000) : CL.right (CL.mrg a b) = true := by
  have hra := CL.rising_of_right a ha
  have hrb := CL.rising_of_right b hb
  refine (right_key _).2 ⟨hn, CL.rising_mrg a b hra hrb, fun s hs => ?_⟩
  rcases (CL.mem_mrg a b hra hrb s).1 hs with h | h
  · exact ((right_key b).1 hb).2.2 s h
  · exact ((right_key a).1 ha).2.2 s h.1

/-- What is gone. -/
structure Gn where
  M : List LB.Mat
  fr : Int
  tt : Int

def atG (l : List Gn) (i : Nat) : Gn := l.getD i ⟨[], 0, 0⟩

/-- Rows of what is gone that came in. -/
def GRow (w : World) (ao : Option Addr) (l : List Gn) : Prop := ∀ i, i < l.length → ∃ b off, ao = some ⟨b, off, none⟩ ∧ b < w.heap.size ∧ ∃ mo mc, w.cell? ⟨b, off + i * 3, none⟩ = some (.slice mo (atG l i).M.length mc) ∧ w.cell? ⟨b, off + i * 3 + 1, none⟩ = some (.int .i64 (atG l i).fr) ∧ w.cell? ⟨b, off + i * 3 + 2, none⟩ = some (.int .i64 (atG l i).tt) ∧ MRow w mo (atG l i).M

/-- A sample is gone. -/
abbrev goG (g : Gn) : List LB.Lab → Int → Bool := goP g.M fun s => decide (g.fr ≤ s) && decide (s ≤ g.tt)

/-- What is left, one by one. -/
def leftG (a : List Sr) (gs : List Gn) : List Sr := gs.foldl (fun l g => HD.kp (fun L t => !goG g L t) l) a

theorem leftG_next (a : List Sr) (gs : List Gn) (k : Nat) (h : k < gs.length) : leftG a (gs.take (k + 1)) = HD.kp (fun L t => !goG (atG gs k) L t) (leftG a (gs.take k)) := by
  have e : gs.take (k + 1) = gs.take k ++ [atG gs k] := by
    rw [List.take_add_one]
    congr 1
    unfold atG
    rw [List.getD_eq_getElem?_getD, List.getElem?_eq_getElem h]; rfl
  rw [e]
  unfold leftG
  rw [List.foldl_append]
  rfl

theorem leftG_good {a : List Sr} (h : HD.Good a) : ∀ gs : List Gn, HD.Good (leftG a gs) := by
  intro gs
  induction gs generalizing a with
  | nil => exact h
  | cons g gs ih => exact ih (HD.kp_good h)

theorem ord_steps {S : List Sr} (h : ∀ k, k < S.length → 0 < k → LB.cmp (atSr S (k - 1)).1 (atSr S k).1 < 0) : HD.Ord S := by
  have key : ∀ j, j < S.length → ∀ i, i < j → LB.cmp (atSr S i).1 (atSr S j).1 = -1 := by
    intro j
    induction j with
    | zero => intro _ i hi; omega
    | succ j ih =>
      intro hj i hi
      have h1 := BK.cmp_neg (h (j + 1) hj (by omega))
      rw [Nat.add_sub_cancel] at h1
      by_cases e : i = j
      · rw [e]; exact h1
      · exact BK.lt_trans' (ih (by omega) i (by omega)) h1
  unfold HD.Ord
  rw [List.pairwise_iff_getElem]
  intro i j hi hj hij
  rw [HD.at_get S i hi, HD.at_get S j hj]
  exact key j hj i hij

theorem right_good {tp old : Int} {S : List Sr} (h : BK.right tp old S = true) (hn : S.length ≤ 60) (hR : ∀ i, i < S.length → ∀ s ∈ (atSr S i).2, CL.Rs s) : HD.Good S := by
  unfold BK.right at h
  simp only [Bool.and_eq_true] at h
  have h1 := of_decide_eq_true h.1
  refine ⟨ord_steps fun k hk h0 => (h1 k hk).2 h0, hn, fun x hx => ?_⟩
  obtain ⟨i, hi, rfl⟩ := HD.mem_at hx
  have h2 := (h1 i hi).1
  unfold BK.okS at h2
  simp only [Bool.and_eq_true, decide_eq_true_eq] at h2
  exact ⟨h2.1, h2.2.1, h2.2.2.1, hR i hi⟩

theorem good_fewB {S : List Sr} (h : HD.Good S) : SrFew S := ⟨by have := h.few; omega, fun i hi => by
  have hok := h.ok _ (HD.at_mem S i hi)
  have h1 := right_len hok.1
  have h2 := right_le hok.2.1
  omega⟩

theorem jn_len : ∀ (n : Nat) (a b : List Sr), a.length + b.length ≤ n → (HD.jn a b).length ≤ a.length + b.length := by
  intro n
  induction n with
  | zero =>
    intro a b hn
    have h1 : a = [] := List.eq_nil_of_length_eq_zero (by omega)
    subst h1
    rw [HD.jn_nil']; simp
  | succ n ih =>
    intro a b hn
    cases a with
    | nil => rw [HD.jn_nil']; simp
    | cons u a =>
      cases b with
      | nil => rw [HD.jn_nil]; simp
      | cons v b =>
        simp only [List.length_cons] at hn
        rcases BK.cmp3 u.1 v.1 with h | h | h
        · rw [HD.jn_lt u v a b h]
          have := ih a (v :: b) (by simp only [List.length_cons]; omega)
          simp only [List.length_cons] at this ⊢
          omega
        · rw [HD.jn_gt u v a b h]
          have := ih (u :: a) b (by simp only [List.length_cons]; omega)
          simp only [List.length_cons] at this ⊢
          omega
        · rw [HD.jn_eq u v a b h]
          have := ih a b (by omega)
          simp only [List.length_cons] at this ⊢
          omega

theorem jn_few {a b : List Sr} (ha : HD.Good a) (hb : HD.Good b) : SrFew (HD.jn a b) := by
  have h1 := jn_len _ a b (Nat.le_refl _)
  have h2 := ha.few
  have h3 := hb.few
  refine ⟨by omega, fun i hi => ?_⟩
  have hm := (BK.mem_jn _ a b (Nat.le_refl _) ha.ord hb.ord _).1 (HD.at_mem _ i hi)
  rcases hm with h | h | ⟨u, hu, v, hv, e1, e2⟩
  · have hok := ha.ok _ h.1
    have := right_len hok.1
    have := right_le hok.2.1
    omega
  · have hok := hb.ok _ h.1
    have := right_len hok.1
    have := right_le hok.2.1
    omega
  · rw [e2]
    have hok := ha.ok _ hu
    have hok2 := hb.ok _ hv
    have := right_len hok.1
    have := right_le hok.2.1
    have := right_le hok2.2.1
    have := CL.mrg_len u.2 v.2
    exact ⟨by show u.1.length ≤ 1000; omega, by show (CL.mrg u.2 v.2).length ≤ 1000000; omega⟩

theorem asked_opB {l : List LB.Mat} (h : LB.asked l = true) (i : Nat) (hi : i < l.length) : 0 ≤ (LB.am l i).op ∧ (LB.am l i).op ≤ 3 := by
  unfold LB.asked at h
  simp only [Bool.and_eq_true] at h
  have h1 := List.all_eq_true.1 h.2 (LB.am l i) (LB.am_mem l i hi)
  unfold LB.askd at h1
  simp only [Bool.and_eq_true, decide_eq_true_eq] at h1
  omega

/-- A row's slices of samples are no longer than their room. -/
def CapR (w : World) (ao : Option Addr) (a : List Sr) : Prop := ∀ i, i < a.length → ∀ b off, ao = some ⟨b, off, none⟩ → ∀ v, w.cell? ⟨b, off + i * 2 + 1, none⟩ = some v → CapV v

/-- A row of series, with its room. -/
def RowOk (w : World) (v : Value) (S : List Sr) : Prop := ∃ ao cap, v = .slice ao S.length cap ∧ SrRow w ao S ∧ CapR w ao S ∧ S.length ≤ cap ∧ (ao = none → cap = 0)

theorem RowOk.below {w w' : World} {v : Value} {S : List Sr} (h : RowOk w v S) (k : Below w.heap.size w w') : RowOk w' v S := by
  obtain ⟨ao, cap, h1, h2, h3, h4, h5⟩ := h
  refine ⟨ao, cap, h1, h2.below k, fun i hi b off e u hu => ?_, h4, h5⟩
  obtain ⟨b2, off2, e2, hb2, _⟩ := h2 i hi
  rw [e] at e2
  cases e2
  exact h3 i hi b off e u ((k.cell (p := ⟨b, _, none⟩) hb2).symm.trans hu)

theorem RowOk.of_own {w : World} {base : Nat} {v : Value} {S : List Sr} (h : SrOwn w base v S) : RowOk w v S := by
  obtain ⟨ao, cap, e, hr⟩ := SrRow.of_own h
  obtain ⟨xs, h1, h2, h3⟩ := h
  refine ⟨ao, cap, e, hr, fun i hi b off eb u hu => ?_, ?_, ?_⟩
  · rcases h2.2 with ⟨h0, hn⟩ | ⟨g, c, cur, h0, _⟩
    · omega
    · rw [e] at h0
      simp only [Value.slice.injEq] at h0
      rw [eb] at h0
      have hg : b = g ∧ off = 0 := by
        have := h0.1
        simp only [Option.some.injEq, Addr.mk.injEq] at this
        exact ⟨this.1, this.2.1⟩
      obtain ⟨rfl, rfl⟩ := hg
      have c1 := h2.cells (g := b) (by rw [e, eb]; rfl) _ _ (flat_get xs i (by omega)).2
      rw [Addr.add_lit] at c1
      rw [show 0 + i * 2 + 1 = 0 + (i * 2 + 1) by omega, c1] at hu
      cases hu
      exact own_cap (h3 i hi).2
  · exact (own_cap h2 ao S.length cap e).1
  · exact (own_cap h2 ao S.length cap e).2

/-- A row of what is gone, with its room. -/
def GOk (w : World) (v : Value) (gs : List Gn) : Prop := ∃ go gc, v = .slice go gs.length gc ∧ GRow w go gs ∧ gs.length ≤ gc ∧ (go = none → gc = 0)

theorem GRow.below {w w' : World} {go : Option Addr} {gs : List Gn} (h : GRow w go gs) (k : Below w.heap.size w w') : GRow w' go gs := fun i hi => by
  obtain ⟨b, off, e, hb, mo, mc, c0, c1, c2, hM⟩ := h i hi
  exact ⟨b, off, e, Nat.lt_of_lt_of_le hb k.size, mo, mc, (k.cell (p := ⟨b, _, none⟩) hb).trans c0, (k.cell (p := ⟨b, _, none⟩) hb).trans c1, (k.cell (p := ⟨b, _, none⟩) hb).trans c2, hM.below k⟩

theorem GOk.below {w w' : World} {v : Value} {gs : List Gn} (h : GOk w v gs) (k : Below w.heap.size w w') : GOk w' v gs := by
  obtain ⟨go, gc, h1, h2, h3, h4⟩ := h
  exact ⟨go, gc, h1, h2.below k, h3, h4⟩

end Go.Proofs.Ytdmnlmohfaafoae

