/- Plain facts on samples of two lists put together: no program in it. What HeadWhole says, plain: how many come; what is cut off and what stays are together all that was. No program in it. What two rows of series come to together, plain: the document's way (one by one, then sorted) and the short way (jn). Names no function. -/
import Derived.Test.YtdmnlmohfaafoaePMChNum
import Derived.Test.YtdmnlmohfaafoaePMHdNum
import Derived.Test.YtdmnlmohfaafoaePMHrSortN
namespace Go.Proofs.Ytdmnlmohfaafoae
namespace CL

/-- Times rise. -/
def Rising (l : List Smp) : Prop := l.Pairwise fun x y => x.1 < y.1

theorem rising_of_right (l : List Smp) (h : right l = true) : Rising l := by
  obtain ⟨_, h2⟩ := (right_iff l).1 h
  have step : ∀ i, i + 1 < l.length → (at' l i).1 < (at' l (i + 1)).1 := fun i hi => by
    have := ((okAt_iff l (i + 1)).1 (h2 (i + 1) hi)).2
    rcases this with h | h
    · omega
    · simpa using h
  have far : ∀ d i, i + d + 1 < l.length → (at' l i).1 < (at' l (i + d + 1)).1 := by
    intro d
    induction d with
    | zero => intro i hi; exact step i hi
    | succ d ih =>
      intro i hi
      have a := ih i (by omega)
      have b := step (i + d + 1) (by omega)
      have e : i + (d + 1) + 1 = i + d + 1 + 1 := by omega
      rw [e]; omega
  unfold Rising
  rw [List.pairwise_iff_getElem]
  intro i j hi hj hij
  have := far (j - i - 1) i (by omega)
  rw [show i + (j - i - 1) + 1 = j by omega] at this
  simpa [at', hi, hj] using this

/-- What two lists come to together. -/
def mrg : List Smp → List Smp → List Smp
  | [], b => b
  | x :: a, [] => x :: a
  | x :: a, y :: b => if x.1 < y.1 then x :: mrg a (y :: b) else if x.1 = y.1 then y :: mrg a b else y :: mrg (x :: a) b
  termination_by a b => a.length + b.length

theorem mem_mrg (a b : List Smp) (ha : Rising a) (hb : Rising b) (x : Smp) : x ∈ mrg a b ↔ x ∈ b ∨ (x ∈ a ∧ ∀ y ∈ b, y.1 ≠ x.1) := by
  match a, b with
  | [], b => unfold mrg; simp
  | p :: a, [] => unfold mrg; simp
  | p :: a, q :: b =>
    have ha' := List.pairwise_cons.1 ha
    have hb' := List.pairwise_cons.1 hb
    unfold mrg
    split
    · next h =>
      rw [List.mem_cons, mem_mrg a (q :: b) ha'.2 hb x]
      constructor
      · rintro (rfl | h' | ⟨h1, h2⟩)
        · refine .inr ⟨List.mem_cons_self, fun y hy => ?_⟩
          rcases List.mem_cons.1 hy with rfl | hy
          · omega
          · have := hb'.1 y hy; omega
        · exact .inl h'
        · exact .inr ⟨List.mem_cons_of_mem _ h1, h2⟩
      · rintro (h' | ⟨h1, h2⟩)
        · exact .inr (.inl h')
        · rcases List.mem_cons.1 h1 with rfl | h1
          · exact .inl rfl
          · exact .inr (.inr ⟨h1, h2⟩)
    · next h =>
      split
      · next he =>
        rw [List.mem_cons, mem_mrg a b ha'.2 hb'.2 x]
        constructor
        · rintro (rfl | h' | ⟨h1, h2⟩)
          · exact .inl List.mem_cons_self
          · exact .inl (List.mem_cons_of_mem _ h')
          · refine .inr ⟨List.mem_cons_of_mem _ h1, fun y hy => ?_⟩
            rcases List.mem_cons.1 hy with rfl | hy
            · have := ha'.1 x h1; omega
            · exact h2 y hy
        · rintro (h' | ⟨h1, h2⟩)
          · rcases List.mem_cons.1 h' with rfl | h'
            · exact .inl rfl
            · exact .inr (.inl h')
          · rcases List.mem_cons.1 h1 with rfl | h1
            · exact absurd he.symm (h2 q List.mem_cons_self)
            · exact .inr (.inr ⟨h1, fun y hy => h2 y (List.mem_cons_of_mem _ hy)⟩)
      · next he =>
        rw [List.mem_cons, mem_mrg (p :: a) b ha hb'.2 x]
        constructor
        · rintro (rfl | h' | ⟨h1, h2⟩)
          · exact .inl List.mem_cons_self
          · exact .inl (List.mem_cons_of_mem _ h')
          · refine .inr ⟨h1, fun y hy => ?_⟩
            rcases List.mem_cons.1 hy with rfl | hy
            · rcases List.mem_cons.1 h1 with rfl | h1
              · omega
              · have := ha'.1 x h1; omega
            · exact h2 y hy
        · rintro (h' | ⟨h1, h2⟩)
          · rcases List.mem_cons.1 h' with rfl | h'
            · exact .inl rfl
            · exact .inr (.inl h')
          · exact .inr (.inr ⟨h1, fun y hy => h2 y (List.mem_cons_of_mem _ hy)⟩)
  termination_by a.length + b.length

theorem rising_mrg (a b : List Smp) (ha : Rising a) (hb : Rising b) : Rising (mrg a b) := by
  match a, b with
  | [], b => unfold mrg; exact hb
  | p :: a, [] => unfold mrg; exact ha
  | p :: a, q :: b =>
    have ha' := List.pairwise_cons.1 ha
    have hb' := List.pairwise_cons.1 hb
    unfold mrg
    split
    · next h =>
      refine List.pairwise_cons.2 ⟨fun y hy => ?_, rising_mrg a (q :: b) ha'.2 hb⟩
      rcases (mem_mrg a (q :: b) ha'.2 hb y).1 hy with h' | ⟨h1, _⟩
      · rcases List.mem_cons.1 h' with rfl | h'
        · exact h
        · have := hb'.1 y h'; omega
      · exact ha'.1 y h1
    · next h =>
      split
      · next he =>
        refine List.pairwise_cons.2 ⟨fun y hy => ?_, rising_mrg a b ha'.2 hb'.2⟩
        rcases (mem_mrg a b ha'.2 hb'.2 y).1 hy with h' | ⟨h1, _⟩
        · exact hb'.1 y h'
        · have := ha'.1 y h1; omega
      · next he =>
        refine List.pairwise_cons.2 ⟨fun y hy => ?_, rising_mrg (p :: a) b ha hb'.2⟩
        rcases (mem_mrg (p :: a) b ha hb'.2 y).1 hy with h' | ⟨h1, _⟩
        · exact hb'.1 y h'
        · rcases List.mem_cons.1 h1 with rfl | h1
          · omega
          · have := ha'.1 y h1; omega
  termination_by a.length + b.length

theorem mrg_len (a b : List Smp) : (mrg a b).length ≤ a.length + b.length := by
  match a, b with
  | [], b => unfold mrg; simp
  | p :: a, [] => unfold mrg; simp
  | p :: a, q :: b =>
    unfold mrg
    split
    · have := mrg_len a (q :: b); simp at this ⊢; omega
    · split
      · have := mrg_len a b; simp at this ⊢; omega
      · have := mrg_len (p :: a) b; simp at this ⊢; omega
  termination_by a.length + b.length

/-- Two rising lists of the same samples are one. -/
theorem rising_ext : ∀ (l l' : List Smp), Rising l → Rising l' → (∀ x, x ∈ l ↔ x ∈ l') → l = l'
  | [], [], _, _, _ => rfl
  | [], y :: l', _, _, h => by have := (h y).2 List.mem_cons_self; simp at this
  | x :: l, [], _, _, h => by have := (h x).1 List.mem_cons_self; simp at this
  | x :: l, y :: l', h1, h2, h => by
    have a := List.pairwise_cons.1 h1
    have b := List.pairwise_cons.1 h2
    have exy : x = y := by
      rcases List.mem_cons.1 ((h x).1 List.mem_cons_self) with e | e
      · exact e
      · rcases List.mem_cons.1 ((h y).2 List.mem_cons_self) with e' | e'
        · exact e'.symm
        · have c := b.1 x e
          have d := a.1 y e'
          omega
    subst exy
    rw [rising_ext l l' a.2 b.2 (fun z => ?_)]
    constructor
    · intro hz
      rcases List.mem_cons.1 ((h z).1 (List.mem_cons_of_mem _ hz)) with e | e
      · subst e; have := a.1 z hz; omega
      · exact e
    · intro hz
      rcases List.mem_cons.1 ((h z).2 (List.mem_cons_of_mem _ hz)) with e | e
      · subst e; have := b.1 z hz; omega
      · exact e

end CL
end Go.Proofs.Ytdmnlmohfaafoae

namespace Go.Proofs.Ytdmnlmohfaafoae
namespace HD

theorem total_cons (x : Sr) (S : List Sr) : total (x :: S) = x.2.length + total S := by unfold total; simp

theorem total_ins : ∀ (S : List Sr) (k : Nat) (x : Sr), k ≤ S.length → total (S.insertIdx k x) = total S + x.2.length
  | S, 0, x, _ => by rw [List.insertIdx_zero, total_cons]; omega
  | [], k + 1, x, h => by simp at h
  | y :: S, k + 1, x, h => by
    rw [List.insertIdx_succ_cons, total_cons, total_cons, total_ins S k x (by simpa using h)]
    omega

theorem total_set : ∀ (S : List Sr) (k : Nat) (L : List LB.Lab) (l : List CL.Smp), k < S.length → total (S.set k (L, (atSr S k).2 ++ l)) = total S + l.length
  | [], k, L, l, h => by simp at h
  | y :: S, 0, L, l, _ => by
    rw [List.set_cons_zero, total_cons, total_cons, at_zero]
    simp only [List.length_append]
    omega
  | y :: S, k + 1, L, l, h => by
    rw [List.set_cons_succ, total_cons, total_cons, at_cons, total_set S k L l (by simpa using h)]
    omega

theorem total_nxt {mark : Int} {S : List Sr} {x : Sr} (he : err mark S x = 0) : total (nxt S x) = total S + x.2.length := by
  obtain ⟨_, _, _, _, h5⟩ := err_ok he
  unfold nxt
  rcases h5 with ⟨h6, _, _⟩ | ⟨h6, _⟩
  · rw [if_pos h6, total_set S _ _ _ (decide_eq_true_iff.1 h6).1]
  · rw [if_neg (by rw [h6]; decide), total_ins S _ _ (pos_le S x.1)]

theorem total_run {mark : Int} : ∀ {S l : List Sr} {i : Nat}, (run mark S l i).1 = none → total (run mark S l i).2 = total S + total l
  | S, [], _, _ => by unfold run; rfl
  | S, x :: l, i, h => by
    unfold run at h ⊢
    by_cases he : err mark S x = 0
    · rw [if_pos he] at h ⊢
      rw [total_run h, total_nxt he, total_cons]
      omega
    · rw [if_neg he] at h
      simp at h

/-- What Append tells: as many more as came, or all as it was. -/
theorem total_app {mark : Int} {S l : List Sr} (h : (app mark S l).1 = (0, -1)) : total (app mark S l).2 = total S + total l := by
  unfold app at h ⊢
  by_cases ht : 40 < total l
  · rw [if_pos ht] at h; simp at h
  · rw [if_neg ht] at h ⊢
    rcases hr : run mark S l 0 with ⟨o, S'⟩
    rcases o with _ | ⟨e, i⟩
    · rw [hr] at h
      have := total_run (mark := mark) (S := S) (l := l) (i := 0) (by rw [hr])
      rw [hr] at this
      exact this
    · rw [hr] at h
      simp only [Prod.mk.injEq] at h
      omega

theorem app_same {mark : Int} {S l : List Sr} (h : (app mark S l).1 ≠ (0, -1)) : (app mark S l).2 = S := by
  unfold app at h ⊢
  by_cases ht : 40 < total l
  · rw [if_pos ht]
  · rw [if_neg ht] at h ⊢
    rcases hr : run mark S l 0 with ⟨o, S'⟩
    rcases o with _ | ⟨e, i⟩
    · rw [hr] at h; exact absurd rfl h
    · rfl

/-- Series of both, in order, samples of one together. -/
def jn : List Sr → List Sr → List Sr
  | [], b => b
  | x :: a, [] => x :: a
  | x :: a, y :: b => if LB.cmp x.1 y.1 < 0 then x :: jn a (y :: b) else if 0 < LB.cmp x.1 y.1 then y :: jn (x :: a) b else (x.1, CL.mrg x.2 y.2) :: jn a b
termination_by a b => a.length + b.length

theorem jn_nil (a : List Sr) : jn a [] = a := by cases a <;> simp [jn]
theorem jn_nil' (b : List Sr) : jn [] b = b := by simp [jn]
theorem jn_lt (x y : Sr) (a b : List Sr) (h : LB.cmp x.1 y.1 < 0) : jn (x :: a) (y :: b) = x :: jn a (y :: b) := by rw [jn, if_pos h]
theorem jn_gt (x y : Sr) (a b : List Sr) (h : 0 < LB.cmp x.1 y.1) : jn (x :: a) (y :: b) = y :: jn (x :: a) b := by rw [jn, if_neg (by omega), if_pos h]
theorem jn_eq (x y : Sr) (a b : List Sr) (h : LB.cmp x.1 y.1 = 0) : jn (x :: a) (y :: b) = (x.1, CL.mrg x.2 y.2) :: jn a b := by rw [jn, if_neg (by omega), if_neg (by omega)]

/-- .. whichever is empty. -/
theorem jn_left (x : Sr) (a b : List Sr) (h : ∀ y ∈ b, LB.cmp x.1 y.1 < 0) : jn (x :: a) b = x :: jn a b := by
  cases b with
  | nil => rw [jn_nil, jn_nil]
  | cons y b => exact jn_lt x y a b (h y (by simp))
theorem jn_right (y : Sr) (a b : List Sr) (h : ∀ x ∈ a, 0 < LB.cmp x.1 y.1) : jn a (y :: b) = y :: jn a b := by
  cases a with
  | nil => rw [jn_nil', jn_nil']
  | cons x a => exact jn_gt x y a b (h x (by simp))

theorem kp_cons (p : List LB.Lab → Int → Bool) (x : Sr) (S : List Sr) : kp p (x :: S) = (if 0 < (keepS p x).2.length then [keepS p x] else []) ++ kp p S := by
  unfold kp
  rw [List.map_cons, List.filter_cons]
  by_cases h : 0 < (keepS p x).2.length
  · rw [if_pos (by simpa using h), if_pos h]; rfl
  · rw [if_neg (by simpa using h), if_neg h]; rfl

theorem kp_mem {p : List LB.Lab → Int → Bool} {S : List Sr} {y : Sr} (h : y ∈ kp p S) : ∃ z ∈ S, y.1 = z.1 := by
  unfold kp at h
  obtain ⟨h1, _⟩ := List.mem_filter.1 h
  obtain ⟨z, hz, rfl⟩ := List.mem_map.1 h1
  exact ⟨z, hz, rfl⟩

theorem mrg_parts (l : List CL.Smp) (t : Int) (h : CL.right l = true) : CL.mrg (l.filter fun s => decide (s.1 ≤ t)) (l.filter fun s => !decide (s.1 ≤ t)) = l := by
  have hr := CL.rising_of_right l h
  have h1 : CL.Rising (l.filter fun s => decide (s.1 ≤ t)) := List.Pairwise.filter _ hr
  have h2 : CL.Rising (l.filter fun s => !decide (s.1 ≤ t)) := List.Pairwise.filter _ hr
  refine CL.rising_ext _ _ (CL.rising_mrg _ _ h1 h2) hr fun x => ?_
  rw [CL.mem_mrg _ _ h1 h2]
  simp only [List.mem_filter, decide_eq_true_eq, Bool.not_eq_true', decide_eq_false_iff_not]
  constructor
  · rintro (h | h)
    · exact h.1
    · exact h.1.1
  · intro hx
    by_cases ht : x.1 ≤ t
    · exact .inr ⟨⟨hx, ht⟩, fun y hy e => by omega⟩
    · exact .inl ⟨hx, ht⟩

/-- What is cut off, and what stays, are together all that was. -/
theorem jn_parts (t : Int) : ∀ (S : List Sr), Ord S → (∀ x ∈ S, OkS x) → jn (kp (fun _ s => decide (s ≤ t)) S) (kp (fun _ s => !decide (s ≤ t)) S) = S
  | [], _, _ => by simp [kp, jn]
  | x :: S, ho, hk => by
    have ho2 := List.pairwise_cons.1 ho
    have ih := jn_parts t S ho2.2 (fun y hy => hk y (by simp [hy]))
    have hx := hk x (by simp)
    have hA : ∀ y ∈ kp (fun _ s => decide (s ≤ t)) S, LB.cmp x.1 y.1 = -1 := fun y hy => by
      obtain ⟨z, hz, e⟩ := kp_mem hy
      rw [e]; exact ho2.1 z hz
    have hB : ∀ y ∈ kp (fun _ s => !decide (s ≤ t)) S, LB.cmp x.1 y.1 = -1 := fun y hy => by
      obtain ⟨z, hz, e⟩ := kp_mem hy
      rw [e]; exact ho2.1 z hz
    have hm := mrg_parts x.2 t hx.2.1
    rw [kp_cons, kp_cons]
    have e1 : (keepS (fun _ s => decide (s ≤ t)) x) = (x.1, x.2.filter fun s => decide (s.1 ≤ t)) := rfl
    have e2 : (keepS (fun _ s => !decide (s ≤ t)) x) = (x.1, x.2.filter fun s => !decide (s.1 ≤ t)) := rfl
    rw [e1, e2]
    by_cases h1 : 0 < (x.2.filter fun s => decide (s.1 ≤ t)).length
    · by_cases h2 : 0 < (x.2.filter fun s => !decide (s.1 ≤ t)).length
      · rw [if_pos h1, if_pos h2]
        show jn (_ :: _) (_ :: _) = _
        rw [jn_eq (x.1, x.2.filter fun s => decide (s.1 ≤ t)) (x.1, x.2.filter fun s => !decide (s.1 ≤ t)) _ _ (cmp_refl x.1)]
        show (x.1, CL.mrg (x.2.filter fun s => decide (s.1 ≤ t)) (x.2.filter fun s => !decide (s.1 ≤ t))) :: _ = _
        rw [hm]
        exact congrArg _ ih
      · have h3 : (x.2.filter fun s => !decide (s.1 ≤ t)) = [] := List.eq_nil_of_length_eq_zero (by omega)
        have h4 : (x.2.filter fun s => decide (s.1 ≤ t)) = x.2 := by
          refine List.filter_eq_self.2 fun s hs => ?_
          by_cases ht : s.1 ≤ t
          · simpa using ht
          · have : s ∈ (x.2.filter fun s => !decide (s.1 ≤ t)) := List.mem_filter.2 ⟨hs, by simpa using ht⟩
            rw [h3] at this; cases this
        rw [if_pos h1, if_neg h2, h4]
        show jn (_ :: _) _ = _
        rw [List.nil_append, jn_left _ _ _ (fun y hy => by show LB.cmp x.1 y.1 < 0; rw [hB y hy]; decide)]
        exact congrArg _ ih
    · have h3 : (x.2.filter fun s => decide (s.1 ≤ t)) = [] := List.eq_nil_of_length_eq_zero (by omega)
      have h4 : (x.2.filter fun s => !decide (s.1 ≤ t)) = x.2 := by
        refine List.filter_eq_self.2 fun s hs => ?_
        by_cases ht : s.1 ≤ t
        · have : s ∈ (x.2.filter fun s => decide (s.1 ≤ t)) := List.mem_filter.2 ⟨hs, by simpa using ht⟩
          rw [h3] at this; cases this
        · simpa using ht
      have h5 := hx.2.2.1
      rw [if_neg h1, h4, if_pos h5]
      show jn _ (_ :: _) = _
      rw [List.nil_append, jn_right _ _ _ (fun y hy => by show 0 < LB.cmp y.1 x.1; rw [cmp_flip (hA y hy)]; decide)]
      exact congrArg _ ih

end HD
end Go.Proofs.Ytdmnlmohfaafoae

namespace Go.Proofs.Ytdmnlmohfaafoae
open Go.RowKit

namespace BK

/-- What is in both together. -/
def MJ (a b : List Sr) (x : Sr) : Prop := (x ∈ a ∧ ∀ y ∈ b, y.1 ≠ x.1) ∨ (x ∈ b ∧ ∀ y ∈ a, y.1 ≠ x.1) ∨ ∃ u ∈ a, ∃ v ∈ b, u.1 = v.1 ∧ x = (u.1, CL.mrg u.2 v.2)

theorem lt_ne {x y : Sr} (h : LB.cmp x.1 y.1 = -1) : x.1 ≠ y.1 := fun e => by rw [e, HD.cmp_refl] at h; cases h

theorem cmp3 (x y : List LB.Lab) : LB.cmp x y < 0 ∨ 0 < LB.cmp x y ∨ LB.cmp x y = 0 := by omega

theorem cmp_neg {x y : List LB.Lab} (h : LB.cmp x y < 0) : LB.cmp x y = -1 := by
  rcases LB.cmp_ord.rng x y with e | e | e <;> omega

theorem cmp_pos {x y : List LB.Lab} (h : 0 < LB.cmp x y) : LB.cmp y x = -1 := by
  rcases LB.cmp_ord.rng x y with e | e | e
  · omega
  · omega
  · exact HD.cmp_flip' e

theorem head_lt {x : Sr} {a : List Sr} (h : HD.Ord (x :: a)) : ∀ y ∈ a, LB.cmp x.1 y.1 = -1 := fun y hy => (List.pairwise_cons.1 h).1 y hy

theorem lt_trans' {x y z : List LB.Lab} (h1 : LB.cmp x y = -1) (h2 : LB.cmp y z = -1) : LB.cmp x z = -1 := LB.cmp_ord.tr x y z h1 h2

theorem mem_jn : ∀ (n : Nat) (a b : List Sr), a.length + b.length ≤ n → HD.Ord a → HD.Ord b → ∀ x, x ∈ HD.jn a b ↔ MJ a b x := by
  intro n
  induction n with
  | zero =>
    intro a b hn ha hb x
    have h1 : a = [] := List.eq_nil_of_length_eq_zero (by omega)
    have h2 : b = [] := List.eq_nil_of_length_eq_zero (by omega)
    subst h1 h2
    simp [HD.jn_nil, MJ]
  | succ n ih =>
    intro a b hn ha hb x
    cases a with
    | nil => rw [HD.jn_nil']; simp [MJ]
    | cons u a =>
      cases b with
      | nil => rw [HD.jn_nil]; simp [MJ]
      | cons v b =>
        have hau := head_lt ha
        have hbv := head_lt hb
        have ha' : HD.Ord a := (List.pairwise_cons.1 ha).2
        have hb' : HD.Ord b := (List.pairwise_cons.1 hb).2
        simp only [List.length_cons] at hn
        rcases cmp3 u.1 v.1 with h | h | h
        · have huv := cmp_neg h
          rw [HD.jn_lt u v a b h, List.mem_cons, ih a (v :: b) (by simp only [List.length_cons]; omega) ha' hb x]
          have hub : ∀ y ∈ v :: b, u.1 ≠ y.1 := fun y hy => by
            rcases List.mem_cons.1 hy with rfl | hy
            · exact lt_ne huv
            · exact lt_ne (lt_trans' huv (hbv y hy))
          constructor
          · rintro (rfl | h1 | h1 | ⟨p, hp, q, hq, e1, e2⟩)
            · exact .inl ⟨List.mem_cons_self, fun y hy e => hub y hy e.symm⟩
            · exact .inl ⟨List.mem_cons_of_mem _ h1.1, h1.2⟩
            · refine .inr (.inl ⟨h1.1, fun y hy => ?_⟩)
              rcases List.mem_cons.1 hy with rfl | hy
              · exact hub x h1.1
              · exact h1.2 y hy
            · exact .inr (.inr ⟨p, List.mem_cons_of_mem _ hp, q, hq, e1, e2⟩)
          · rintro (h1 | h1 | ⟨p, hp, q, hq, e1, e2⟩)
            · rcases List.mem_cons.1 h1.1 with rfl | h2
              · exact .inl rfl
              · exact .inr (.inl ⟨h2, h1.2⟩)
            · exact .inr (.inr (.inl ⟨h1.1, fun y hy => h1.2 y (List.mem_cons_of_mem _ hy)⟩))
            · rcases List.mem_cons.1 hp with rfl | hp
              · exact absurd e1 (hub q hq)
              · exact .inr (.inr (.inr ⟨p, hp, q, hq, e1, e2⟩))
        · have hvu := cmp_pos h
          rw [HD.jn_gt u v a b h, List.mem_cons, ih (u :: a) b (by simp only [List.length_cons]; omega) ha hb' x]
          have hva : ∀ y ∈ u :: a, v.1 ≠ y.1 := fun y hy => by
            rcases List.mem_cons.1 hy with rfl | hy
            · exact lt_ne hvu
            · exact lt_ne (lt_trans' hvu (hau y hy))
          constructor
          · rintro (rfl | h1 | h1 | ⟨p, hp, q, hq, e1, e2⟩)
            · exact .inr (.inl ⟨List.mem_cons_self, fun y hy e => hva y hy e.symm⟩)
            · refine .inl ⟨h1.1, fun y hy => ?_⟩
              rcases List.mem_cons.1 hy with rfl | hy
              · exact hva x h1.1
              · exact h1.2 y hy
            · exact .inr (.inl ⟨List.mem_cons_of_mem _ h1.1, h1.2⟩)
            · exact .inr (.inr ⟨p, hp, q, List.mem_cons_of_mem _ hq, e1, e2⟩)
          · rintro (h1 | h1 | ⟨p, hp, q, hq, e1, e2⟩)
            · exact .inr (.inl ⟨h1.1, fun y hy => h1.2 y (List.mem_cons_of_mem _ hy)⟩)
            · rcases List.mem_cons.1 h1.1 with rfl | h2
              · exact .inl rfl
              · exact .inr (.inr (.inl ⟨h2, h1.2⟩))
            · rcases List.mem_cons.1 hq with rfl | hq
              · exact absurd e1.symm (hva p hp)
              · exact .inr (.inr (.inr ⟨p, hp, q, hq, e1, e2⟩))
        · have huv := HD.cmp_eq h
          rw [HD.jn_eq u v a b h, List.mem_cons, ih a b (by omega) ha' hb' x]
          have hub : ∀ y ∈ b, u.1 ≠ y.1 := fun y hy => by rw [huv]; exact lt_ne (hbv y hy)
          have hva : ∀ y ∈ a, v.1 ≠ y.1 := fun y hy => by rw [← huv]; exact lt_ne (hau y hy)
          constructor
          · rintro (rfl | h1 | h1 | ⟨p, hp, q, hq, e1, e2⟩)
            · exact .inr (.inr ⟨u, List.mem_cons_self, v, List.mem_cons_self, huv, rfl⟩)
            · refine .inl ⟨List.mem_cons_of_mem _ h1.1, fun y hy => ?_⟩
              rcases List.mem_cons.1 hy with rfl | hy
              · exact hva x h1.1
              · exact h1.2 y hy
            · refine .inr (.inl ⟨List.mem_cons_of_mem _ h1.1, fun y hy => ?_⟩)
              rcases List.mem_cons.1 hy with rfl | hy
              · exact hub x h1.1
              · exact h1.2 y hy
            · exact .inr (.inr ⟨p, List.mem_cons_of_mem _ hp, q, List.mem_cons_of_mem _ hq, e1, e2⟩)
          · rintro (h1 | h1 | ⟨p, hp, q, hq, e1, e2⟩)
            · rcases List.mem_cons.1 h1.1 with rfl | h2
              · exact absurd huv.symm (h1.2 v List.mem_cons_self)
              · exact .inr (.inl ⟨h2, fun y hy => h1.2 y (List.mem_cons_of_mem _ hy)⟩)
            · rcases List.mem_cons.1 h1.1 with rfl | h2
              · exact absurd huv (h1.2 u List.mem_cons_self)
              · exact .inr (.inr (.inl ⟨h2, fun y hy => h1.2 y (List.mem_cons_of_mem _ hy)⟩))
            · rcases List.mem_cons.1 hp with rfl | hp
              · rcases List.mem_cons.1 hq with rfl | hq
                · exact .inl e2
                · exact absurd e1 (hub q hq)
              · rcases List.mem_cons.1 hq with rfl | hq
                · exact absurd e1.symm (hva p hp)
                · exact .inr (.inr (.inr ⟨p, hp, q, hq, e1, e2⟩))

/-- Whose labels they are. -/
theorem MJ.lab {a b : List Sr} {x : Sr} (h : MJ a b x) : (∃ u ∈ a, u.1 = x.1) ∨ ∃ v ∈ b, v.1 = x.1 := by
  rcases h with h | h | ⟨u, hu, v, hv, e1, e2⟩
  · exact .inl ⟨x, h.1, rfl⟩
  · exact .inr ⟨x, h.1, rfl⟩
  · exact .inl ⟨u, hu, by rw [e2]⟩

theorem ord_jn : ∀ (n : Nat) (a b : List Sr), a.length + b.length ≤ n → HD.Ord a → HD.Ord b → HD.Ord (HD.jn a b) := by
  intro n
  induction n with
  | zero =>
    intro a b hn ha hb
    have h1 : a = [] := List.eq_nil_of_length_eq_zero (by omega)
    subst h1
    rw [HD.jn_nil']; exact hb
  | succ n ih =>
    intro a b hn ha hb
    cases a with
    | nil => rw [HD.jn_nil']; exact hb
    | cons u a =>
      cases b with
      | nil => rw [HD.jn_nil]; exact ha
      | cons v b =>
        have hau := head_lt ha
        have hbv := head_lt hb
        have ha' : HD.Ord a := (List.pairwise_cons.1 ha).2
        have hb' : HD.Ord b := (List.pairwise_cons.1 hb).2
        simp only [List.length_cons] at hn
        rcases cmp3 u.1 v.1 with h | h | h
        · have huv := cmp_neg h
          rw [HD.jn_lt u v a b h]
          refine List.pairwise_cons.2 ⟨fun y hy => ?_, ih a (v :: b) (by simp only [List.length_cons]; omega) ha' hb⟩
          rcases ((mem_jn _ a (v :: b) (Nat.le_refl _) ha' hb y).1 hy).lab with ⟨p, hp, e⟩ | ⟨p, hp, e⟩
          · rw [← e]; exact hau p hp
          · rw [← e]
            rcases List.mem_cons.1 hp with rfl | hp
            · exact huv
            · exact lt_trans' huv (hbv p hp)
        · have hvu := cmp_pos h
          rw [HD.jn_gt u v a b h]
          refine List.pairwise_cons.2 ⟨fun y hy => ?_, ih (u :: a) b (by simp only [List.length_cons]; omega) ha hb'⟩
          rcases ((mem_jn _ (u :: a) b (Nat.le_refl _) ha hb' y).1 hy).lab with ⟨p, hp, e⟩ | ⟨p, hp, e⟩
          · rw [← e]
            rcases List.mem_cons.1 hp with rfl | hp
            · exact hvu
            · exact lt_trans' hvu (hau p hp)
          · rw [← e]; exact hbv p hp
        · have huv := HD.cmp_eq h
          rw [HD.jn_eq u v a b h]
          refine List.pairwise_cons.2 ⟨fun y hy => ?_, ih a b (by omega) ha' hb'⟩
          rcases ((mem_jn _ a b (Nat.le_refl _) ha' hb' y).1 hy).lab with ⟨p, hp, e⟩ | ⟨p, hp, e⟩
          · rw [← e]; exact hau p hp
          · rw [← e, huv]; exact hbv p hp

/-- No two of the same labels. -/
def Dis (l : List Sr) : Prop := ∀ i j, i < l.length → j < l.length → i ≠ j → (atSr l i).1 ≠ (atSr l j).1

theorem ord_dis {l : List Sr} (h : HD.Ord l) : Dis l := fun i j hi hj hij e => by
  rcases Nat.lt_or_gt_of_ne hij with h3 | h3
  · have := HD.ord_at h i j h3 hj
    rw [e, HD.cmp_refl] at this; cases this
  · have := HD.ord_at h j i h3 hi
    rw [e, HD.cmp_refl] at this; cases this

/-- The document's way, so far. -/
structure Way (a b : List Sr) (j : Nat) (out : List Sr) : Prop where
  dis : Dis out
  mem : ∀ x, x ∈ out ↔ MJ a (b.take j) x

theorem Way.start {a b : List Sr} (ha : HD.Ord a) : Way a b 0 a := ⟨ord_dis ha, fun x => by simp [MJ]⟩

theorem mem_take {b : List Sr} {j : Nat} {x : Sr} (h : x ∈ b.take j) : ∃ i, i < j ∧ i < b.length ∧ atSr b i = x := by
  obtain ⟨i, hi, e⟩ := HD.mem_at h
  rw [List.length_take] at hi
  refine ⟨i, by omega, by omega, ?_⟩
  rw [← e]
  unfold atSr
  rw [List.getD_eq_getElem?_getD, List.getD_eq_getElem?_getD, List.getElem?_take, if_pos (by omega)]

theorem take_next {b : List Sr} {j : Nat} (h : j < b.length) : b.take (j + 1) = b.take j ++ [atSr b j] := by
  rw [List.take_add_one]
  congr 1
  unfold atSr
  rw [List.getD_eq_getElem?_getD, List.getElem?_eq_getElem h]; rfl

/-- The next one's labels are none of those ahead of it. -/
theorem take_new {b : List Sr} (hb : HD.Ord b) {j : Nat} (h : j < b.length) : ∀ y ∈ b.take j, y.1 ≠ (atSr b j).1 := fun y hy e => by
  obtain ⟨i, h1, h2, rfl⟩ := mem_take hy
  have := HD.ord_at hb i j h1 h
  rw [e, HD.cmp_refl] at this; cases this

/-- One whose labels are nowhere. -/
theorem Way.push {a b out : List Sr} {j : Nat} (h : Way a b j out) (hb : HD.Ord b) (hj : j < b.length) (hno : ∀ i, i < out.length → LB.cmp (atSr out i).1 (atSr b j).1 ≠ 0) : Way a b (j + 1) (out ++ [atSr b j]) := by
  have hno' : ∀ y ∈ out, y.1 ≠ (atSr b j).1 := fun y hy e => by
    obtain ⟨i, hi, rfl⟩ := HD.mem_at hy
    exact hno i hi (by rw [e]; exact HD.cmp_refl _)
  have hna : ∀ y ∈ a, y.1 ≠ (atSr b j).1 := fun y hy e => by
    by_cases h1 : ∃ v ∈ b.take j, v.1 = y.1
    · obtain ⟨v, hv, e2⟩ := h1
      exact take_new hb hj v hv (e2.trans e)
    · exact hno' y ((h.mem y).2 (.inl ⟨hy, fun v hv e2 => h1 ⟨v, hv, e2⟩⟩)) e
  have hat : ∀ i, i < out.length + 1 → atSr (out ++ [atSr b j]) i = if i < out.length then atSr out i else atSr b j := fun i hi => by
    unfold atSr
    rw [List.getD_eq_getElem?_getD]
    by_cases h1 : i < out.length
    · rw [if_pos h1, List.getElem?_append_left h1, List.getD_eq_getElem?_getD]
    · rw [if_neg h1, List.getElem?_append_right (by omega), show i - out.length = 0 by omega]; rfl
  refine ⟨fun i k hi hk hik => ?_, fun x => ?_⟩
  · rw [List.length_append, List.length_singleton] at hi hk
    rw [hat i hi, hat k hk]
    by_cases h1 : i < out.length
    · rw [if_pos h1]
      by_cases h2 : k < out.length
      · rw [if_pos h2]; exact h.dis i k h1 h2 hik
      · rw [if_neg h2]; exact hno' _ (HD.at_mem out i h1)
    · rw [if_neg h1, if_pos (by omega)]
      exact fun e => hno' _ (HD.at_mem out k (by omega)) e.symm
  · rw [List.mem_append, List.mem_singleton, h.mem x, take_next hj]
    constructor
    · rintro ((h1 | h1 | ⟨u, hu, v, hv, e1, e2⟩) | rfl)
      · refine .inl ⟨h1.1, fun y hy => ?_⟩
        rcases List.mem_append.1 hy with hy | hy
        · exact h1.2 y hy
        · rw [List.mem_singleton.1 hy]; exact fun e => hna x h1.1 e.symm
      · exact .inr (.inl ⟨List.mem_append_left _ h1.1, h1.2⟩)
      · exact .inr (.inr ⟨u, hu, v, List.mem_append_left _ hv, e1, e2⟩)
      · exact .inr (.inl ⟨List.mem_append_right _ (List.mem_singleton.2 rfl), hna⟩)
    · rintro (h1 | h1 | ⟨u, hu, v, hv, e1, e2⟩)
      · exact .inl (.inl ⟨h1.1, fun y hy => h1.2 y (List.mem_append_left _ hy)⟩)
      · rcases List.mem_append.1 h1.1 with h2 | h2
        · exact .inl (.inr (.inl ⟨h2, h1.2⟩))
        · exact .inr (List.mem_singleton.1 h2)
      · rcases List.mem_append.1 hv with h2 | h2
        · exact .inl (.inr (.inr ⟨u, hu, v, h2, e1, e2⟩))
        · rw [List.mem_singleton.1 h2] at e1
          exact absurd e1 (hna u hu)

/-- One whose labels are there: then they are one of a's. -/
theorem Way.meet {a b out : List Sr} {j k : Nat} (h : Way a b j out) (ha : HD.Ord a) (hb : HD.Ord b) (hj : j < b.length) (hk : k < out.length) (he : LB.cmp (atSr out k).1 (atSr b j).1 = 0) : Way a b (j + 1) (out.set k ((atSr b j).1, CL.mrg (atSr out k).2 (atSr b j).2)) ∧ atSr out k ∈ a := by
  have hlab := HD.cmp_eq he
  have hin := (h.mem _).1 (HD.at_mem out k hk)
  have hka : atSr out k ∈ a := by
    rcases hin with h1 | h1 | ⟨u, hu, v, hv, e1, e2⟩
    · exact h1.1
    · exact absurd hlab (take_new hb hj _ h1.1)
    · exact absurd (show v.1 = (atSr b j).1 by rw [← e1, ← hlab, e2]) (take_new hb hj v hv)
  have hone : ∀ u ∈ a, u.1 = (atSr out k).1 → u = atSr out k := fun u hu e => by
    obtain ⟨p, hp, rfl⟩ := HD.mem_at hu
    obtain ⟨q, hq, e2⟩ := HD.mem_at hka
    rw [← e2] at e ⊢
    by_cases hpq : p = q
    · rw [hpq]
    · exact absurd e (ord_dis ha p q hp hq hpq)
  have hset : ∀ i, atSr (out.set k ((atSr b j).1, CL.mrg (atSr out k).2 (atSr b j).2)) i = if i = k then ((atSr b j).1, CL.mrg (atSr out k).2 (atSr b j).2) else atSr out i := fun i => by
    unfold atSr
    rw [List.getD_eq_getElem?_getD, List.getElem?_set]
    by_cases e : k = i
    · rw [if_pos e, if_pos e.symm, if_pos (by omega)]; rfl
    · rw [if_neg e, if_neg (fun e2 => e e2.symm), List.getD_eq_getElem?_getD]
  have hmem : ∀ x, x ∈ out.set k ((atSr b j).1, CL.mrg (atSr out k).2 (atSr b j).2) ↔ (x = ((atSr b j).1, CL.mrg (atSr out k).2 (atSr b j).2) ∨ (x ∈ out ∧ x ≠ atSr out k)) := fun x => by
    constructor
    · intro hx
      obtain ⟨i, hi, e⟩ := HD.mem_at hx
      rw [List.length_set] at hi
      rw [hset i] at e
      by_cases hik : i = k
      · rw [if_pos hik] at e; exact .inl e.symm
      · rw [if_neg hik] at e
        refine .inr ⟨by rw [← e]; exact HD.at_mem out i hi, fun e2 => ?_⟩
        exact h.dis i k hi hk hik (by rw [e, e2])
    · rintro (rfl | ⟨h1, h2⟩)
      · have := HD.at_mem (out.set k ((atSr b j).1, CL.mrg (atSr out k).2 (atSr b j).2)) k (by rw [List.length_set]; exact hk)
        rw [hset k, if_pos rfl] at this
        exact this
      · obtain ⟨i, hi, rfl⟩ := HD.mem_at h1
        have hik : i ≠ k := fun e => h2 (by rw [e])
        have := HD.at_mem (out.set k ((atSr b j).1, CL.mrg (atSr out k).2 (atSr b j).2)) i (by rw [List.length_set]; exact hi)
        rw [hset i, if_neg hik] at this
        exact this
  refine ⟨⟨fun i i' hi hi' hii => ?_, fun x => ?_⟩, hka⟩
  · rw [List.length_set] at hi hi'
    rw [hset i, hset i']
    by_cases h1 : i = k
    · rw [if_pos h1, if_neg (by omega)]
      show (atSr b j).1 ≠ _
      rw [← hlab]
      exact h.dis k i' hk hi' (by omega)
    · rw [if_neg h1]
      by_cases h2 : i' = k
      · rw [if_pos h2]
        show _ ≠ (atSr b j).1
        rw [← hlab]
        exact h.dis i k hi hk h1
      · rw [if_neg h2]; exact h.dis i i' hi hi' hii
  · rw [hmem x, h.mem x, take_next hj]
    constructor
    · rintro (rfl | ⟨h1 | h1 | ⟨u, hu, v, hv, e1, e2⟩, h2⟩)
      · exact .inr (.inr ⟨atSr out k, hka, atSr b j, List.mem_append_right _ (List.mem_singleton.2 rfl), hlab, by rw [hlab]⟩)
      · refine .inl ⟨h1.1, fun y hy => ?_⟩
        rcases List.mem_append.1 hy with hy | hy
        · exact h1.2 y hy
        · rw [List.mem_singleton.1 hy]
          exact fun e => h2 (hone x h1.1 (by rw [← e, hlab]))
      · exact .inr (.inl ⟨List.mem_append_left _ h1.1, h1.2⟩)
      · exact .inr (.inr ⟨u, hu, v, List.mem_append_left _ hv, e1, e2⟩)
    · rintro (h1 | h1 | ⟨u, hu, v, hv, e1, e2⟩)
      · refine .inr ⟨.inl ⟨h1.1, fun y hy => h1.2 y (List.mem_append_left _ hy)⟩, fun e => ?_⟩
        exact h1.2 (atSr b j) (List.mem_append_right _ (List.mem_singleton.2 rfl)) (by rw [e, hlab])
      · rcases List.mem_append.1 h1.1 with h2 | h2
        · refine .inr ⟨.inr (.inl ⟨h2, h1.2⟩), fun e => ?_⟩
          exact h1.2 (atSr out k) hka (by rw [e])
        · rw [List.mem_singleton.1 h2] at h1
          exact absurd hlab (h1.2 (atSr out k) hka)
      · rcases List.mem_append.1 hv with h2 | h2
        · refine .inr ⟨.inr (.inr ⟨u, hu, v, h2, e1, e2⟩), fun e => ?_⟩
          have : u.1 = (atSr b j).1 := by rw [← hlab, ← e, e2]
          exact take_new hb hj v h2 (e1.symm.trans this)
        · rw [List.mem_singleton.1 h2] at e1 e2
          have hu2 := hone u hu (by rw [e1, hlab])
          refine .inl ?_
          rw [e2, e1, hu2]

/-- The document's way and the short one come to the same. -/
theorem Way.fin {a b out R : List Sr} (h : Way a b b.length out) (ha : HD.Ord a) (hb : HD.Ord b) (hR : HD.Ord R) (hm : ∀ x, x ∈ R ↔ x ∈ out) : R = HD.jn a b := by
  refine HD.ord_ext hR (ord_jn _ a b (Nat.le_refl _) ha hb) fun x => ?_
  rw [hm x, h.mem x, List.take_length, mem_jn _ a b (Nat.le_refl _) ha hb x]

end BK

end Go.Proofs.Ytdmnlmohfaafoae

