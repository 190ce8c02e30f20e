/- What HeadWhole says, plain: how many come; what is cut off and what stays are together all that was. No program in it. -/
import Derived.Test.YtdmnlmohfaafoaeDoorHdNum
import Derived.Test.YtdmnlmohfaafoaeDoorChMrg
namespace Go.Proofs.YtdmnlmohfaafoaeDoor
namespace HD

theorem total_cons (x : Sr) (S : List Sr) : total (x :: S) = x.2.length + total S := by unfold total; simp

theorem total_ins : ∀ (S : List Sr) (k : Nat) (x : Sr), k ≤ S.length → total (S.insertIdx k x) = total S + x.2.length
  | S, 0, x, _ => by rw [List.insertIdx_zero, total_cons]; omega
  | [], k + 1, x, h => by simp at h
  | y :: S, k + 1, x, h => by
    rw [List.insertIdx_succ_cons, total_cons, total_cons, total_ins S k x (by simpa using h)]
    omega

theorem total_set : ∀ (S : List Sr) (k : Nat) (L : List LB.Lab) (l : List CL.Smp), k < S.length → total (S.set k (L, (atSr S k).2 ++ l)) = total S + l.length
  | [], k, L, l, h => by simp at h
  | y :: S, 0, L, l, _ => by
    rw [List.set_cons_zero, total_cons, total_cons, at_zero]
    simp only [List.length_append]
    omega
  | y :: S, k + 1, L, l, h => by
    rw [List.set_cons_succ, total_cons, total_cons, at_cons, total_set S k L l (by simpa using h)]
    omega

theorem total_nxt {mark : Int} {S : List Sr} {x : Sr} (he : err mark S x = 0) : total (nxt S x) = total S + x.2.length := by
  obtain ⟨_, _, _, _, h5⟩ := err_ok he
  unfold nxt
  rcases h5 with ⟨h6, _, _⟩ | ⟨h6, _⟩
  · rw [if_pos h6, total_set S _ _ _ (decide_eq_true_iff.1 h6).1]
  · rw [if_neg (by rw [h6]; decide), total_ins S _ _ (pos_le S x.1)]

theorem total_run {mark : Int} : ∀ {S l : List Sr} {i : Nat}, (run mark S l i).1 = none → total (run mark S l i).2 = total S + total l
  | S, [], _, _ => by unfold run; rfl
  | S, x :: l, i, h => by
    unfold run at h ⊢
    by_cases he : err mark S x = 0
    · rw [if_pos he] at h ⊢
      rw [total_run h, total_nxt he, total_cons]
      omega
    · rw [if_neg he] at h
      simp at h

/-- What Append tells: as many more as came, or all as it was. -/
theorem total_app {mark : Int} {S l : List Sr} (h : (app mark S l).1 = (0, -1)) : total (app mark S l).2 = total S + total l := by
  unfold app at h ⊢
  by_cases ht : 40 < total l
  · rw [if_pos ht] at h; simp at h
  · rw [if_neg ht] at h ⊢
    rcases hr : run mark S l 0 with ⟨o, S'⟩
    rcases o with _ | ⟨e, i⟩
    · rw [hr] at h
      have := total_run (mark := mark) (S := S) (l := l) (i := 0) (by rw [hr])
      rw [hr] at this
      exact this
    · rw [hr] at h
      simp only [Prod.mk.injEq] at h
      omega

theorem app_same {mark : Int} {S l : List Sr} (h : (app mark S l).1 ≠ (0, -1)) : (app mark S l).2 = S := by
  unfold app at h ⊢
  by_cases ht : 40 < total l
  · rw [if_pos ht]
  · rw [if_neg ht] at h ⊢
    rcases hr : run mark S l 0 with ⟨o, S'⟩
    rcases o with _ | ⟨e, i⟩
    · rw [hr] at h; exact absurd rfl h
    · rfl

/-- Series of both, in order, samples of one together. -/
def jn : List Sr → List Sr → List Sr
  | [], b => b
  | x :: a, [] => x :: a
  | x :: a, y :: b => if LB.cmp x.1 y.1 < 0 then x :: jn a (y :: b) else if 0 < LB.cmp x.1 y.1 then y :: jn (x :: a) b else (x.1, CL.mrg x.2 y.2) :: jn a b
termination_by a b => a.length + b.length

theorem jn_nil (a : List Sr) : jn a [] = a := by cases a <;> simp [jn]
theorem jn_nil' (b : List Sr) : jn [] b = b := by simp [jn]
theorem jn_lt (x y : Sr) (a b : List Sr) (h : LB.cmp x.1 y.1 < 0) : jn (x :: a) (y :: b) = x :: jn a (y :: b) := by rw [jn, if_pos h]
theorem jn_gt (x y : Sr) (a b : List Sr) (h : 0 < LB.cmp x.1 y.1) : jn (x :: a) (y :: b) = y :: jn (x :: a) b := by rw [jn, if_neg (by omega), if_pos h]
theorem jn_eq (x y : Sr) (a b : List Sr) (h : LB.cmp x.1 y.1 = 0) : jn (x :: a) (y :: b) = (x.1, CL.mrg x.2 y.2) :: jn a b := by rw [jn, if_neg (by omega), if_neg (by omega)]

/-- .. whichever is empty. -/
theorem jn_left (x : Sr) (a b : List Sr) (h : ∀ y ∈ b, LB.cmp x.1 y.1 < 0) : jn (x :: a) b = x :: jn a b := by
  cases b with
  | nil => rw [jn_nil, jn_nil]
  | cons y b => exact jn_lt x y a b (h y (by simp))
theorem jn_right (y : Sr) (a b : List Sr) (h : ∀ x ∈ a, 0 < LB.cmp x.1 y.1) : jn a (y :: b) = y :: jn a b := by
  cases a with
  | nil => rw [jn_nil', jn_nil']
  | cons x a => exact jn_gt x y a b (h x (by simp))

theorem kp_cons (p : List LB.Lab → Int → Bool) (x : Sr) (S : List Sr) : kp p (x :: S) = (if 0 < (keepS p x).2.length then [keepS p x] else []) ++ kp p S := by
  unfold kp
  rw [List.map_cons, List.filter_cons]
  by_cases h : 0 < (keepS p x).2.length
  · rw [if_pos (by simpa using h), if_pos h]; rfl
  · rw [if_neg (by simpa using h), if_neg h]; rfl

theorem kp_mem {p : List LB.Lab → Int → Bool} {S : List Sr} {y : Sr} (h : y ∈ kp p S) : ∃ z ∈ S, y.1 = z.1 := by
  unfold kp at h
  obtain ⟨h1, _⟩ := List.mem_filter.1 h
  obtain ⟨z, hz, rfl⟩ := List.mem_map.1 h1
  exact ⟨z, hz, rfl⟩

theorem mrg_parts (l : List CL.Smp) (t : Int) (h : CL.right l = true) : CL.mrg (l.filter fun s => decide (s.1 ≤ t)) (l.filter fun s => !decide (s.1 ≤ t)) = l := by
  have hr := CL.rising_of_right l h
  have h1 : CL.Rising (l.filter fun s => decide (s.1 ≤ t)) := List.Pairwise.filter _ hr
  have h2 : CL.Rising (l.filter fun s => !decide (s.1 ≤ t)) := List.Pairwise.filter _ hr
  refine CL.rising_ext _ _ (CL.rising_mrg _ _ h1 h2) hr fun x => ?_
  rw [CL.mem_mrg _ _ h1 h2]
  simp only [List.mem_filter, decide_eq_true_eq, Bool.not_eq_true', decide_eq_false_iff_not]
  constructor
  · rintro (h | h)
    · exact h.1
    · exact h.1.1
  · intro hx
    by_cases ht : x.1 ≤ t
    · exact .inr ⟨⟨hx, ht⟩, fun y hy e => by omega⟩
    · exact .inl ⟨hx, ht⟩

/-- What is cut off, and what stays, are together all that was. -/
theorem jn_parts (t : Int) : ∀ (S : List Sr), Ord S → (∀ x ∈ S, OkS x) → jn (kp (fun _ s => decide (s ≤ t)) S) (kp (fun _ s => !decide (s ≤ t)) S) = S
  | [], _, _ => by simp [kp, jn]
  | x :: S, ho, hk => by
    have ho2 := List.pairwise_cons.1 ho
    have ih := jn_parts t S ho2.2 (fun y hy => hk y (by simp [hy]))
    have hx := hk x (by simp)
    have hA : ∀ y ∈ kp (fun _ s => decide (s ≤ t)) S, LB.cmp x.1 y.1 = -1 := fun y hy => by
      obtain ⟨z, hz, e⟩ := kp_mem hy
      rw [e]; exact ho2.1 z hz
    have hB : ∀ y ∈ kp (fun _ s => !decide (s ≤ t)) S, LB.cmp x.1 y.1 = -1 := fun y hy => by
      obtain ⟨z, hz, e⟩ := kp_mem hy
      rw [e]; exact ho2.1 z hz
    have hm := mrg_parts x.2 t hx.2.1
    rw [kp_cons, kp_cons]
    have e1 : (keepS (fun _ s => decide (s ≤ t)) x) = (x.1, x.2.filter fun s => decide (s.1 ≤ t)) := rfl
    have e2 : (keepS (fun _ s => !decide (s ≤ t)) x) = (x.1, x.2.filter fun s => !decide (s.1 ≤ t)) := rfl
    rw [e1, e2]
    by_cases h1 : 0 < (x.2.filter fun s => decide (s.1 ≤ t)).length
    · by_cases h2 : 0 < (x.2.filter fun s => !decide (s.1 ≤ t)).length
      · rw [if_pos h1, if_pos h2]
        show jn (_ :: _) (_ :: _) = _
        rw [jn_eq (x.1, x.2.filter fun s => decide (s.1 ≤ t)) (x.1, x.2.filter fun s => !decide (s.1 ≤ t)) _ _ (cmp_refl x.1)]
        show (x.1, CL.mrg (x.2.filter fun s => decide (s.1 ≤ t)) (x.2.filter fun s => !decide (s.1 ≤ t))) :: _ = _
        rw [hm]
        exact congrArg _ ih
      · have h3 : (x.2.filter fun s => !decide (s.1 ≤ t)) = [] := List.eq_nil_of_length_eq_zero (by omega)
        have h4 : (x.2.filter fun s => decide (s.1 ≤ t)) = x.2 := by
          refine List.filter_eq_self.2 fun s hs => ?_
          by_cases ht : s.1 ≤ t
          · simpa using ht
          · have : s ∈ (x.2.filter fun s => !decide (s.1 ≤ t)) := List.mem_filter.2 ⟨hs, by simpa using ht⟩
            rw [h3] at this; cases this
        rw [if_pos h1, if_neg h2, h4]
        show jn (_ :: _) _ = _
        rw [List.nil_append, jn_left _ _ _ (fun y hy => by show LB.cmp x.1 y.1 < 0; rw [hB y hy]; decide)]
        exact congrArg _ ih
    · have h3 : (x.2.filter fun s => decide (s.1 ≤ t)) = [] := List.eq_nil_of_length_eq_zero (by omega)
      have h4 : (x.2.filter fun s => !decide (s.1 ≤ t)) = x.2 := by
        refine List.filter_eq_self.2 fun s hs => ?_
        by_cases ht : s.1 ≤ t
        · have : s ∈ (x.2.filter fun s => decide (s.1 ≤ t)) := List.mem_filter.2 ⟨hs, by simpa using ht⟩
          rw [h3] at this; cases this
        · simpa using ht
      have h5 := hx.2.2.1
      rw [if_neg h1, h4, if_pos h5]
      show jn _ (_ :: _) = _
      rw [List.nil_append, jn_right _ _ _ (fun y hy => by show 0 < LB.cmp y.1 x.1; rw [cmp_flip (hA y hy)]; decide)]
      exact congrArg _ ih

end HD
end Go.Proofs.YtdmnlmohfaafoaeDoor
