/- behind: one series more at a row's end, unless it has no samples; rows of series while they are made. -/
import Derived.Test.YtdmnlmohfaafoadGreatDoorPHdPart
import Derived.Test.YtdmnlmohfaafoadGreatDoorPHdStep
namespace Go.Proofs.YtdmnlmohfaafoadGreatDoor
open Go.RowKit

/-- What behind leaves. -/
def BehEnd (base n : Nat) (v b : Value) (xs : List Value) (lab : List LB.Lab) (w : World) (e : Ending) (w' : World) : Prop :=
  ∃ v' a W, e = .returned v' ∧ Below w.heap.size w W ∧ OwnLb W w.heap.size a lab ∧ w'.ownsRow base 55 2 v' (n + 1) (xs ++ [a, b]) ∧ W.grownBy w' v.ownBlock ∧ (v'.ownBlock = v.ownBlock ∨ v'.ownBlock = some W.heap.size)

theorem behind_none (v : Value) (vl : Value) (so : Option Addr) (sc : Nat) (w : World) :
    Calls Tryz.prog 91 #[v, vl, .slice so 0 sc] w fun e w' => e = .returned v ∧ w' = w := by
  go_enter Tryz.func91, Tryz.ntmps91
  go_wp2_with fail
  go_ret
  exact ⟨rfl, rfl⟩

set_option maxRecDepth 100000 in
theorem behind_some (base n : Nat) (v : Value) (xs : List Value) (lo so : Option Addr) (lab : List LB.Lab) (lc sn sc : Nat) (w : World) (hv : w.ownsRow base 55 2 v n xs) (hL : LRow w lo lab) (h1 : 0 < lab.length) (h2 : lab.length ≤ 1000) (h3 : 0 < sn) (hn : n ≤ 1000000) (hb : base ≤ w.heap.size) :
    Calls Tryz.prog 91 #[v, .slice lo lab.length lc, .slice so sn sc] w fun e w' => BehEnd base n v (.slice so sn sc) xs lab w e w' := by
  have HV := hid hv
  have HC := hid (cloneL_row lo lab lc w hL h1 (by omega))
  have h0 : ((sn : Int) == 0) = false := by
    simp only [beq_eq_false_iff_ne, ne_eq]
    omega
  obtain ⟨ao, cap, hva⟩ := own_slice hv
  have HVa := hid hva
  clear hv hL
  rw [hva]
  clear hva
  go_enter Tryz.func91, Tryz.ntmps91
  go_wp2_with fail
  refine HC.out.mono ?_
  rintro e w2 ⟨a, rfl, ho, hb2⟩
  obtain ⟨aa, ca, ea⟩ := own_slice ho
  subst ea
  have hrow : w2.ownsRow base 55 2 v n xs := row_kept HV.out fun g _ hg => hb2.block g (heap_lt hg)
  obtain ⟨v3, w3, hrun, k1, k2, k3⟩ := app_ser (w2.alloc (.cells #[.slice aa lab.length ca, .slice so sn sc] 55)) base w2.heap.size v (.slice aa lab.length ca) (.slice so sn sc) n xs (heap_alloc_new w2 _) rfl rfl (hrow.alloc _) hn (Nat.le_trans hb (Nat.le_trans hb2.size (World.grownBy_alloc w2 _ none).size))
  have HQ := hid (And.intro k1 (And.intro k2 k3))
  obtain ⟨a3, c3, e3⟩ := own_slice k1
  subst e3
  rw [HVa.out] at hrun
  have HB2 := hid hb2
  have HO := hid ho
  clear k1 k2 k3 hb2 ho HC hrow
  go_wp2_with (at_builtin; refine Lib.wpList_append_run _ rfl _ _ _ _ rfl _ _ rfl rfl _ _ hrun ?_)
  go_ret
  rw [← HVa.out]
  exact ⟨_, _, _, rfl, HB2.out.alloc HB2.out.size _, HO.out.alloc _, HQ.out.1, HQ.out.2.1, HQ.out.2.2⟩

/-- Both in one. -/
def BehAny (base n : Nat) (v b : Value) (xs : List Value) (lab : List LB.Lab) (k : Nat) (w : World) (e : Ending) (w' : World) : Prop :=
  ∃ v', e = .returned v' ∧ ((k = 0 ∧ v' = v ∧ w' = w) ∨ (0 < k ∧ ∃ a W, Below w.heap.size w W ∧ OwnLb W w.heap.size a lab ∧ w'.ownsRow base 55 2 v' (n + 1) (xs ++ [a, b]) ∧ W.grownBy w' v.ownBlock ∧ (v'.ownBlock = v.ownBlock ∨ v'.ownBlock = some W.heap.size)))

theorem behind_any (base n : Nat) (v b : Value) (xs : List Value) (lo : Option Addr) (lab : List LB.Lab) (lc : Nat) (ys : List CL.Smp) (w : World) (hv : w.ownsRow base 55 2 v n xs) (hL : LRow w lo lab) (h1 : 0 < lab.length) (h2 : lab.length ≤ 1000) (hy : OwnSm w 0 b ys) (hn : n ≤ 1000000) (hb : base ≤ w.heap.size) :
    Calls Tryz.prog 91 #[v, .slice lo lab.length lc, b] w fun e w' => BehAny base n v b xs lab ys.length w e w' := by
  obtain ⟨so, sc, rfl⟩ := own_slice hy
  rcases Nat.eq_zero_or_pos ys.length with h0 | h0
  · rw [h0]
    refine (behind_none v (.slice lo lab.length lc) so sc w).mono ?_
    rintro e w' ⟨h1, h2⟩
    exact ⟨v, h1, .inl ⟨rfl, rfl, h2⟩⟩
  · refine (behind_some base n v xs lo so lab lc ys.length sc w hv hL h1 h2 h0 hn hb).mono ?_
    rintro e w' ⟨v', a, W, k1, k2, k3, k4, k5, k6⟩
    exact ⟨v', k1, .inr ⟨h0, a, W, k2, k3, k4, k5, k6⟩⟩

/-- A row of series that is being made. -/
structure SB (w : World) (base : Nat) (v : Value) (xs : List (Value × Value)) (L : List Sr) : Prop where
  len : xs.length = L.length
  row : w.ownsRow base 55 2 v L.length (flat xs)
  labs : ∀ i, i < L.length → OwnLb w 0 (atX xs i).1 (atSr L i).1
  smps : ∀ i, i < L.length → OwnSm w 0 (atX xs i).2 (atSr L i).2

theorem SB.nil (w : World) (base : Nat) : SB w base (.slice none 0 0) [] [] := ⟨rfl, ⟨rfl, .inl ⟨rfl, rfl⟩⟩, fun i hi => by simp at hi, fun i hi => by simp at hi⟩

theorem SB.below {w w' : World} {base : Nat} {v : Value} {xs : List (Value × Value)} {L : List Sr} (h : SB w base v xs L) (k : Below w.heap.size w w') : SB w' base v xs L :=
  ⟨h.len, row_kept h.row fun g _ hg => k.block g (heap_lt hg), fun i hi => row_kept (h.labs i hi) fun g _ hg => k.block g (heap_lt hg), fun i hi => row_kept (h.smps i hi) fun g _ hg => k.block g (heap_lt hg)⟩

/-- A block of series grew: rows of another kind stay. -/
theorem kind_grown {W W' : World} {base base' n m : Nat} {v u : Value} {xs ys : List Value} {e : TypeId} (hv : W.ownsRow base 55 2 v n xs) (hu : W.ownsRow base' e 2 u m ys) (hne : e ≠ 55) (k : W.grownBy W' v.ownBlock) : W'.ownsRow base' e 2 u m ys := by
  refine hu.kept k ?_
  rcases hvb : v.ownBlock with _ | g
  · rcases hub : u.ownBlock with _ | g'
    · exact .inl rfl
    · exact .inr (by simp)
  · right
    rcases hv.2 with ⟨e0, _⟩ | ⟨g1, _, c, e0, _, a2, _⟩
    · rw [e0] at hvb; cases hvb
    · rw [e0] at hvb; cases hvb
      exact own_kind hu a2 hne

/-- Another row of series grew. -/
theorem SB.other {W W' : World} {base base' n : Nat} {v u : Value} {xs : List (Value × Value)} {L : List Sr} {ys : List Value} (h : SB W base v xs L) (hu : W.ownsRow base' 55 2 u n ys) (hne : v.ownBlock = none ∨ v.ownBlock ≠ u.ownBlock) (k : W.grownBy W' u.ownBlock) : SB W' base v xs L :=
  ⟨h.len, h.row.kept k hne, fun i hi => kind_grown hu (h.labs i hi) (by decide) k, fun i hi => kind_grown hu (h.smps i hi) (by decide) k⟩

theorem atX_snoc (xs : List (Value × Value)) (p : Value × Value) (i : Nat) : atX (xs ++ [p]) i = if i < xs.length then atX xs i else if i = xs.length then p else nilP := by
  unfold atX
  rw [List.getD_eq_getElem?_getD, List.getD_eq_getElem?_getD]
  by_cases h : i < xs.length
  · rw [if_pos h, List.getElem?_append_left h]
  · rw [if_neg h, List.getElem?_append_right (by omega)]
    by_cases h2 : i = xs.length
    · rw [if_pos h2, h2, Nat.sub_self]; rfl
    · rw [if_neg h2, List.getElem?_eq_none (by simp; omega)]; rfl

theorem atSr_snoc (S : List Sr) (p : Sr) (i : Nat) (hi : i < S.length + 1) : atSr (S ++ [p]) i = if i < S.length then atSr S i else p := by
  unfold atSr
  rw [List.getD_eq_getElem?_getD, List.getD_eq_getElem?_getD]
  by_cases h : i < S.length
  · rw [if_pos h, List.getElem?_append_left h]
  · have : i = S.length := by omega
    rw [if_neg h, List.getElem?_append_right (by omega), this, Nat.sub_self]; rfl

/-- One more. -/
theorem SB.push {W W' : World} {base : Nat} {v v' a b : Value} {xs : List (Value × Value)} {L : List Sr} {x : Sr} (h : SB W base v xs L) (ha : OwnLb W 0 a x.1) (hb : OwnSm W 0 b x.2) (hr : W'.ownsRow base 55 2 v' (L.length + 1) (flat xs ++ [a, b])) (k : W.grownBy W' v.ownBlock) : SB W' base v' (xs ++ [(a, b)]) (L ++ [x]) := by
  refine ⟨by rw [List.length_append, List.length_append, h.len]; rfl, ?_, fun i hi => ?_, fun i hi => ?_⟩
  · rw [List.length_append, flat_append]
    exact hr
  · rw [List.length_append] at hi
    rw [atX_snoc, atSr_snoc L x i hi, h.len]
    by_cases hlt : i < L.length
    · rw [if_pos hlt, if_pos hlt]; exact kind_grown h.row (h.labs i hlt) (by decide) k
    · rw [if_neg hlt, if_neg hlt, if_pos (by simp only [List.length_cons, List.length_nil] at hi; omega)]; exact kind_grown h.row ha (by decide) k
  · rw [List.length_append] at hi
    rw [atX_snoc, atSr_snoc L x i hi, h.len]
    by_cases hlt : i < L.length
    · rw [if_pos hlt, if_pos hlt]; exact kind_grown h.row (h.smps i hlt) (by decide) k
    · rw [if_neg hlt, if_neg hlt, if_pos (by simp only [List.length_cons, List.length_nil] at hi; omega)]; exact kind_grown h.row hb (by decide) k

end Go.Proofs.YtdmnlmohfaafoadGreatDoor

