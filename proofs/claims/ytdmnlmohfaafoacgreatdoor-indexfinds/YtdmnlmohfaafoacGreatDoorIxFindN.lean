/- Plain facts for IndexFinds: which error is told; where a number stands; texts that rise. -/
import Derived.Test.YtdmnlmohfaafoacGreatDoorIxRefV
import Derived.Test.YtdmnlmohfaafoacGreatDoorIxAt
import Derived.Test.YtdmnlmohfaafoacGreatDoorLbRefL
import Derived.Test.YtdmnlmohfaafoacGreatDoorLbRefA
import Derived.Test.YtdmnlmohfaafoacGreatDoorLbShortL
namespace Go.Proofs.YtdmnlmohfaafoacGreatDoor
open Go.RowKit

/-- The fault of the first k series: none, or ErrArg at the first labels that may not be. -/
def Fst (L : List (List LB.Lab)) (k : Nat) (fe fp : Int) : Prop :=
  (fe = 0 ∧ fp = -1 ∧ ∀ j, j < k → LB.right (IX.atS L j) = true) ∨ ∃ i : Nat, i < k ∧ fe = 1 ∧ fp = i ∧ (∀ j, j < i → LB.right (IX.atS L j) = true) ∧ LB.right (IX.atS L i) = false

theorem Fst.start (L : List (List LB.Lab)) : Fst L 0 0 (-1) := .inl ⟨rfl, rfl, by omega⟩

theorem Fst.ok {L : List (List LB.Lab)} {k : Nat} {fe fp : Int} (h : Fst L k fe fp) (hr : LB.right (IX.atS L k) = true) : Fst L (k + 1) fe fp := by
  rcases h with ⟨h1, h2, h3⟩ | ⟨i, h1, h2⟩
  · refine .inl ⟨h1, h2, fun j hj => ?_⟩
    by_cases e : j = k
    · rw [e]; exact hr
    · exact h3 j (by omega)
  · exact .inr ⟨i, by omega, h2⟩

theorem Fst.had {L : List (List LB.Lab)} {k : Nat} {fe fp : Int} (h : Fst L k fe fp) (hne : ¬ (fe = 0 ∧ fp = -1)) : Fst L (k + 1) fe fp := by
  rcases h with ⟨h1, h2, _⟩ | ⟨i, h1, h2⟩
  · exact absurd ⟨h1, h2⟩ hne
  · exact .inr ⟨i, by omega, h2⟩

theorem Fst.bad {L : List (List LB.Lab)} {k : Nat} (h : Fst L k 0 (-1)) (hr : LB.right (IX.atS L k) = false) : Fst L (k + 1) 1 k := by
  rcases h with ⟨_, _, h3⟩ | ⟨i, _, h2, _⟩
  · exact .inr ⟨k, by omega, rfl, rfl, h3, hr⟩
  · exact absurd h2 (by omega)

theorem Fst.fine {L : List (List LB.Lab)} {fe fp : Int} (h : Fst L L.length fe fp) (hR : ∀ l ∈ L, LB.right l = true) : fe = 0 ∧ fp = -1 := by
  rcases h with ⟨h1, h2, _⟩ | ⟨i, h1, _, _, _, h2⟩
  · exact ⟨h1, h2⟩
  · rw [hR _ (IX.atS_mem L i h1)] at h2; cases h2

theorem Fst.at {L : List (List LB.Lab)} {fe fp : Int} (h : Fst L L.length fe fp) {i : Nat} (hi : i < L.length) (h1 : ∀ j, j < i → LB.right (IX.atS L j) = true) (h2 : LB.right (IX.atS L i) = false) : fe = 1 ∧ fp = i := by
  rcases h with ⟨_, _, h3⟩ | ⟨i', h3, h4, h5, h6, h7⟩
  · rw [h3 i hi] at h2; cases h2
  · have : i' = i := by
      rcases Nat.lt_trichotomy i' i with h | h | h
      · rw [h1 i' h] at h7; cases h7
      · exact h
      · rw [h6 i h] at h2; cases h2
    subst this
    exact ⟨h4, h5⟩

/-- The numbers below n begin with those below i. -/
theorem idx_prefix (p : Nat → Bool) (i : Nat) : ∀ d, ∃ X, IX.idx (i + d) p = IX.idx i p ++ X
  | 0 => ⟨[], by simp⟩
  | d + 1 => by
    obtain ⟨X, hX⟩ := idx_prefix p i d
    refine ⟨X ++ (if p (i + d) = true then [((i + d : Nat) : Int)] else []), ?_⟩
    rw [← Nat.add_assoc, IX.idx_succ, hX, List.append_assoc]

theorem idx_at (p : Nat → Bool) (n i : Nat) (h : i < n) (hp : p i = true) : (IX.idx i p).length < (IX.idx n p).length ∧ ai (IX.idx n p) (IX.idx i p).length = i := by
  obtain ⟨X, hX⟩ := idx_prefix p (i + 1) (n - (i + 1))
  rw [show i + 1 + (n - (i + 1)) = n by omega, IX.idx_succ, if_pos hp, List.append_assoc] at hX
  rw [hX]
  constructor
  · simp
  · unfold ai
    rw [List.getD_eq_getElem?_getD, List.getElem?_append_right (Nat.le_refl _), Nat.sub_self]; rfl

theorem idx_len_in (p : Nat → Bool) (i : Nat) (hp : p i = true) : (IX.idx (i + 1) p).length = (IX.idx i p).length + 1 := by
  rw [IX.idx_succ, if_pos hp, List.length_append]; rfl

theorem idx_len_out (p : Nat → Bool) (i : Nat) (hp : p i = false) : (IX.idx (i + 1) p).length = (IX.idx i p).length := by
  rw [IX.idx_succ, hp]; simp

/-- The order of bytes is the order of lists of bytes. -/
theorem less_lt : ∀ (x y : List UInt8), Op.bytesLess x y = true ↔ x < y
  | [], [] => by simp [Op.bytesLess]
  | [], _ :: _ => by simp [Op.bytesLess]
  | _ :: _, [] => by simp [Op.bytesLess]
  | a :: x, b :: y => by
    rw [List.cons_lt_cons_iff]
    simp only [Op.bytesLess, Bool.or_eq_true, decide_eq_true_eq, Bool.and_eq_true, beq_iff_eq]
    rw [less_lt x y]

/-- Texts in order, each once: each is less than the next. -/
theorem ST.less {T : List (List UInt8)} {p : ByteArray → Prop} (h : ST T p) (i : Nat) (hi : i + 1 < T.length) : Op.bytesLess (T.getD i []) (T.getD (i + 1) []) = true := by
  rw [List.getD_eq_getElem?_getD, List.getD_eq_getElem?_getD, List.getElem?_eq_getElem (by omega), List.getElem?_eq_getElem hi]
  show Op.bytesLess T[i] T[i + 1] = true
  rw [less_lt]
  have h1 : T[i] ≤ T[i + 1] := List.pairwise_iff_getElem.1 h.1 i (i + 1) (by omega) hi (by omega)
  have h2 : T[i] ≠ T[i + 1] := List.pairwise_iff_getElem.1 h.2.1 i (i + 1) (by omega) hi (by omega)
  rcases List.le_iff_lt_or_eq.1 h1 with h3 | h3
  · exact h3
  · exact absurd h3 h2

theorem get_size (l : List LB.Lab) (h : Shrt l) (n : ByteArray) : (LB.get l n).size ≤ maxLen := by
  by_cases e : LB.get l n = ByteArray.empty
  · rw [e]; unfold maxLen; decide
  · have hm := IX.get_mem l n e
    obtain ⟨i, hi, hq⟩ := List.mem_iff_getElem.1 hm
    have := (h i hi).2
    have e1 : LB.at' l i = l[i] := by unfold LB.at'; rw [List.getD_eq_getElem?_getD, List.getElem?_eq_getElem hi]; rfl
    rw [e1, hq] at this
    unfold maxLen
    simp only at this
    omega

theorem shL_facts {l : List LB.Lab} (h : shL l = true) : l.length ≤ 20 ∧ Shrt l := by
  have h' : l.length ≤ 20 ∧ ∀ i, i < l.length → (LB.at' l i).1.size ≤ 60 ∧ (LB.at' l i).2.size ≤ 60 := of_decide_eq_true h
  exact h'

theorem shM_facts {l : List LB.Mat} (h : shM l = true) : l.length ≤ 20 ∧ ShrM l := by
  have h' : l.length ≤ 20 ∧ ∀ i, i < l.length → (LB.am l i).nm.size ≤ 60 ∧ (LB.am l i).vl.size ≤ 60 := of_decide_eq_true h
  exact h'

theorem asked_op {l : List LB.Mat} (h : LB.asked l = true) (i : Nat) (hi : i < l.length) : 0 ≤ (LB.am l i).op ∧ (LB.am l i).op ≤ 3 := by
  unfold LB.asked at h
  rw [Bool.and_eq_true, List.all_eq_true] at h
  have := h.2 _ (LB.am_mem l i hi)
  unfold LB.askd at this
  simp only [Bool.and_eq_true, decide_eq_true_eq] at this
  exact this.2

/-- What a name says by the index, and by the document. -/
theorem said_iff {w : World} {bx cnt bo : Nat} {fo : ByteArray → Option Nat} {fi : ByteArray → ByteArray → Option Value} {L : List (List LB.Lab)} (hI : IxR w bx L.length cnt (IX.nums L L.length) bo fo fi) (hR : ∀ l ∈ L, LB.right l = true) (n v : ByteArray) : fi n v ≠ none ↔ SaidBy L n L.length v := by
  rw [hI.said, IX.nums_ne]
  constructor
  · rintro ⟨i, hi, hm⟩
    obtain ⟨h1, h2⟩ := (IX.right_get _ (hR _ (IX.atS_mem L i hi)) n v).1 hm
    exact ⟨h2, i, hi, h1⟩
  · rintro ⟨h2, i, hi, h1⟩
    exact ⟨i, hi, (IX.right_get _ (hR _ (IX.atS_mem L i hi)) n v).2 ⟨h1, h2⟩⟩

theorem eqF (a b c d : Int) (w : World) : (binOp .eql 27 (.agg #[.int .i64 a, .int .i64 b]) (.agg #[.int .i64 c, .int .i64 d])).run Tryz.prog w = .ok (.bool ((a == c && b == d))) w := by
  rw [run_eql_struct, run_equalIn_struct w 9999 27 _ _ (by kernel_rfl) (by kernel_rfl)]
  have hp0 : ∀ w, (part 25 #[Value.int .i64 a, Value.int .i64 b] 0).run Tryz.prog w = .ok (.int .i64 a) w := fun w => by kernel_rfl
  have hp1 : ∀ w, (part 3 #[Value.int .i64 a, Value.int .i64 b] 1).run Tryz.prog w = .ok (.int .i64 b) w := fun w => by kernel_rfl
  have hq0 : ∀ w, (part 25 #[Value.int .i64 c, Value.int .i64 d] 0).run Tryz.prog w = .ok (.int .i64 c) w := fun w => by kernel_rfl
  have hq1 : ∀ w, (part 3 #[Value.int .i64 c, Value.int .i64 d] 1).run Tryz.prog w = .ok (.int .i64 d) w := fun w => by kernel_rfl
  have he : ∀ (x y : Int) w, (Op.equalIn 9999 25 (.int .i64 x) (.int .i64 y)).run Tryz.prog w = .ok (x == y) w := fun x y w => run_equalIn_int w 9998 25 .i64 .i64 x y Tryz.underlying25
  have he2 : ∀ (x y : Int) w, (Op.equalIn 9999 3 (.int .i64 x) (.int .i64 y)).run Tryz.prog w = .ok (x == y) w := fun x y w => run_equalIn_int w 9998 3 .i64 .i64 x y Tryz.underlying3
  simp only [Program.fieldsOf, Tryz.underlying27, Op.eqFields, Sem.run_bind, Sem.run_ite, hp0, hp1, hq0, hq1, he, he2, Result.andThen_ok, Sem.run_pure]
  by_cases h1 : a = c <;> by_cases h2 : b = d <;> simp [h1, h2]

theorem neF (a b c d : Int) (w : World) : (binOp .neq 27 (.agg #[.int .i64 a, .int .i64 b]) (.agg #[.int .i64 c, .int .i64 d])).run Tryz.prog w = .ok (.bool (!(a == c && b == d))) w := by
  rw [run_neq_struct, run_equalIn_struct w 9999 27 _ _ (by kernel_rfl) (by kernel_rfl)]
  have hp0 : ∀ w, (part 25 #[Value.int .i64 a, Value.int .i64 b] 0).run Tryz.prog w = .ok (.int .i64 a) w := fun w => by kernel_rfl
  have hp1 : ∀ w, (part 3 #[Value.int .i64 a, Value.int .i64 b] 1).run Tryz.prog w = .ok (.int .i64 b) w := fun w => by kernel_rfl
  have hq0 : ∀ w, (part 25 #[Value.int .i64 c, Value.int .i64 d] 0).run Tryz.prog w = .ok (.int .i64 c) w := fun w => by kernel_rfl
  have hq1 : ∀ w, (part 3 #[Value.int .i64 c, Value.int .i64 d] 1).run Tryz.prog w = .ok (.int .i64 d) w := fun w => by kernel_rfl
  have he : ∀ (x y : Int) w, (Op.equalIn 9999 25 (.int .i64 x) (.int .i64 y)).run Tryz.prog w = .ok (x == y) w := fun x y w => run_equalIn_int w 9998 25 .i64 .i64 x y Tryz.underlying25
  have he2 : ∀ (x y : Int) w, (Op.equalIn 9999 3 (.int .i64 x) (.int .i64 y)).run Tryz.prog w = .ok (x == y) w := fun x y w => run_equalIn_int w 9998 3 .i64 .i64 x y Tryz.underlying3
  simp only [Program.fieldsOf, Tryz.underlying27, Op.eqFields, Sem.run_bind, Sem.run_ite, hp0, hp1, hq0, hq1, he, he2, Result.andThen_ok, Sem.run_pure]
  by_cases h1 : a = c <;> by_cases h2 : b = d <;> simp [h1, h2]

theorem egF (o : BinOp) (x y : Operand) (xs ys : Array Value) (w : World) : (eqGuard o 27 x y (.agg xs) (.agg ys)).run Tryz.prog w = .ok () w := run_eqGuard_agg w o 27 x y xs ys (by kernel_rfl)

end Go.Proofs.YtdmnlmohfaafoacGreatDoor
