/- Matchers put one behind the other: what append leaves, and how it is read. -/
import Derived.Test.YtdmnlmohfaafoacLbShort
import Derived.Deep.RegionWith
import Derived.Laws.AppendOwnNone
namespace Go.Proofs.Ytdmnlmohfaafoac
open Go.RowKit

theorem wpList_append_src {P : Program} (w : World) {ops : Array Oper} {rest : List Oper} {o : Oper} {a : Act} {Q : Exit → Act → World → Prop}
    (hg : o.guard = none) (s x : Operand) (t : TypeId) (hop : o.op = Op.call { callee := Callee.builtin Builtin.append, args := #[s, x], argTypes := #[t, t] })
    (base : Nat) (e : TypeId) (i : TypeInfo) (z : Value) (size bytes : Nat) (h1 : P.underlying t = some (.slice e)) (h2 : P.info? e = some i) (h3 : i.zero = some z) (h4 : i.size = size) (h5 : i.bytes = bytes) (h6 : z.cells.size = size) (h7 : 0 < size)
    (v : Value) (k : Nat) (xs : List Value) (hs : a.eval s = v) (hown : w.ownsRow base e size v k xs) (ao : Option Addr) (m c : Nat) (news : List Value) (hx : a.eval x = .slice ao m c) (hn : news.length = m * size)
    (hnone : ao = none → m = 0 ∧ c = 0) (hc : ∀ ad, ao = some ad → ∀ j u, news[j]? = some u → w.cell? (ad.add j) = some u) (h1c : ∀ u ∈ news, u.oneCell' = true) (b1 : k + m ≤ maxLen) (b2 : (k + m) * bytes ≤ 140737488355328) (b3 : base ≤ w.heap.size)
    (hK : ∀ v' w', w'.ownsRow base e size v' (k + m) (xs ++ news) → w.grownBy w' v.ownBlock → wpList P ops Q rest (a.put o.dst v') w') :
    wpList P ops Q (o :: rest) a w := by
  cases ao with
  | some ad => exact wpList_append_own w hg s x t hop base e i z size bytes h1 h2 h3 h4 h5 h6 h7 v k xs hs hown ad m c news hx hn (hc ad rfl) h1c b1 b2 b3 (fun v' w' a b _ => hK v' w' a b)
  | none =>
    obtain ⟨rfl, rfl⟩ := hnone rfl
    have hnews : news = [] := List.eq_nil_of_length_eq_zero (by simpa using hn)
    subst hnews
    exact wpList_append_own_none hg s x t hop base e i size h1 h2 v k xs hs hown hx (hK v w (by simpa using hown) (World.grownBy.refl _ _))

theorem Try.info32 : (Try.prog.info? 32).map (fun i => (i.zero, i.size, i.bytes)) = some (some (.agg #[.string ⟨#[]⟩, .int .i64 0, .string ⟨#[]⟩]), 3, 40) := by kernel_rfl

/-- The cells of matchers. -/
def mrv (l : List LB.Mat) : List Value := l.flatMap fun s => [.string s.nm, .int .i64 s.op, .string s.vl]

theorem mrv_append (a b : List LB.Mat) : mrv (a ++ b) = mrv a ++ mrv b := by simp [mrv]

theorem mrv_length (l : List LB.Mat) : (mrv l).length = l.length * 3 := by
  induction l with
  | nil => rfl
  | cons s l ih => simp only [mrv, List.flatMap_cons, List.length_append, List.length_cons, List.length_nil] at ih ⊢; omega

theorem mrv_one (l : List LB.Mat) : ∀ u ∈ mrv l, u.oneCell' = true := by
  intro u hu
  simp only [mrv, List.mem_flatMap, List.mem_cons, List.not_mem_nil, or_false] at hu
  obtain ⟨s, _, rfl | rfl | rfl⟩ := hu <;> rfl

theorem mrv_get (l : List LB.Mat) : ∀ i, i < l.length → (mrv l)[i * 3]? = some (.string (LB.am l i).nm) ∧ (mrv l)[i * 3 + 1]? = some (.int .i64 (LB.am l i).op) ∧ (mrv l)[i * 3 + 2]? = some (.string (LB.am l i).vl) := by
  induction l with
  | nil => intro i hi; simp at hi
  | cons s l ih =>
    intro i hi
    match i with
    | 0 => exact ⟨rfl, rfl, rfl⟩
    | i + 1 =>
      obtain ⟨h1, h2, h3⟩ := ih i (by simpa using hi)
      have e : mrv (s :: l) = .string s.nm :: .int .i64 s.op :: .string s.vl :: mrv l := rfl
      have e1 : (i + 1) * 3 = i * 3 + 3 := by omega
      have e2 : LB.am (s :: l) (i + 1) = LB.am l i := rfl
      rw [e, e1, e2]
      exact ⟨h1, h2, h3⟩

/-- The cells of matchers that lie there. -/
theorem mrow_cells {w : World} {ao : Option Addr} {l : List LB.Mat} (h : MRow w ao l) : ∀ ad, ao = some ad → ∀ j u, (mrv l)[j]? = some u → w.cell? (ad.add j) = some u := by
  intro ad had j u hj
  have hlt : j < (mrv l).length := (List.getElem?_eq_some_iff.1 hj).1
  rw [mrv_length] at hlt
  obtain ⟨b, off, e, c0, c1, c2, hbs⟩ := h (j / 3) (by omega)
  rw [had] at e
  obtain rfl := Option.some.inj e
  obtain ⟨g0, g1, g2⟩ := mrv_get l (j / 3) (by omega)
  rw [Addr.add_lit]
  have hm : j % 3 = 0 ∨ j % 3 = 1 ∨ j % 3 = 2 := by omega
  rcases hm with hm | hm | hm
  · have ej : j = j / 3 * 3 := by omega
    rw [← ej] at g0; rw [g0] at hj; rw [← ej] at c0; rw [← hj]; exact c0
  · have ej : j = j / 3 * 3 + 1 := by omega
    have eo : off + j / 3 * 3 + 1 = off + j := by omega
    rw [← ej] at g1; rw [g1] at hj; rw [eo] at c1; rw [← hj]; exact c1
  · have ej : j = j / 3 * 3 + 2 := by omega
    have eo : off + j / 3 * 3 + 2 = off + j := by omega
    rw [← ej] at g2; rw [g2] at hj; rw [eo] at c2; rw [← hj]; exact c2

/-- Matchers of two lists that lie one behind the other. -/
theorem own_bothM {w : World} {base : Nat} {v : Value} {a b : List LB.Mat} (h : w.ownsRow base 32 3 v (0 + a.length + b.length) ([] ++ mrv a ++ mrv b)) :
    w.ownsRow base 32 3 v (a ++ b).length (mrv (a ++ b)) := by
  have e : 0 + a.length + b.length = (a ++ b).length := by simp
  rw [e, List.nil_append, ← mrv_append] at h
  exact h

theorem empty_rowM (w : World) : (w.alloc (.cells #[] 32)).ownsRow w.heap.size 32 3 (.slice (some ⟨w.heap.size, 0, none⟩) 0 0) 0 [] := by
  refine ⟨rfl, .inr ⟨w.heap.size, 0, #[], rfl, Nat.le_refl _, ?_, Nat.le_refl _, Nat.zero_le _, rfl, rfl⟩⟩
  show (w.heap.push _)[w.heap.size]? = _
  simp

/-- A row of matchers that was made, read as one that is there. -/
theorem MRow.of_own {w : World} {base : Nat} {v : Value} {l : List LB.Mat} (h : w.ownsRow base 32 3 v l.length (mrv l)) : ∃ ao cap, v = .slice ao l.length cap ∧ MRow w ao l := by
  have hlt := h.lt
  have h0 := h
  obtain ⟨h1, h2⟩ := h
  rcases h2 with ⟨rfl, hn⟩ | ⟨g, cap, cur, rfl, hg, hh, r⟩
  · refine ⟨none, 0, by rw [hn], fun i hi => by omega⟩
  · refine ⟨some ⟨g, 0, none⟩, cap, rfl, fun i hi => ⟨g, 0, rfl, ?_, ?_, ?_, (hlt g rfl).2⟩⟩
    · rw [Nat.zero_add, h0.cellAt (i * 3) (by omega)]; exact (mrv_get l i hi).1
    · rw [Nat.zero_add, h0.cellAt (i * 3 + 1) (by omega)]; exact (mrv_get l i hi).2.1
    · rw [Nat.zero_add, h0.cellAt (i * 3 + 2) (by omega)]; exact (mrv_get l i hi).2.2

theorem shM_len {l : List LB.Mat} (h : shM l = true) : l.length ≤ 20 := by
  have h' : l.length ≤ 20 ∧ ∀ i, i < l.length → (LB.am l i).nm.size ≤ 60 ∧ (LB.am l i).vl.size ≤ 60 := of_decide_eq_true h
  exact h'.1

theorem asked_mem {l : List LB.Mat} (h : LB.asked l = true) (i : Nat) (hi : i < l.length) : 0 ≤ (LB.am l i).op ∧ (LB.am l i).op ≤ 3 := by
  unfold LB.asked at h
  rw [Bool.and_eq_true, List.all_eq_true] at h
  have := h.2 _ (LB.am_mem l i hi)
  unfold LB.askd at this
  simp only [Bool.and_eq_true, decide_eq_true_eq] at this
  exact this.2

end Go.Proofs.Ytdmnlmohfaafoac
