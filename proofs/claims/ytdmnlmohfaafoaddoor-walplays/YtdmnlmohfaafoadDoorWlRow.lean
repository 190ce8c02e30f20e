/- Rows of texts of one's own that grow beside a wal. -/
import Derived.Test.YtdmnlmohfaafoadDoorWlApp
import Derived.Maps.AppendAt
namespace Go.Proofs.YtdmnlmohfaafoadDoor
open Go.RowKit

/-- append of one text onto a row of one's own, at the operation; where the new row lies. -/
theorem wpList_append_one {w : World} {ops : Array Oper} {rest : List Oper} {o : Oper} {a : Act} {Q : Exit → Act → World → Prop} (hgd : o.guard = none) (s x : Operand)
    (ho : o.op = .call { callee := .builtin .append, args := #[s, x], argTypes := #[28, 28] }) (base : Nat) (v : Value) (A : List ByteArray) (hs : a.eval s = v) (hown : OwnT w base v A)
    (g : Nat) (t : ByteArray) (hx : a.eval x = .slice (some ⟨g, 0, none⟩) 1 1) (hg : w.cell? ⟨g, 0, none⟩ = some (.string t)) (hl : A.length ≤ 1000000) (hbase : base ≤ w.heap.size)
    (h : ∀ v' w', OwnT w' base v' (A ++ [t]) → w.grownBy w' v.ownBlock → (v'.ownBlock = v.ownBlock ∨ v'.ownBlock = some w.heap.size) → wpList Tryd.prog ops Q rest (a.put o.dst v') w') : wpList Tryd.prog ops Q (o :: rest) a w := by
  obtain ⟨i, hi, hz0, hz1, hz2⟩ := info_parts Tryd.info9
  refine wpList_plain hgd fun K hK => ?_
  obtain ⟨v', w', hrun, h2, h3, _, h5⟩ := run_append_own_at (P := Tryd.prog) w base 28 o.type 9 i (.string ⟨#[]⟩) 1 16 Tryd.underlying28 hi hz0 hz1 hz2 rfl (by decide) v A.length (tv A) hown ⟨g, 0, none⟩ 1 1 [.string t] rfl (one_news _ _ _ hg) (by simp [Value.oneCell']) (by unfold maxLen; omega) (by omega) hbase
  unfold Oper.wp execOp
  simp only [ho, resolve, invoke, builtin, Sem.run_bind, Sem.run_pure, Result.andThen_ok, List.map_toArray, List.map_cons, List.map_nil, hs, hx, hrun]
  exact hK _ _ (h v' w' (OwnT.snoc h2) h3 h5)

theorem OwnT.keep {w w' : World} {Z Z' : Nat → Prop} {base : Nat} {v : Value} {l : List ByteArray} (h : OwnT w base v l) (hk : Keeps Z w Z' w') (hn : ∀ g, v.ownBlock = some g → ¬ Z g) : OwnT w' base v l ∧ ∀ g, v.ownBlock = some g → ¬ Z' g := by
  rcases h.2 with ⟨h0, h1⟩ | ⟨g, cap, cur, h0, a1, a2, a3⟩
  · exact ⟨⟨h.1, .inl ⟨h0, h1⟩⟩, fun g hg => by rw [h0] at hg; cases hg⟩
  · have hg0 : v.ownBlock = some g := by rw [h0]; rfl
    obtain ⟨h2, h3⟩ := hk.out (heap_lt a2) (hn g hg0)
    refine ⟨⟨h.1, .inr ⟨g, cap, cur, h0, a1, h3.trans a2, a3⟩⟩, fun g' hg' => ?_⟩
    rw [hg0] at hg'
    cases hg'
    exact h2

theorem OwnT.low {w : World} {base base' : Nat} {v : Value} {l : List ByteArray} (h : OwnT w base v l) (hb : base' ≤ base) : OwnT w base' v l := by
  refine ⟨h.1, ?_⟩
  rcases h.2 with h0 | ⟨g, cap, cur, h0, a1, a2⟩
  · exact .inl h0
  · exact .inr ⟨g, cap, cur, h0, Nat.le_trans hb a1, a2⟩

/-- A wal stays while a row that is none of its blocks grows. -/
theorem WS.grown {w0 w w' : World} {bd cnt bw : Nat} {D : DK.M} {p : Int} {dn : Bool} {Z : Nat → Prop} {row : Option Nat} (h : WS w0 bd cnt bw D p dn w Z) (hg : w.grownBy w' row) (hr : ∀ g, row = some g → ¬ Z g ∧ w0.heap.size ≤ g) : WS w0 bd cnt bw D p dn w' Z := by
  have hk : ∀ j, Z j → w'.heap[j]? = w.heap[j]? := fun j hj => hg.block j (h.hi j hj).2 (fun e => (hr j e.symm).1 hj)
  refine ⟨?_, fun j hj => ⟨(h.hi j hj).1, Nat.lt_of_lt_of_le (h.hi j hj).2 hg.size⟩, h.bel.grown hg h.bel.size (fun j hj => (hr j hj).2)⟩
  obtain ⟨X, ⟨mo, fp, fv, e, l, h1⟩, h2, h3, h4, h5, h6⟩ := h.wl
  exact ⟨X, ⟨mo, fp, fv, e, l, h1.kept fun j hj _ => hk j (h5 j hj)⟩, (hk bw h4).trans h2, h3, h4, h5, fun j hj => Nat.lt_of_lt_of_le (h6 j hj) hg.size⟩

/-- The blocks of a wal, and of a row. -/
def ZR (Z : Nat → Prop) (v : Value) (j : Nat) : Prop := Z j ∨ v.ownBlock = some j

theorem Keeps.zr {Z Z' : Nat → Prop} {w w' : World} {v : Value} (h : Keeps Z w Z' w') : Keeps (ZR Z v) w (ZR Z' v) w' := by
  refine ⟨h.1.mono fun j hj => .inl hj, fun j hj => ?_⟩
  rcases hj with hj | hj
  · rcases h.2 j hj with h1 | h1
    · exact .inl (.inl h1)
    · exact .inr h1
  · exact .inl (.inr hj)

theorem Keeps.grown {Z : Nat → Prop} {w w' : World} {v v' : Value} (h : w.grownBy w' v.ownBlock) (hl : v'.ownBlock = v.ownBlock ∨ v'.ownBlock = some w.heap.size) : Keeps (ZR Z v) w (ZR Z v') w' := by
  refine ⟨XFr.grown h (fun j hj => .inl (.inr hj)), fun j hj => ?_⟩
  rcases hj with hj | hj
  · exact .inl (.inl hj)
  · rcases hl with h1 | h1
    · exact .inl (.inr (by rw [← h1]; exact hj))
    · rw [h1] at hj
      exact .inr (Nat.le_of_eq (Option.some.inj hj))

theorem Keeps.below {Z : Nat → Prop} {w w' : World} (h : Below w.heap.size w w') : Keeps Z w Z w' := ⟨XFr.below h, fun _ hj => .inl hj⟩

end Go.Proofs.YtdmnlmohfaafoadDoor
