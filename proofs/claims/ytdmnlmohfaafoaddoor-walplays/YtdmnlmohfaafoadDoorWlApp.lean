/- append onto rows of texts of one's own, as steps of a region that draws. -/
import Derived.Test.YtdmnlmohfaafoadDoorWlKeepM
import Derived.Deep.RegionLaw
import Derived.Laws.AppendOwnNone
import Derived.Deep.QuietTactic
import Derived.BigQuiet
import Derived.OwnWalk
import Derived.Carry
namespace Go.Proofs.YtdmnlmohfaafoadDoor
open Go.RowKit

theorem addr_add (b off j : Nat) : (⟨b, off, none⟩ : Addr).add j = ⟨b, off + j, none⟩ := by
  unfold Addr.add
  by_cases h0 : j = 0
  · subst h0; simp
  · simp [h0]

/-- append onto a row of one's own of a slice that is there, or is nil, as one step of a region that draws. -/
theorem step_append_txt {ops : Array Oper} {o : Oper} {a : Act} {w : World} {K : Act → World → Prop} {Q : Exit → Act → World → Prop} {E : Prop}
    (hg : o.guard = none) (s x : Operand) (ho : o.op = .call { callee := .builtin .append, args := #[s, x], argTypes := #[28, 28] })
    (base : Nat) (v : Value) (A : List ByteArray) (hs : a.eval s = v) (hown : OwnT w base v A)
    (ao : Option Addr) (B : List ByteArray) (c : Nat) (hx : a.eval x = .slice ao B.length c) (hnone : ao = none → B.length = 0 ∧ c = 0) (hB : NRow w ao B) (hl : A.length + B.length ≤ 1000000) (hbase : base ≤ w.heap.size)
    (h : ∀ v' w', OwnT w' base v' (A ++ B) → w.grownBy w' v.ownBlock → K (a.put o.dst v') w') :
    if Region.wanted o (yielded ops a.tmps) = true then Oper.wp Tryd.prog o a w K Q else E := by
  have hw : Region.wanted o (yielded ops a.tmps) = true := by simp [Region.wanted, hg]
  rw [if_pos hw]
  obtain ⟨i, hi, hz0, hz1, hz2⟩ := info_parts Tryd.info9
  have e1 : ∀ v' w', World.ownsRow w' base 9 1 v' (A.length + B.length) (tv A ++ tv B) → OwnT w' base v' (A ++ B) := fun v' w' h' => by
    show World.ownsRow _ _ _ _ _ _ _
    rw [List.length_append]
    have : tv (A ++ B) = tv A ++ tv B := by simp [tv]
    rw [this]; exact h'
  cases ao with
  | none =>
    obtain ⟨h1, rfl⟩ := hnone rfl
    have hB0 : B = [] := List.eq_nil_of_length_eq_zero h1
    subst hB0
    have hrun := run_append_owned_none (P := Tryd.prog) (w := w) base 28 o.type 9 i 1 Tryd.underlying28 hi v A.length (tv A) hown
    unfold Oper.wp
    simp only [List.length_nil] at hx
    simp [execOp, ho, resolve, invoke, builtin, hs, hx, hrun, Result.andThen]
    exact h v w (by rw [List.append_nil]; exact hown) (World.grownBy.refl _ _)
  | some ad =>
    obtain ⟨b, off, spot⟩ := ad
    have hcells : ∀ (j : Nat) (u : Value), (tv B)[j]? = some u → w.cell? ((⟨b, off, spot⟩ : Addr).add j) = some u := by
      intro j u hj
      have hlt : j < B.length := by
        have := (List.getElem?_eq_some_iff.1 hj).1
        rw [tv_length] at this; exact this
      rw [tv_get B j hlt] at hj
      obtain ⟨b', off', e, hc, _⟩ := hB j hlt
      cases e
      rw [addr_add]
      rw [← hj]; exact hc
    refine wp_append_own w s x 28 ho base 9 i (.string ⟨#[]⟩) 1 16 Tryd.underlying28 hi hz0 hz1 hz2 rfl (by decide) v A.length (tv A) hs hown ⟨b, off, spot⟩ B.length c (tv B) hx (by rw [tv_length]; omega) hcells ?_ (by unfold maxLen; omega) (by omega) hbase ?_
    · intro u hu
      obtain ⟨x, _, rfl⟩ := List.mem_map.1 hu
      rfl
    · intro v' w' h1 h2 _
      exact h v' w' (e1 v' w' h1) h2

/-- An empty row that was just made. -/
theorem empty_own (w : World) (base : Nat) (h : base ≤ w.heap.size) : OwnT (w.alloc (.cells #[] 9)) base (.slice (some ⟨w.heap.size, 0, none⟩) 0 0) [] := by
  refine ⟨rfl, .inr ⟨w.heap.size, 0, #[], rfl, h, heap_alloc_new w _, Nat.le_refl _, by unfold maxLen; omega, rfl, rfl⟩⟩

theorem OwnT.heap {w w' : World} {base : Nat} {v : Value} {l : List ByteArray} (h : OwnT w base v l) (hh : w'.heap = w.heap) : OwnT w' base v l := own_heap h hh

theorem OwnT.alloc {w : World} {base : Nat} {v : Value} {l : List ByteArray} (h : OwnT w base v l) (o : Obj) : OwnT (w.alloc o) base v l := OwnT.below h ((Below.refl _ w).alloc (Nat.le_refl _) o)

theorem NRow.heap {w w' : World} {ao : Option Addr} {l : List ByteArray} (h : NRow w ao l) (hh : w'.heap = w.heap) : NRow w' ao l := fun i hi => by
  obtain ⟨b, off, h1, h2, h3⟩ := h i hi
  exact ⟨b, off, h1, by rw [← h2]; unfold World.cell?; rw [hh], by rw [hh]; exact h3⟩

theorem NRow.alloc {w : World} {ao : Option Addr} {l : List ByteArray} (h : NRow w ao l) (o : Obj) : NRow (w.alloc o) ao l := h.below ((Below.refl _ w).alloc (Nat.le_refl _) o)

theorem one_row {w : World} {b : Nat} {s : ByteArray} (h : w.heap[b]? = some (.cells #[.string s] 9)) : NRow w (some ⟨b, 0, none⟩) [s] := by
  intro i hi
  have : i = 0 := by simpa using hi
  subst this
  exact ⟨_, _, rfl, by simp [LB.an, World.cell?, h], heap_lt h⟩

end Go.Proofs.YtdmnlmohfaafoadDoor
