/- A map keyed by texts: something taken out of it, asked with 'ok', gone through while what has come is taken out. Names no function. -/
import Derived.Test.YtdmnlmohfaafoadDoorIxMap
import Derived.Lib.AppendStr
namespace Go.Proofs.YtdmnlmohfaafoadDoor
open Go.Maps Go.RowKit

/-- One text less. -/
def cutF (f : ByteArray → Option Value) (s : ByteArray) : ByteArray → Option Value := fun t => if t = s then none else f t

theorem cutF_same (f : ByteArray → Option Value) (s : ByteArray) : cutF f s s = none := by unfold cutF; rw [if_pos rfl]
theorem cutF_other (f : ByteArray → Option Value) (s t : ByteArray) (h : t ≠ s) : cutF f s t = f t := by unfold cutF; rw [if_neg h]

theorem Tells.del {D : DataW Value} {f : ByteArray → Option Value} (h : Tells D f) (s : ByteArray) : Tells (D.del (kS s)) (cutF f s) := by
  refine ⟨h.1.del _, fun t => ?_⟩
  by_cases e : t = s
  · subst e
    rw [cutF_same]
    exact ⟨fun _ => has_del_same, fun v' hv => by cases hv⟩
  · rw [cutF_other _ _ _ e]
    have hne : kS t ≠ kS s := fun e' => e (kS_inj e')
    rw [has_del_other hne]
    refine ⟨(h.2 t).1, fun v' hv => ⟨((h.2 t).2 v' hv).1, fun z => ?_⟩⟩
    rw [atKey_del_other hne]
    exact ((h.2 t).2 v' hv).2 z

section
variable {P : Program} {k : TypeId} {w : World} {b n : Nat} {f : ByteArray → Option Value}

/-- 'delete(m, s)', as an equation. -/
theorem MapF.drop (h : MapF P k w b n f) {t e : TypeId} (hks : P.underlying k = some .string) (ht : P.underlying t = some (.map k e)) {s : ByteArray} (hs : s.size ≤ maxLen) (ty : TypeId) :
    ∃ w', (Builtin.delete_ #[t, k] ty #[.map (some b), .string s]).run P w = .ok (.tuple #[]) w' ∧ MapF P k w' b n (cutF f s) ∧ w.grownBy w' (some b) ∧ w'.heap.size = w.heap.size := by
  obtain ⟨D, h1, h2⟩ := h
  obtain ⟨w', hrun, h3, h4⟩ := h1.drop (string_keyed hks) ht (key := .string s) (WideMaps.keyOf_string_mk hks hs) ty
  refine ⟨w', hrun, ⟨_, h3, h2.del s⟩, h4.grown, ?_⟩
  obtain ⟨es, clock, es', clock', hb, rfl⟩ := h4
  simp [ChangeMaps.setBlock]

/-- 'v, ok := m[s]', as an equation. -/
theorem MapF.look_ok (h : MapF P k w b n f) {t e : TypeId} (hks : P.underlying k = some .string) (ht : P.underlying t = some (.map k e)) {z : Value} (hz : ∀ W, (zeroValue e).run P W = .ok z W) {s : ByteArray} (hs : s.size ≤ maxLen) {u : Value} (hu : (f s).getD z = u) {ok : Bool} (hok : (f s).isSome = ok) :
    (Instr.lookup t (.map (some b)) (.string s) true).run P w = .ok (.tuple #[u, .bool ok]) w := by
  obtain ⟨D, h1, h2⟩ := h
  obtain ⟨v, ps, hrun, hv⟩ := h1.look_ok (string_keyed hks) ht (hz w) (zd := .held z) (zp := []) rfl (key := .string s) (WideMaps.keyOf_string_mk hks hs)
  have e2 : DataW.held v = D.atKey (kS s) (.held z) := congrArg Prod.fst (Option.some.inj hv)
  cases hf : f s with
  | none =>
    have h0 := (h2.2 s).1 hf
    rw [atKey_of_not_has h0] at e2
    rw [hf] at hu hok
    have h0' : has D (.string s.data.toList) = false := h0
    rw [h0'] at hrun
    rw [← hu, ← hok]
    rw [DataW.held.inj e2] at hrun
    exact hrun
  | some v' =>
    have h0 := ((h2.2 s).2 v' hf).1
    rw [((h2.2 s).2 v' hf).2] at e2
    rw [hf] at hu hok
    have h0' : has D (.string s.data.toList) = true := h0
    rw [h0'] at hrun
    rw [← hu, ← hok]
    rw [DataW.held.inj e2] at hrun
    exact hrun

/-- Under way through a map; left: what is still to come. -/
def RngX (P : Program) (k : TypeId) (w : World) (b r n : Nat) (f : ByteArray → Option Value) (left : ByteArray → Bool) (cnt : Nat) : Prop :=
  ∃ D lf, w.ranges P k rawElem b r n D lf cnt ∧ Tells D f ∧ (∀ s, left s = lf (kS s)) ∧ ∀ kl, lf kl = true → ∃ s, kl = kS s

def strike (left : ByteArray → Bool) (s : ByteArray) : ByteArray → Bool := fun t => left t && !decide (t = s)

variable {r cnt : Nat} {left : ByteArray → Bool}

theorem RngX.kept {w' : World} {row : Option Nat} (h : RngX P k w b r n f left cnt) (hg : w.grownBy w' row) (hb' : some b ≠ row) (hr' : some r ≠ row) : RngX P k w' b r n f left cnt := by
  obtain ⟨D, lf, h1, h2, h3⟩ := h
  exact ⟨D, lf, h1.kept hg hb' hr', h2, h3⟩

theorem RngX.block {w' : World} (h : RngX P k w b r n f left cnt) (hb : w'.heap[b]? = w.heap[b]?) (hr : w'.heap[r]? = w.heap[r]?) : RngX P k w' b r n f left cnt := by
  obtain ⟨D, lf, ⟨es, clock, since, seen, c0, a1, a2, a3, a4, a5, a6⟩, h2, h3⟩ := h
  exact ⟨D, lf, ⟨es, clock, since, seen, c0, hb.trans a1, a2, a3, a4, hr.trans a5, a6⟩, h2, h3⟩

theorem RngX.left_eq (h : RngX P k w b r n f left cnt) : w.rangeLeft b r = cnt := by
  obtain ⟨D, lf, h1, _⟩ := h
  exact h1.left_eq

theorem RngX.lt (h : RngX P k w b r n f left cnt) : r < w.heap.size := by
  obtain ⟨D, lf, h1, _⟩ := h
  exact h1.lt

theorem RngX.ne (h : RngX P k w b r n f left cnt) : r ≠ b := by
  obtain ⟨D, lf, h1, _⟩ := h
  exact h1.ne

theorem RngX.map (h : RngX P k w b r n f left cnt) : MapF P k w b n f := by
  obtain ⟨D, lf, h1, h2, _⟩ := h
  exact ⟨D, h1.owns, h2⟩

theorem RngX.iter (h : RngX P k w b r n f left cnt) : ∃ i s c d, w.heap[r]? = some (.mapIter i s c d) := by
  obtain ⟨D, lf, ⟨es, clock, since, seen, c0, _, _, _, _, hr, _⟩, _⟩ := h
  exact ⟨_, _, _, _, hr⟩

/-- 'delete(m, s)' in the round. -/
theorem RngX.drop (h : RngX P k w b r n f left cnt) {t e : TypeId} (hks : P.underlying k = some .string) (ht : P.underlying t = some (.map k e)) {s : ByteArray} (hs : s.size ≤ maxLen) (ty : TypeId) :
    ∃ w' cnt', (Builtin.delete_ #[t, k] ty #[.map (some b), .string s]).run P w = .ok (.tuple #[]) w' ∧ RngX P k w' b r n (cutF f s) (strike left s) cnt' ∧ cnt' ≤ cnt ∧ w.grownBy w' (some b) ∧ w'.heap.size = w.heap.size := by
  obtain ⟨D, lf, h1, h2, h3, h4⟩ := h
  obtain ⟨w', cnt', hrun, r1, r2, r3⟩ := h1.drop (string_keyed hks) ht (key := .string s) (WideMaps.keyOf_string_mk hks hs) ty
  refine ⟨w', cnt', hrun, ⟨_, _, r1, h2.del s, fun t => ?_, fun kl hk => ?_⟩, r2, r3.grown, ?_⟩
  · show (left t && !decide (t = s)) = (lf (kS t) && !(kS t).sameKey (kS s))
    rw [h3, kS_same]
  · simp only [Bool.and_eq_true] at hk
    exact h4 kl hk.1
  · obtain ⟨es, clock, es', clock', hb, rfl⟩ := r3
    simp [ChangeMaps.setBlock]

/-- 'range m'. -/
theorem wpList_range_x {ops : Array Oper} {rest : List Oper} {o : Oper} {a : Act} {Q : Exit → Act → World → Prop}
    (hg : o.guard = none) (m : Operand) (t : TypeId) (hop : o.op = Op.range t m) (k e : TypeId) (hks : P.underlying k = some .string) (ht : P.underlying t = some (.map k e)) (b n : Nat) (f : ByteArray → Option Value)
    (hm : a.eval m = .map (some b)) (hown : MapF P k w b n f)
    (hK : ∀ w' cnt left, RngX P k w' b w.heap.size n f left cnt → (∀ s, left s = (f s).isSome) → cnt ≤ n → w.grownBy w' none → w'.heap.size = w.heap.size + 1 → wpList P ops Q rest (a.put o.dst (.pointer (some ⟨w.heap.size, 0, none⟩))) w') :
    wpList P ops Q (o :: rest) a w := by
  obtain ⟨D, h1, h2⟩ := hown
  have hsz := h1.size_le
  have hko : ∀ kl, has D kl = true → ∃ s, kl = kS s := by
    intro kl hkl
    obtain ⟨es, clock, _, F, _, hD⟩ := h1
    rw [hD, Maps.has_eq, List.any_eq_true] at hkl
    obtain ⟨x, hx, hs⟩ := hkl
    have hx' := (WideShapes.sorted_perm _).mem_iff.1 hx
    obtain ⟨y, hy, rfl⟩ := List.mem_map.1 hx'
    obtain ⟨z, hz⟩ := F.reads y hy
    have hkey := WideElems.rd_key hz
    rw [WideElems.rg_of hz] at hs
    generalize y.key = key at hkey
    cases key <;> simp [keyOf, hks, mapKey] at hkey
    rename_i q
    obtain ⟨_, hq⟩ := hkey
    rw [← hq] at hs
    refine ⟨q, ?_⟩
    cases kl <;> simp [Lit.sameKey] at hs
    rw [kS, hs]
  refine wpList_range_own w hg m t hop k e (string_keyed hks) ht rawElem b n D hm h1 (fun w' h3 h4 h5 => hK w' _ (fun s => has D (kS s)) ⟨D, _, h3, h2, fun _ => rfl, hko⟩ (fun s => ?_) hsz h4 h5)
  cases hf : f s with
  | none => exact (h2.2 s).1 hf
  | some v => exact ((h2.2 s).2 v hf).1

/-- The step. -/
theorem wpList_next_x {ops : Array Oper} {rest : List Oper} {o : Oper} {a : Act} {Q : Exit → Act → World → Prop}
    (hg : o.guard = none) (it : Operand) (hop : o.op = Op.next it false) (k : TypeId) (hks : P.underlying k = some .string) (b r n : Nat) (f : ByteArray → Option Value) (left : ByteArray → Bool) (cnt : Nat)
    (hit : a.eval it = .pointer (some ⟨r, 0, none⟩)) (h : RngX P k w b r n f left cnt)
    (hDone : (∀ s, left s = false) → wpList P ops Q rest (a.put o.dst (.tuple #[.bool false])) w)
    (hMore : ∀ (s : ByteArray) (v : Value) (w' : World) (cnt' : Nat), s.size ≤ maxLen → f s = some v → left s = true → RngX P k w' b r n f (strike left s) cnt' → cnt' < cnt →
      w.grownBy w' (some r) → w'.heap.size = w.heap.size → (Instr.entry (.pointer (some ⟨r, 0, none⟩))).run P w' = .ok (.tuple #[.string s, v]) w' → wpList P ops Q rest (a.put o.dst (.tuple #[.bool true, .string s, v])) w') :
    wpList P ops Q (o :: rest) a w := by
  obtain ⟨D, lf, h1, h2, h3, h4⟩ := h
  refine wpList_next_ranges w hg it hop k (string_keyed hks) rawElem Value.string id (fun key kl hk => ?_) (fun v y _ => ⟨v, rfl⟩) b r n D lf cnt hit h1 (fun _ hl => hDone fun s => by rw [h3]; exact hl _) ?_
  · cases key <;> simp [keyOf, hks, mapKey] at hk
    exact ⟨_, rfl⟩
  · intro s v kl y w' cnt' hkey hlk hv hat hrg hlt hgr hsz hen
    have hs : s.size ≤ maxLen ∧ kl = kS s := by
      simp [keyOf, hks, mapKey] at hkey
      exact ⟨hkey.1, hkey.2.symm⟩
    obtain ⟨hs1, rfl⟩ := hs
    have ey : y = (.held v, []) := (Option.some.inj hv).symm
    subst ey
    have hf : f s = some v := by
      cases hf : f s with
      | none =>
        have := (h2.2 s).1 hf
        rw [has_true_of_atKey hat] at this; cases this
      | some v' =>
        have e1 := ((h2.2 s).2 v' hf).2 (.nil)
        rw [hat] at e1
        rw [DataW.held.inj e1]
    refine hMore s v w' cnt' hs1 hf (by rw [h3]; exact hlk) ⟨D, _, hrg, h2, fun t => ?_, fun kl hk => ?_⟩ hlt hgr hsz hen
    · show (left t && !decide (t = s)) = (lf (kS t) && !(kS t).sameKey (kS s))
      rw [h3, kS_same]
    · simp only [Bool.and_eq_true] at hk
      exact h4 kl hk.1

theorem strike_twice (left : ByteArray → Bool) (s : ByteArray) : strike (strike left s) s = strike left s := by
  funext t
  unfold strike
  cases left t <;> cases decide (t = s) <;> rfl

end

end Go.Proofs.YtdmnlmohfaafoadDoor
