/- A map keyed by texts, told by what it says at each text: made, looked up, written, gone through. Names no function. -/
import Derived.Test.YtdmnlmohfaafoacGreatDoorLbMem
import Derived.Maps.RangeWalk
import Derived.Maps.OwnOps
import Derived.Maps.OwnSet
import Derived.Maps.AppendAt
namespace Go.Proofs.YtdmnlmohfaafoacGreatDoor
open Go.Maps Go.RowKit

/-- How an element reads: as what it is. -/
def rawElem (v : Value) : Option (DataW Value × List MemPlace) := some (.held v, [])

/-- A text as a key. -/
abbrev kS (s : ByteArray) : Lit := .string s.data.toList

theorem kS_inj {s t : ByteArray} (h : kS s = kS t) : s = t := by
  simp only [kS, Lit.string.injEq, Array.toList_inj] at h
  cases s; cases t
  simp only at h
  rw [h]

theorem kS_key (s : ByteArray) : WideAt.IsKeyLit (kS s) := trivial

theorem kS_same (s t : ByteArray) : (kS s).sameKey (kS t) = decide (s = t) := by
  by_cases h : s = t
  · subst h; simp [Lit.sameKey]
  · rw [decide_eq_false h]
    exact sameKey_ne fun e => h (kS_inj e)

/-- What a datum says at each text. -/
def Tells (D : DataW Value) (f : ByteArray → Option Value) : Prop :=
  IsMap D ∧ ∀ s, (f s = none → has D (kS s) = false) ∧ ∀ v, f s = some v → has D (kS s) = true ∧ ∀ z, D.atKey (kS s) z = .held v

/-- One text more. -/
def upd (f : ByteArray → Option Value) (s : ByteArray) (v : Value) : ByteArray → Option Value := fun t => if t = s then some v else f t

theorem upd_same (f : ByteArray → Option Value) (s : ByteArray) (v : Value) : upd f s v s = some v := by unfold upd; rw [if_pos rfl]
theorem upd_other (f : ByteArray → Option Value) (s t : ByteArray) (v : Value) (h : t ≠ s) : upd f s v t = f t := by unfold upd; rw [if_neg h]

theorem Tells.none : Tells (.map []) fun _ => none := ⟨isMap_empty, fun _ => ⟨fun _ => rfl, fun _ h => by cases h⟩⟩

theorem Tells.put {D : DataW Value} {f : ByteArray → Option Value} (h : Tells D f) (s : ByteArray) (v : Value) : Tells (D.put (kS s) (.held v)) (upd f s v) := by
  refine ⟨h.1.put _ _, fun t => ?_⟩
  by_cases e : t = s
  · subst e
    rw [upd_same]
    refine ⟨fun h => (by cases h), fun v' hv => ?_⟩
    cases hv
    exact ⟨has_put_same h.1 (kS_key t) _, fun z => atKey_put_same h.1 (kS_key t) _ z⟩
  · rw [upd_other _ _ _ _ e]
    have hne : kS t ≠ kS s := fun e' => e (kS_inj e')
    rw [has_put_other hne]
    refine ⟨(h.2 t).1, fun v' hv => ⟨((h.2 t).2 v' hv).1, fun z => ?_⟩⟩
    rw [atKey_put_other hne]
    exact ((h.2 t).2 v' hv).2 z

/-- The block b is a map of at most n entries that says f. -/
def MapF (P : Program) (k : TypeId) (w : World) (b n : Nat) (f : ByteArray → Option Value) : Prop := ∃ D, w.ownsMap P k rawElem b n D ∧ Tells D f

section
variable {P : Program} {k : TypeId} {w : World} {b n : Nat} {f : ByteArray → Option Value}

theorem MapF.made (w : World) (P : Program) (k : TypeId) : MapF P k (w.alloc (.map #[] 0)) w.heap.size 0 fun _ => none := ⟨_, World.ownsMap_made w P k rawElem, Tells.none⟩

theorem MapF.mono (h : MapF P k w b n f) {n' : Nat} (hn : n ≤ n') : MapF P k w b n' f := by
  obtain ⟨D, h1, h2⟩ := h
  exact ⟨D, h1.mono hn, h2⟩

theorem MapF.lt (h : MapF P k w b n f) : b < w.heap.size := by
  obtain ⟨D, h1, _⟩ := h
  exact h1.lt

theorem MapF.isMap (h : MapF P k w b n f) : ∃ es clock, w.heap[b]? = some (.map es clock) := by
  obtain ⟨D, ⟨es, clock, h1, _⟩, _⟩ := h
  exact ⟨es, clock, h1⟩

theorem MapF.block {w' : World} (h : MapF P k w b n f) (hb : w'.heap[b]? = w.heap[b]?) : MapF P k w' b n f := by
  obtain ⟨D, ⟨es, clock, h1, h2⟩, h3⟩ := h
  exact ⟨D, ⟨es, clock, hb.trans h1, h2⟩, h3⟩

theorem MapF.kept {w' : World} {row : Option Nat} (h : MapF P k w b n f) (hg : w.grownBy w' row) (hne : some b ≠ row) : MapF P k w' b n f := h.block (hg.block b h.lt hne)

theorem MapF.alloc (h : MapF P k w b n f) (o : Obj) : MapF P k (w.alloc o) b n f := h.kept (World.grownBy_alloc w o none) (by simp)

theorem MapF.below {w' : World} {B : Nat} (h : MapF P k w b n f) (hb : Below B w w') (hB : b < B) : MapF P k w' b n f := h.block (hb.block b hB)

/-- A row of one's own is no map. -/
theorem MapF.ne_row (h : MapF P k w b n f) {base m size : Nat} {e : TypeId} {v : Value} {xs : List Value} (hr : w.ownsRow base e size v m xs) : some b ≠ v.ownBlock := by
  obtain ⟨es, clock, hb⟩ := h.isMap
  intro e1
  rcases hr.2 with ⟨rfl, _⟩ | ⟨g, cap, cur, rfl, _, hg, _⟩
  · cases e1
  · have e2 : b = g := Option.some.inj e1
    subst e2
    rw [hb] at hg; cases hg

/-- 'm[s]', as an equation. -/
theorem MapF.look (h : MapF P k w b n f) {t e : TypeId} (hks : P.underlying k = some .string) (ht : P.underlying t = some (.map k e)) {z : Value} (hz : ∀ W, (zeroValue e).run P W = .ok z W) {s : ByteArray} (hs : s.size ≤ maxLen) {u : Value} (hu : (f s).getD z = u) :
    (Instr.lookup t (.map (some b)) (.string s) false).run P w = .ok u w := by
  obtain ⟨D, h1, h2⟩ := h
  obtain ⟨v, ps, hrun, hv⟩ := h1.lookup (string_keyed hks) ht (hz w) (zd := .held z) (zp := []) rfl (key := .string s) (WideMaps.keyOf_string_mk hks hs)
  have e1 : v = u := by
    have e2 : DataW.held v = D.atKey (kS s) (.held z) := congrArg Prod.fst (Option.some.inj hv)
    cases hf : f s with
    | none =>
      rw [atKey_of_not_has (((h2.2 s).1 hf))] at e2
      rw [hf] at hu
      rw [← hu]; exact DataW.held.inj e2
    | some v' =>
      rw [((h2.2 s).2 v' hf).2] at e2
      rw [hf] at hu
      rw [← hu]; exact DataW.held.inj e2
  rw [← e1]; exact hrun

/-- 'm[s] = u', as an equation. -/
theorem MapF.store (h : MapF P k w b n f) {t e : TypeId} (hks : P.underlying k = some .string) (ht : P.underlying t = some (.map k e)) (hn : n < maxLen) {s : ByteArray} (hs : s.size ≤ maxLen) (u : Value) :
    ∃ w', (Instr.mapUpdate t (.map (some b)) (.string s) u).run P w = .ok () w' ∧ MapF P k w' b (n + 1) (upd f s u) ∧ w.grownBy w' (some b) := by
  obtain ⟨D, h1, h2⟩ := h
  obtain ⟨w', hrun, h3, h4⟩ := h1.update (string_keyed hks) ht hn (key := .string s) (val := u) (WideMaps.keyOf_string_mk hks hs) (d := .held u) (ps := []) rfl
  exact ⟨w', hrun, ⟨_, h3, h2.put s u⟩, h4⟩

/-- 'm[s]'. -/
theorem wpList_lookup_f {ops : Array Oper} {rest : List Oper} {o : Oper} {a : Act} {Q : Exit → Act → World → Prop}
    (hg : o.guard = none) (m x : Operand) (t : TypeId) (hop : o.op = Op.lookup t m x false)
    (k e : TypeId) (hks : P.underlying k = some .string) (ht : P.underlying t = some (.map k e)) (z : Value) (hz : (zeroValue e).run P w = .ok z w) (b n : Nat) (f : ByteArray → Option Value)
    (hm : a.eval m = .map (some b)) (hown : MapF P k w b n f) (s : ByteArray) (hs : s.size ≤ maxLen) (hx : a.eval x = .string s) (u : Value) (hu : (f s).getD z = u)
    (hK : wpList P ops Q rest (a.put o.dst u) w) :
    wpList P ops Q (o :: rest) a w := by
  refine wpList_plain hg fun K' hK' => ?_
  obtain ⟨D, h1, h2⟩ := hown
  obtain ⟨v, ps, hrun, hv⟩ := h1.lookup (string_keyed hks) ht hz (zd := .held z) (zp := []) rfl (key := .string s) (WideMaps.keyOf_string_mk hks hs)
  have e1 : v = u := by
    have e2 : DataW.held v = D.atKey (kS s) (.held z) := congrArg Prod.fst (Option.some.inj hv)
    cases hf : f s with
    | none =>
      rw [atKey_of_not_has (((h2.2 s).1 hf))] at e2
      rw [hf] at hu
      rw [← hu]; exact DataW.held.inj e2
    | some v' =>
      rw [((h2.2 s).2 v' hf).2] at e2
      rw [hf] at hu
      rw [← hu]; exact DataW.held.inj e2
  subst e1
  unfold Oper.wp
  simp [execOp, hop, hm, hx, hrun, Result.andThen]
  exact hK' _ _ hK

/-- 'm[s] = v'. -/
theorem wpList_mapUpdate_f {ops : Array Oper} {rest : List Oper} {o : Oper} {a : Act} {Q : Exit → Act → World → Prop}
    (hg : o.guard = none) (m x v : Operand) (t : TypeId) (hop : o.op = Op.mapUpdate t m x v)
    (k e : TypeId) (hks : P.underlying k = some .string) (ht : P.underlying t = some (.map k e)) (b n : Nat) (f : ByteArray → Option Value)
    (hm : a.eval m = .map (some b)) (hown : MapF P k w b n f) (hn : n < maxLen) (s : ByteArray) (hs : s.size ≤ maxLen) (u : Value) (hx : a.eval x = .string s) (hv : a.eval v = u)
    (hK : ∀ w', MapF P k w' b (n + 1) (upd f s u) → w.grownBy w' (some b) → wpList P ops Q rest (a.put o.dst undef) w') :
    wpList P ops Q (o :: rest) a w := by
  obtain ⟨D, h1, h2⟩ := hown
  exact wpList_mapUpdate_own w hg m x v t hop k e (string_keyed hks) ht rawElem b n D hm h1 hn (.string s) u (kS s) hx hv (WideMaps.keyOf_string_mk hks hs) (.held u) [] rfl
    (fun w' h3 h4 => hK w' ⟨_, h3, h2.put s u⟩ h4)

/-- The texts met so far, of those at which something is said; left: those that are still to come. -/
def CollF (f : ByteArray → Option Value) (left : Lit → Bool) (ks : List ByteArray) : Prop := ks.Nodup ∧ ∀ s, s ∈ ks ↔ (f s ≠ none ∧ left (kS s) = false)

theorem CollF.start {D : DataW Value} (h : Tells D f) : CollF f (has D) [] := by
  refine ⟨List.nodup_nil, fun s => ?_⟩
  constructor
  · intro h; simp at h
  · rintro ⟨h1, h2⟩
    cases hf : f s with
    | none => exact absurd hf h1
    | some v => rw [((h.2 s).2 v hf).1] at h2; cases h2

theorem CollF.step {left : Lit → Bool} {ks : List ByteArray} (h : CollF f left ks) {s : ByteArray} {v : Value} (hs : f s = some v) (hl : left (kS s) = true) : CollF f (fun z => left z && !z.sameKey (kS s)) (ks ++ [s]) := by
  have hnew : s ∉ ks := fun hx => by have := ((h.2 s).1 hx).2; rw [hl] at this; cases this
  refine ⟨List.nodup_append.2 ⟨h.1, by simp, fun a ha b hb => by simp at hb; subst hb; exact fun e => hnew (e ▸ ha)⟩, fun t => ?_⟩
  rw [List.mem_append, List.mem_singleton, h.2 t]
  have hk := kS_same t s
  by_cases e : t = s
  · subst e
    simp only [hs, hk]; simp
  · rw [decide_eq_false e] at hk
    simp [hk, e]

theorem CollF.all {left : Lit → Bool} {ks : List ByteArray} (h : CollF f left ks) (hl : ∀ kl, left kl = false) : ks.Nodup ∧ ∀ s, s ∈ ks ↔ f s ≠ none :=
  ⟨h.1, fun s => by rw [h.2 s, hl]; simp⟩

/-- Under way through a map. -/
def RngF (P : Program) (k : TypeId) (w : World) (b r n : Nat) (f : ByteArray → Option Value) (ks : List ByteArray) (cnt : Nat) : Prop :=
  ∃ D left, w.ranges P k rawElem b r n D left cnt ∧ Tells D f ∧ CollF f left ks

theorem RngF.kept {w' : World} {r cnt : Nat} {ks : List ByteArray} {row : Option Nat} (h : RngF P k w b r n f ks cnt) (hg : w.grownBy w' row) (hb' : some b ≠ row) (hr' : some r ≠ row) : RngF P k w' b r n f ks cnt := by
  obtain ⟨D, left, h1, h2, h3⟩ := h
  exact ⟨D, left, h1.kept hg hb' hr', h2, h3⟩

theorem RngF.alloc {r cnt : Nat} {ks : List ByteArray} (h : RngF P k w b r n f ks cnt) (o : Obj) : RngF P k (w.alloc o) b r n f ks cnt := h.kept (World.grownBy_alloc w o none) (by simp) (by simp)

theorem RngF.left {r cnt : Nat} {ks : List ByteArray} (h : RngF P k w b r n f ks cnt) : w.rangeLeft b r = cnt := by
  obtain ⟨D, left, h1, _⟩ := h
  exact h1.left_eq

theorem RngF.lt {r cnt : Nat} {ks : List ByteArray} (h : RngF P k w b r n f ks cnt) : r < w.heap.size := by
  obtain ⟨D, left, h1, _⟩ := h
  exact h1.lt

theorem RngF.map {r cnt : Nat} {ks : List ByteArray} (h : RngF P k w b r n f ks cnt) : MapF P k w b n f := by
  obtain ⟨D, left, h1, h2, _⟩ := h
  exact ⟨D, h1.owns, h2⟩

theorem RngF.iter {r cnt : Nat} {ks : List ByteArray} (h : RngF P k w b r n f ks cnt) : ∃ i s c d, w.heap[r]? = some (.mapIter i s c d) := by
  obtain ⟨D, left, ⟨es, clock, since, seen, c0, _, _, _, _, hr, _⟩, _⟩ := h
  exact ⟨_, _, _, _, hr⟩

theorem RngF.ne_row {r cnt : Nat} {ks : List ByteArray} (h : RngF P k w b r n f ks cnt) {base m size : Nat} {e : TypeId} {v : Value} {xs : List Value} (hr : w.ownsRow base e size v m xs) : some r ≠ v.ownBlock := by
  obtain ⟨i, s, c, d, hb⟩ := h.iter
  intro e1
  rcases hr.2 with ⟨rfl, _⟩ | ⟨g, cap, cur, rfl, _, hg, _⟩
  · cases e1
  · have e2 : r = g := Option.some.inj e1
    subst e2
    rw [hb] at hg; cases hg

/-- 'range m'. -/
theorem wpList_range_f {ops : Array Oper} {rest : List Oper} {o : Oper} {a : Act} {Q : Exit → Act → World → Prop}
    (hg : o.guard = none) (m : Operand) (t : TypeId) (hop : o.op = Op.range t m) (k e : TypeId) (hks : P.underlying k = some .string) (ht : P.underlying t = some (.map k e)) (b n : Nat) (f : ByteArray → Option Value)
    (hm : a.eval m = .map (some b)) (hown : MapF P k w b n f)
    (hK : ∀ w' cnt, RngF P k w' b w.heap.size n f [] cnt → w.grownBy w' none → w'.heap.size = w.heap.size + 1 → wpList P ops Q rest (a.put o.dst (.pointer (some ⟨w.heap.size, 0, none⟩))) w') :
    wpList P ops Q (o :: rest) a w := by
  obtain ⟨D, h1, h2⟩ := hown
  exact wpList_range_own w hg m t hop k e (string_keyed hks) ht rawElem b n D hm h1 (fun w' h3 h4 h5 => hK w' _ ⟨D, _, h3, h2, CollF.start h2⟩ h4 h5)

/-- The step. -/
theorem wpList_next_f {ops : Array Oper} {rest : List Oper} {o : Oper} {a : Act} {Q : Exit → Act → World → Prop}
    (hg : o.guard = none) (it : Operand) (hop : o.op = Op.next it false) (k : TypeId) (hks : P.underlying k = some .string) (b r n : Nat) (f : ByteArray → Option Value) (ks : List ByteArray) (cnt : Nat)
    (hit : a.eval it = .pointer (some ⟨r, 0, none⟩)) (h : RngF P k w b r n f ks cnt)
    (hDone : ks.Nodup → (∀ s, s ∈ ks ↔ f s ≠ none) → wpList P ops Q rest (a.put o.dst (.tuple #[.bool false])) w)
    (hMore : ∀ (s : ByteArray) (v : Value) (w' : World) (cnt' : Nat), s.size ≤ maxLen → f s = some v → s ∉ ks → RngF P k w' b r n f (ks ++ [s]) cnt' → cnt' < cnt →
      w.grownBy w' (some r) → w'.heap.size = w.heap.size → (Instr.entry (.pointer (some ⟨r, 0, none⟩))).run P w' = .ok (.tuple #[.string s, v]) w' → wpList P ops Q rest (a.put o.dst (.tuple #[.bool true, .string s, v])) w') :
    wpList P ops Q (o :: rest) a w := by
  obtain ⟨D, left, h1, h2, h3⟩ := h
  refine wpList_next_ranges w hg it hop k (string_keyed hks) rawElem Value.string id (fun key kl hk => ?_) (fun v y _ => ⟨v, rfl⟩) b r n D left cnt hit h1 (fun _ hl => hDone (h3.all hl).1 (h3.all hl).2) ?_
  · cases key <;> simp [keyOf, hks, mapKey] at hk
    exact ⟨_, rfl⟩
  · intro s v kl y w' cnt' hkey hlk hv hat hrg hlt hgr hsz hen
    have hs : s.size ≤ maxLen ∧ kl = kS s := by
      simp [keyOf, hks, mapKey] at hkey
      exact ⟨hkey.1, hkey.2.symm⟩
    obtain ⟨hs1, rfl⟩ := hs
    have ey : y = (.held v, []) := (Option.some.inj hv).symm
    subst ey
    have hf : f s = some v := by
      cases hf : f s with
      | none =>
        have := (h2.2 s).1 hf
        rw [has_true_of_atKey hat] at this; cases this
      | some v' =>
        have e1 := ((h2.2 s).2 v' hf).2 (.nil)
        rw [hat] at e1
        rw [DataW.held.inj e1]
    have hn : s ∉ ks := fun hx => by have := ((h3.2 s).1 hx).2; rw [hlk] at this; cases this
    exact hMore s v w' cnt' hs1 hf hn ⟨D, _, hrg, h2, h3.step hf hlk⟩ hlt hgr hsz hen

end

end Go.Proofs.YtdmnlmohfaafoacGreatDoor
