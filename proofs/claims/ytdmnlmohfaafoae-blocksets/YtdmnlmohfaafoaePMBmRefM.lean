/- Plain facts: the last value of a time; a map that tells it; what is collected of a map. No program in it. What the document's MergeSamples answers. -/
import Derived.Test.YtdmnlmohfaafoaePMBkJn
import Derived.Maps.RangeWalk
import Derived.Maps.OwnOps
import Derived.Maps.OwnSet
import Derived.Test.YtdmnlmohfaafoaePMHcMerge
import Derived.Test.YtdmnlmohfaafoaePMBmSort
namespace Go.Proofs.Ytdmnlmohfaafoae
open Go.Maps
namespace CL

/-- The last value of a time. -/
def lastOf : List Smp → Int → Option Int
  | [], _ => none
  | s :: l, t => match lastOf l t with
    | some v => some v
    | none => if s.1 = t then some s.2 else none

theorem lastOf_append (a b : List Smp) (t : Int) : lastOf (a ++ b) t = match lastOf b t with
    | some v => some v
    | none => lastOf a t := by
  induction a with
  | nil => cases h : lastOf b t <;> simp [lastOf, h]
  | cons s a ih =>
    show (match lastOf (a ++ b) t with
      | some v => some v
      | none => if s.1 = t then some s.2 else none) = _
    rw [ih]
    cases h : lastOf b t <;> rfl

theorem lastOf_snoc (l : List Smp) (s : Smp) (t : Int) : lastOf (l ++ [s]) t = if s.1 = t then some s.2 else lastOf l t := by
  rw [lastOf_append]
  show (match (if s.1 = t then some s.2 else none) with
    | some v => some v
    | none => lastOf l t) = _
  by_cases e : s.1 = t <;> simp [e]

theorem lastOf_none (l : List Smp) (t : Int) : lastOf l t = none ↔ ∀ y ∈ l, y.1 ≠ t := by
  induction l with
  | nil => simp [lastOf]
  | cons s l ih =>
    unfold lastOf
    cases h : lastOf l t with
    | some v =>
      have : ¬ ∀ y ∈ l, y.1 ≠ t := fun hh => by rw [ih.2 hh] at h; cases h
      simp only [reduceCtorEq, false_iff]
      exact fun hh => this (fun y hy => hh y (List.mem_cons_of_mem _ hy))
    | none =>
      have := ih.1 h
      by_cases e : s.1 = t
      · simp [e]
      · simp [e]; exact fun a b hab => this (a, b) hab

theorem lastOf_mem (l : List Smp) (hl : Rising l) (t v : Int) : lastOf l t = some v ↔ (t, v) ∈ l := by
  induction l with
  | nil => simp [lastOf]
  | cons s l ih =>
    have h' := List.pairwise_cons.1 hl
    unfold lastOf
    cases h : lastOf l t with
    | some v' =>
      have hm := (ih h'.2)
      constructor
      · intro e
        have e : v' = v := by simpa using e
        subst e
        exact List.mem_cons_of_mem _ (hm.1 h)
      · intro hh
        rcases List.mem_cons.1 hh with e | e
        · exfalso
          have hn : lastOf l t = none := (lastOf_none l t).2 (fun y hy => by
            have := h'.1 y hy
            rw [← e] at this
            simp at this
            omega)
          rw [hn] at h; cases h
        · have := hm.2 e
          rw [h] at this
          simpa using this
    | none =>
      have hn := (lastOf_none l t).1 h
      by_cases e : s.1 = t
      · subst e
        simp only [if_true, Option.some.injEq, List.mem_cons]
        constructor
        · intro e; left; rw [← e]
        · rintro (e | e)
          · rw [← e]
          · exact absurd rfl (hn (s.1, v) e)
      · simp only [if_neg e, reduceCtorEq, List.mem_cons, false_iff, not_or]
        exact ⟨fun h2 => e (by rw [← h2]), fun h2 => hn _ h2 rfl⟩

theorem last_mrg (a b : List Smp) (ha : Rising a) (hb : Rising b) (x : Smp) : lastOf (a ++ b) x.1 = some x.2 ↔ x ∈ mrg a b := by
  rw [lastOf_append, mem_mrg a b ha hb]
  cases h : lastOf b x.1 with
  | some v =>
    constructor
    · intro e
      have e : v = x.2 := by simpa using e
      subst e
      exact .inl ((lastOf_mem b hb _ _).1 h)
    · rintro (h1 | ⟨_, h2⟩)
      · have := (lastOf_mem b hb x.1 x.2).2 h1
        rw [h] at this; exact this
      · rw [(lastOf_none b x.1).2 h2] at h; cases h
  | none =>
    have hn := (lastOf_none b x.1).1 h
    constructor
    · intro e
      exact .inr ⟨(lastOf_mem a ha _ _).1 e, hn⟩
    · rintro (h1 | ⟨h1, _⟩)
      · exact absurd rfl (hn _ h1)
      · exact (lastOf_mem a ha _ _).2 h1

end CL

/-- A map that tells the last value of each time. -/
def Tells (D : DataW Unit) (l : List CL.Smp) : Prop :=
  Tidy D ∧ Maps.size D ≤ l.length ∧ ∀ t, (CL.lastOf l t = none → has D (.int .i64 t) = false) ∧ ∀ v, CL.lastOf l t = some v → ∀ z, D.atKey (.int .i64 t) z = .lit (.int .i64 v)

theorem Tells.start : Tells (.map []) [] := ⟨tidy_empty, Nat.le_refl _, fun _ => ⟨fun _ => rfl, fun v h => by cases h⟩⟩

theorem Tells.step {D : DataW Unit} {l : List CL.Smp} (h : Tells D l) (s : CL.Smp) : Tells (D.put (.int .i64 s.1) (.lit (.int .i64 s.2))) (l ++ [s]) := by
  obtain ⟨h1, h2, h3⟩ := h
  refine ⟨h1.put (k := .int .i64 s.1) trivial _, ?_, fun t => ⟨fun hn => ?_, fun v hv z => ?_⟩⟩
  · rw [size_put h1, List.length_append]
    split <;> simp <;> omega
  · rw [CL.lastOf_snoc] at hn
    by_cases e : s.1 = t
    · simp [e] at hn
    · rw [if_neg e] at hn
      rw [has_put_other (fun e' => e (by simpa using e'.symm))]
      exact (h3 t).1 hn
  · rw [CL.lastOf_snoc] at hv
    by_cases e : s.1 = t
    · subst e
      rw [if_pos rfl] at hv
      rw [atKey_put_same h1.isMap (k := .int .i64 s.1) trivial]
      simpa using hv
    · rw [if_neg e] at hv
      rw [atKey_put_other (fun e' => e (by simpa using e'.symm))]
      exact (h3 t).2 v hv z

theorem Tells.iff {D : DataW Unit} {l : List CL.Smp} (h : Tells D l) (t v : Int) : (∀ z, D.atKey (.int .i64 t) z = .lit (.int .i64 v)) ↔ CL.lastOf l t = some v := by
  constructor
  · intro hat
    cases hl : CL.lastOf l t with
    | none =>
      have a := (h.2.2 t).1 hl
      rw [has_true_of_atKey hat] at a; cases a
    | some v' =>
      have := (h.2.2 t).2 v' hl .nil
      rw [hat] at this
      simp at this
      rw [this]
  · exact (h.2.2 t).2 v

/-- What has been collected of a map. -/
def Coll (D : DataW Unit) (left : Lit → Bool) (ss : List CL.Smp) : Prop :=
  ss.Pairwise (fun x y => x.1 ≠ y.1) ∧ ∀ x : CL.Smp, x ∈ ss ↔ (left (.int .i64 x.1) = false ∧ ∀ z, D.atKey (.int .i64 x.1) z = .lit (.int .i64 x.2))

theorem Coll.start (D : DataW Unit) : Coll D (has D) [] := by
  refine ⟨List.Pairwise.nil, fun x => ⟨fun h => absurd h (by simp), fun h => ?_⟩⟩
  have h1 := h.1
  rw [has_true_of_atKey h.2] at h1; cases h1

theorem Coll.step {D : DataW Unit} {left : Lit → Bool} {ss : List CL.Smp} (h : Coll D left ss) {x c : Int} (hl : left (.int .i64 x) = true) (hat : ∀ zd, D.atKey (.int .i64 x) zd = .lit (.int .i64 c)) :
    Coll D (fun z => left z && !z.sameKey (.int .i64 x)) (ss ++ [(x, c)]) := by
  obtain ⟨h1, h2⟩ := h
  refine ⟨?_, fun y => ?_⟩
  · rw [List.pairwise_append]
    refine ⟨h1, List.pairwise_singleton _ _, fun a ha b hb e => ?_⟩
    rw [List.mem_singleton] at hb
    subst hb
    have := ((h2 a).1 ha).1
    simp at e
    rw [e, hl] at this; cases this
  · rw [List.mem_append, List.mem_singleton, h2 y]
    by_cases e : y.1 = x
    · have hs : (Lit.int .i64 y.1).sameKey (.int .i64 x) = true := by simp [Lit.sameKey, e]
      simp only [hs, Bool.not_true, Bool.and_false, true_and]
      constructor
      · rintro (⟨a, _⟩ | rfl)
        · rw [e, hl] at a; cases a
        · exact hat
      · intro hy
        right
        have := hy .nil
        rw [e, hat] at this
        simp at this
        rw [← e, this]
    · have hs : (Lit.int .i64 y.1).sameKey (.int .i64 x) = false := by simp [Lit.sameKey, e]
      simp only [hs, Bool.not_false, Bool.and_true]
      constructor
      · rintro (a | rfl)
        · exact a
        · exact absurd rfl e
      · exact .inl

/-- All of it, in order, is what two lists come to. -/
theorem Coll.whole {D : DataW Unit} {left : Lit → Bool} {ss l' a b : List CL.Smp} (h : Coll D left ss) (hl : ∀ kl, left kl = false) (hT : Tells D (a ++ b)) (ha : CL.Rising a) (hb : CL.Rising b) (hp : l'.Perm ss) (hs : l'.Pairwise fun x y => x.1 ≤ y.1) : l' = CL.mrg a b := by
  refine CL.rising_ext _ _ ?_ (CL.rising_mrg a b ha hb) (fun x => ?_)
  · have hne : l'.Pairwise (fun x y => x.1 ≠ y.1) := (hp.pairwise_iff (fun {x y} h e => h e.symm)).2 h.1
    exact (hs.and hne).imp (fun ⟨h1, h2⟩ => by omega)
  · rw [hp.mem_iff, h.2 x, ← CL.last_mrg a b ha hb, ← hT.iff]
    simp [hl]

end Go.Proofs.Ytdmnlmohfaafoae

namespace Go.Proofs.Ytdmnlmohfaafoae
open Go.RowKit Go.Maps

theorem law64 : Keyed Try.prog 2 := int_keyed Try.underlying2

theorem wf64 {n : Int} (h : -9223372036854775808 ≤ n ∧ n ≤ 9223372036854775807) : (Lit.int .i64 n).wf = true := WalkArith.wf_i64 (by omega)

/-- A slice of one's own, read as one that lies there. -/
theorem ms_own_srow {w : World} {base cap : Nat} {ao : Option Addr} {l : List CL.Smp} (h : w.ownsRow base 47 2 (.slice ao l.length cap) l.length (sv l)) : SRow w ao l := by
  obtain ⟨ao', cap', e, hS⟩ := SRow.of_own h
  simp only [Value.slice.injEq] at e
  rw [e.1]; exact hS

theorem ms_own_slice {w : World} {base n : Nat} {v : Value} {xs : List Value} (h : w.ownsRow base 47 2 v n xs) : ∃ ao cap, v = .slice ao n cap := by
  rcases h.2 with ⟨h, hn⟩ | ⟨g, cap, cur, h, _⟩
  · exact ⟨none, 0, by rw [h, hn]⟩
  · exact ⟨_, _, h⟩

/-- Samples of two lists that lie one behind the other. -/
theorem ms_own_both {w : World} {base : Nat} {v : Value} {a b : List CL.Smp} (h : w.ownsRow base 47 2 v (0 + a.length + b.length) ([] ++ sv a ++ sv b)) :
    ∃ ao n cap, v = .slice ao n cap ∧ Hid (w.ownsRow base 47 2 (.slice ao n cap) (a ++ b).length (sv (a ++ b)) ∧ n = (a ++ b).length) ∧ n ≤ (a ++ b).length ∧ (a ++ b).length ≤ n := by
  obtain ⟨ao, cap, rfl⟩ := ms_own_slice h
  have e : 0 + a.length + b.length = (a ++ b).length := by simp
  rw [e] at h ⊢
  rw [List.nil_append, ← sv_append] at h
  exact ⟨ao, _, cap, rfl, ⟨h, rfl⟩, Nat.le_refl _, Nat.le_refl _⟩

/-- A row of one's own lies behind what is older. -/
theorem ms_row_low {w : World} {base n size : Nat} {e : TypeId} {v : Value} {xs : List Value} (h : w.ownsRow (base + 1) e size v n xs) : some base ≠ v.ownBlock := fun hh => by
  have := (h.lt base hh.symm).1; omega

/-- A variable of one's own that holds a slice. -/
def BoxV (B : Nat) (w : World) (v : Value) : Prop := w.heap[B]? = some (.cells #[v] 42)

theorem BoxV.cell {B : Nat} {w : World} {v : Value} (h : BoxV B w v) : w.cell? ⟨B, 0, none⟩ = some v ∧ w.frozen? ⟨B, 0, none⟩ = false := by
  unfold BoxV at h
  constructor
  · simp only [World.cell?, h]; rfl
  · simp [World.frozen?, h]

theorem BoxV.kept {B : Nat} {w w' : World} {v : Value} {row : Option Nat} (h : BoxV B w v) (hg : w.grownBy w' row) (hne : some B ≠ row) : BoxV B w' v := (hg.block B (heap_lt h) hne).trans h

theorem BoxV.alloc {B : Nat} {w : World} {v : Value} (h : BoxV B w v) (o : Obj) : BoxV B (w.alloc o) v := h.kept (World.grownBy_alloc w o none) (by simp)

theorem BoxV.set {B : Nat} {w : World} {v : Value} (h : BoxV B w v) (u : Value) : BoxV B (w.setCell ⟨B, 0, none⟩ u) u := by
  have := heap_setCell_same w B 0 #[v] 42 u h
  simpa [BoxV] using this

theorem ms_grown_set (w : World) (B : Nat) (u : Value) : w.grownBy (w.setCell ⟨B, 0, none⟩ u) (some B) :=
  ⟨rfl, rfl, rfl, by simp, fun k _ hk => Below.heap_setCell w ⟨B, 0, none⟩ u k (fun e => hk (by rw [e]))⟩

/-- A row of one's own lies behind all that stood when it was begun. -/
theorem ms_row_far {w : World} {base n size k : Nat} {e : TypeId} {v : Value} {xs : List Value} (h : w.ownsRow base e size v n xs) (hk : k < base) : v.ownBlock ≠ some k := fun hh => by
  have := (h.lt k hh).1; omega

theorem ms_own_base {w : World} {base base' n size : Nat} {e : TypeId} {v : Value} {xs : List Value} (h : w.ownsRow base e size v n xs) (hb : base' ≤ base) : w.ownsRow base' e size v n xs := by
  refine ⟨h.1, ?_⟩
  rcases h.2 with h2 | ⟨g, cap, cur, h1, h2, r⟩
  · exact .inl h2
  · exact .inr ⟨g, cap, cur, h1, Nat.le_trans hb h2, r⟩

theorem ms_own_succ {w : World} {base n : Nat} {v : Value} {xs : List Value} (h : w.ownsRow base 47 2 v (n + 1) xs) : ∃ g cap, v = .slice (some ⟨g, 0, none⟩) (n + 1) cap := by
  rcases h.2 with ⟨_, h0⟩ | ⟨g, cap, _, rfl, _⟩
  · omega
  · exact ⟨g, cap, rfl⟩

set_option maxRecDepth 100000 in
set_option maxHeartbeats 3200000 in
theorem rmerge_any (ao bo : Option Addr) (a b : List CL.Smp) (ca cb : Nat) (w : World) (hA : SRow w ao a) (hB : SRow w bo b) (hca : a.length ≤ ca) (hcb : b.length ≤ cb) (hla : a.length ≤ 60) (hlb : b.length ≤ 60) (hna : ao = none → ca = 0) (hnb : bo = none → cb = 0)
    (hRa : ∀ s ∈ a, CL.Rs s) (hRb : ∀ s ∈ b, CL.Rs s) (ha : CL.Rising a) (hb : CL.Rising b) :
    Calls Try.prog 33 #[.slice ao a.length ca, .slice bo b.length cb] w fun e w' => ∃ v, e = .returned v ∧ w'.ownsRow w.heap.size 47 2 v (CL.mrg a b).length (sv (CL.mrg a b)) ∧ Below w.heap.size w w' := by
  have HA := hid hA
  have HB := hid hB
  have HRa := hid hRa
  have HRb := hid hRb
  have Hra := hid ha
  have Hrb := hid hb
  have HNa := hid hna
  have HNb := hid hnb
  clear hA hB hRa hRb ha hb hna hnb
  obtain ⟨ii, hi, hi'⟩ := Option.map_eq_some_iff.1 Try.info47
  simp only [Prod.mk.injEq] at hi'
  obtain ⟨hz0, hz1, hz2⟩ := hi'
  have HI0 := hid hi
  have HZ0 := hid hz0
  have HZ1 := hid hz1
  have HZ2 := hid hz2
  clear hi hz0 hz1 hz2
  have hmm := @run_makeMap Try.prog
  go_enter Try.func33, Try.ntmps33
  have hown0 : ((w.alloc (.map #[] 0)).alloc (.cells #[] 47)).ownsRow (w.heap.size + 1) 47 2 (.slice (some ⟨w.heap.size + 1, 0, none⟩) 0 0) 0 [] := by
    refine ⟨rfl, .inr ⟨w.heap.size + 1, 0, #[], rfl, Nat.le_refl _, ?_, Nat.le_refl _, Nat.zero_le _, rfl, rfl⟩⟩
    have := heap_alloc_new (w.alloc (.map #[] 0)) (.cells #[] 47)
    simpa using this
  have HO0 := hid hown0
  have HM0 := hid ((World.ownsMap_made (H := Unit) w Try.prog 2 (plainElem Try.prog 2)).alloc (.cells #[] 47))
  have HB0 := hid ((((Below.refl w.heap.size w).alloc (Nat.le_refl _) (.map #[] 0))).alloc (by simp) (.cells #[] 47))
  have hs0 : w.heap.size + 1 ≤ ((w.alloc (.map #[] 0)).alloc (.cells #[] 47)).heap.size := by simp
  clear hown0
  go_wp2_with (first
    | (at_builtin; refine wpList_append_src _ rfl (.tmp 12) (.tmp 13) 42 rfl (w.heap.size + 1) 47 ii (.agg #[.int .i64 0, .int .i64 0]) 2 16 Try.underlying42 HI0.out HZ0.out HZ1.out HZ2.out rfl (by decide) (.slice (some ⟨w.heap.size + 1, 0, none⟩) 0 0) 0 [] rfl HO0.out ao a.length ca (sv a) rfl (sv_length _) (fun h => ⟨by have := HNa.out h; omega, HNa.out h⟩) (srow_cells HA.out HB0.out) (sv_i64 _) (by unfold maxLen; omega) (by omega) hs0 ?_; intro v1 w1 hown1 hgrow1; have HO1 := hid hown1; have HB1 := hid (HB0.out.grown hgrow1 HB0.out.size (fun j hj => Nat.le_of_succ_le (HO0.out.lt j hj).1)); have HM1 := hid (HM0.out.kept hgrow1 (ms_row_low HO0.out)); have hs1 := Nat.le_trans hs0 hgrow1.size; clear hown1 hgrow1 hs0)
    | (at_builtin; refine wpList_append_src _ rfl (.tmp 14) (.tmp 15) 42 rfl (w.heap.size + 1) 47 ii (.agg #[.int .i64 0, .int .i64 0]) 2 16 Try.underlying42 HI0.out HZ0.out HZ1.out HZ2.out rfl (by decide) v1 (0 + a.length) ([] ++ sv a) rfl HO1.out bo b.length cb (sv b) rfl (sv_length _) (fun h => ⟨by have := HNb.out h; omega, HNb.out h⟩) (srow_cells HB.out HB1.out) (sv_i64 _) (by unfold maxLen; omega) (by omega) hs1 ?_; intro v2 w2 hown2 hgrow2; have HB2 := hid (HB1.out.grown hgrow2 HB1.out.size (fun j hj => Nat.le_of_succ_le (HO1.out.lt j hj).1)); have HM2 := hid (HM1.out.kept hgrow2 (ms_row_low HO1.out)); have hs2 := Nat.le_trans hs1 hgrow2.size; obtain ⟨a2, n2, c2, hv2, HO2, hn2a, hn2b⟩ := ms_own_both hown2; subst hv2; clear hown2 hgrow2 hs1))
  have HRl : Hid (∀ s ∈ a ++ b, CL.Rs s) := fun s hs => by
    rcases List.mem_append.1 hs with h | h
    · exact HRa.out s h
    · exact HRb.out s h
  have hLl : (a ++ b).length ≤ 120 := by simp; omega
  generalize hL : a ++ b = L at *
  have HL := hid hL
  clear hL
  go_loopw [18] (fun ti wr => ∃ (k : Nat) (D : DataW Unit), k ≤ L.length ∧ ti = .int .i64 k ∧ wr.ownsRow (w.heap.size + 1) 47 2 (.slice a2 n2 c2) L.length (sv L) ∧ wr.ownsMap Try.prog 2 (plainElem Try.prog 2) w.heap.size k D ∧ Tells D (L.take k) ∧ Below w.heap.size w wr ∧ w.heap.size + 1 ≤ wr.heap.size) (fun ti _ => L.length - (intOf ti).toNat)
  case atStart => exact ⟨0, .map [], Nat.zero_le _, rfl, HO2.out.1, HM2.out, Tells.start, HB2.out, hs2⟩
  case round =>
    obtain ⟨k, D, hk, rfl, hown, hmap, htel, hbel, hws⟩ := hrel
    have HO := hid hown
    have HM := hid hmap
    have HT := hid htel
    have HBl := hid hbel
    have hsz := hbel.size
    clear hown hmap htel hbel
    by_cases hlt : k < L.length
    · have hS : SRow wr a2 L := ms_own_srow (by have := HO.out; rw [HO2.out.2] at this; exact this)
      obtain ⟨b0, off, hao, c0, c1, hbs⟩ := hS k hlt
      have HR := hid (HRl.out (CL.at' L k) (by
        have e : CL.at' L k = L[k] := by simp [CL.at', hlt]
        rw [e]; exact List.getElem_mem hlt))
      have HTk : Hid (L.take (k + 1) = L.take k ++ [CL.at' L k]) := by
        show _ = _
        rw [List.take_succ_eq_append_getElem hlt]
        simp [CL.at', hlt]
      clear hS
      subst hao
      generalize CL.at' L k = x at *
      obtain ⟨x1, x2⟩ := x
      simp only at c0 c1
      have hkn : k < n2 := by omega
      go_wp2_with (at_mapUpdate; refine wpList_mapUpdate_own _ rfl _ _ _ 80 rfl 2 2 law64 Try.underlying80 _ w.heap.size k _ rfl (HM.out.alloc _) (by unfold maxLen; omega) _ _ _ rfl rfl (keyOf_int_mk Try.underlying2 (wf64 HR.out.1)) _ [] (plainElem_int Try.underlying2 (wf64 HR.out.2)) ?_; intro w4 hmap4 hgrow4)
      have HG4 := hid hgrow4
      have HM4 := hid hmap4
      clear hmap4 hgrow4
      go_roundw
      case rel =>
        refine ⟨k + 1, _, by omega, by go_num, ?_, HM4.out, ?_, ?_, ?_⟩
        · exact (HO.out.alloc _).kept HG4.out (.inr (ms_row_low HO.out).symm)
        · rw [HTk.out]; exact HT.out.step (x1, x2)
        · exact (HBl.out.alloc hsz _).grown HG4.out (by simp; omega) (fun j hj => by cases hj; exact Nat.le_refl _)
        · have := HG4.out.size
          simp at this; omega
      case measure => simp [intOf]; omega
    · have he : k = L.length := by omega
      subst he
      have HT2 : Hid (Tells D L) := by
        show Tells D L
        have := HT.out
        rwa [List.take_of_length_le (Nat.le_refl _)] at this
      have hDs : Maps.size D ≤ 120 := Nat.le_trans HT2.out.2.1 hLl
      have hB1 : BoxV wr.heap.size (wr.alloc (.cells #[.slice none 0 0] 42)) (.slice none 0 0) := heap_alloc_new wr _
      have HX1 := hid hB1
      have e1 : (wr.alloc (.cells #[.slice none 0 0] 42)).heap.size = wr.heap.size + 1 := by simp
      clear HT hB1
      go_wp2_with (at_range; refine wpList_range_own _ rfl _ 80 rfl 2 2 law64 Try.underlying80 _ w.heap.size L.length _ rfl (HM.out.alloc _) ?_; intro w5 hrg5 hg5 hs5)
      go_frame
      rw [e1] at hrg5 hs5 ⊢
      have hdec : decide (L.length < n2) = false := decide_eq_false (by omega)
      rw [hdec]
      clear hdec
      have HX5 := hid (HX1.out.kept hg5 (by simp))
      have HB5 := hid (((HBl.out.alloc hsz (.cells #[.slice none 0 0] 42))).grown hg5 (by simp; omega) (fun j hj => by cases hj))
      have HR5 := hid hrg5
      have hs5a : wr.heap.size + 1 + 1 ≤ w5.heap.size := by omega
      clear hrg5 hs5 hg5 e1 HX1 HM HBl HO
      generalize wr.heap.size = Bs at *
      go_loopw [9] (fun _ wq => ∃ (left : Lit → Bool) (cnt : Nat) (ss : List CL.Smp) (v : Value), wq.ranges Try.prog 2 (plainElem Try.prog 2) w.heap.size (Bs + 1) L.length D left cnt ∧ ss.length + cnt ≤ Maps.size D ∧ BoxV Bs wq v ∧ wq.ownsRow (Bs + 1 + 1) 47 2 v ss.length (sv ss) ∧ Coll D left ss ∧ Below w.heap.size w wq ∧ Bs + 1 + 1 ≤ wq.heap.size) (fun _ wq => wq.rangeLeft w.heap.size (Bs + 1))
      case atStart => exact ⟨_, _, [], _, HR5.out, by simp, HX5.out, World.ownsRow_nil _ _ _ _, Coll.start D, HB5.out, hs5a⟩
      case round =>
        obtain ⟨left, cnt, ss, v, hrg, hcs, hbox, hown, hcol, hbel, hsq⟩ := hrel
        have HR := hid hrg
        have HX := hid hbox
        have HO := hid hown
        have HC := hid hcol
        have HBl := hid hbel
        have hsz2 := hbel.size
        clear hrg hbox hown hcol hbel
        go_wp2_with (at_next; refine wpList_next_ranges_ii _ rfl _ rfl 2 2 .i64 .i64 law64 Try.underlying2 Try.underlying2 w.heap.size (Bs + 1) L.length _ _ _ rfl HR.out ?_ ?_)
        · intro hc0 hl0
          have HL0 := hid hl0
          have c6 := HX.out.cell.1
          obtain ⟨av, nv, cv, hv, hnv⟩ : ∃ av nv cv, v = .slice av nv cv ∧ nv = ss.length := by
            obtain ⟨av, cv, h⟩ := ms_own_slice HO.out
            exact ⟨av, _, cv, h, rfl⟩
          clear hnv
          subst hv
          have hl62 : ss.length < 4611686018427387904 := by omega
          have HS := hid (sort_any _ _ Bs ss wr HO.out hl62 c6 (heap_lt HX.out) (ms_row_far HO.out (by omega)))
          clear hc0 hl0 hl62
          go_wp2_with fail
          refine HS.out.mono ?_
          rintro e w9 ⟨rfl, l', hp, hs, hown9, hg9⟩
          have c9 := (HX.out.kept hg9 (ms_row_far HO.out (by omega)).symm).cell.1
          have HM9 : Hid (l' = CL.mrg a b) := by
            have hT := HT2.out
            rw [← HL.out] at hT
            exact HC.out.whole HL0.out hT Hra.out Hrb.out hp hs
          have HO9 : Hid (w9.ownsRow w.heap.size 47 2 (.slice av nv cv) (CL.mrg a b).length (sv (CL.mrg a b))) := by
            have h := ms_own_base hown9 (base' := w.heap.size) (by omega)
            rw [← hp.length_eq, HM9.out] at h
            exact h
          have HB9 := hid (HBl.out.grown hg9 hsz2 (fun j hj => by have := (HO.out.lt j hj).1; omega))
          clear hp hs hown9 hg9
          go_wp2_with fail
          go_ret
          exact ⟨_, rfl, HO9.out, HB9.out⟩
        · intro x c w6 cnt6 hwx hwc hlx hat hrg6 hlt6 hg6 hs6 hen
          have HR6 := hid hrg6
          have HC6 := hid (HC.out.step hlx hat)
          have HX6 := hid (HX.out.kept hg6 (by simp))
          have HO6 := hid (HO.out.kept hg6 (.inr (ms_row_far HO.out (by omega))))
          have HB6 := hid (HBl.out.grown hg6 hsz2 (fun j hj => by cases hj; omega))
          have hs6a : Bs + 1 + 1 ≤ w6.heap.size := Nat.le_trans hsq hg6.size
          have c6 := HX6.out.cell.1
          obtain ⟨av, nv, cv, hv, hnv⟩ : ∃ av nv cv, v = .slice av nv cv ∧ nv = ss.length := by
            obtain ⟨av, cv, h⟩ := ms_own_slice HO.out
            exact ⟨av, _, cv, h, rfl⟩
          clear hnv
          subst hv
          clear hrg6 hlx hat hg6 hs6 hwx hwc
          go_wp2_with (at_builtin; refine wpList_append_own _ rfl (.tmp 35) (.tmp 39) 42 rfl (Bs + 1 + 1) 47 ii (.agg #[.int .i64 0, .int .i64 0]) 2 16 Try.underlying42 HI0.out HZ0.out HZ1.out HZ2.out rfl (by decide) _ ss.length (sv ss) rfl (HO6.out.alloc _) ⟨w6.heap.size, 0, none⟩ 1 1 [.int .i64 x, .int .i64 c] rfl rfl (two_news _ _ _ _) (two_i64 _ _) (by unfold maxLen; omega) (by omega) (by simp <;> omega) ?_; intro v7 w7 hown7 hgrow7 _; obtain ⟨g7, cap7, hv7⟩ := ms_own_succ hown7; subst hv7; have HO7 := hid hown7; have HX7 := hid ((HX6.out.alloc _).kept hgrow7 (ms_row_far HO6.out (by omega)).symm); have HR7 := hid ((HR6.out.alloc _).kept hgrow7 (ms_row_far HO6.out (by omega)).symm (ms_row_far HO6.out (by omega)).symm); have HB7 := hid ((HB6.out.alloc (by omega) _).grown hgrow7 (by simp <;> omega) (fun j hj => by have := (HO6.out.lt j hj).1; omega)); have hs7 : Bs + 1 + 1 ≤ w7.heap.size := (by have := hgrow7.size; simp at this; omega); have c7 := HX7.out.cell.1; have f7 := HX7.out.cell.2; clear hown7 hgrow7)
          have HG8 := hid (ms_grown_set w7 Bs (.slice (some ⟨g7, 0, none⟩) (ss.length + 1) cap7))
          have hs8 := HG8.out.size
          have HR8 := hid (HR7.out.kept HG8.out (fun e => by have := Option.some.inj e; omega) (fun e => by have := Option.some.inj e; omega))
          have HRo := hid HR.out.left_eq
          have HR9 := hid HR8.out.left_eq
          go_roundw
          case rel =>
            refine ⟨_, cnt6, ss ++ [(x, c)], _, HR8.out, by simp; omega, HX7.out.set _, ?_, HC6.out, ?_, Nat.le_trans hs7 hs8⟩
            · have := HO7.out.kept HG8.out (.inr (ms_row_far HO7.out (by omega)))
              rw [List.length_append, sv_append]
              exact this
            · exact HB7.out.grown HG8.out (by omega) (fun j hj => by cases hj; omega)
          case measure => rw [HR9.out, HRo.out]; exact hlt6

end Go.Proofs.Ytdmnlmohfaafoae

