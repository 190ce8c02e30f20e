/- Plain facts: a map that tells what buckets of each start come to, and the starts in their first order; what is collected of it. No program in it. -/
import Derived.Test.YtdmnlmohfaafoabDoorRlMem
import Derived.Maps.RangeWalk
import Derived.Maps.OwnOps
import Derived.Maps.OwnSet
namespace Go.Proofs.YtdmnlmohfaafoabDoor
open Go.Maps Go.RowKit

/-- A bucket as a datum. -/
def dB (x : CL.Bkt) : DataW Unit := .agg [.lit (.int .i64 x.st), .lit (.int .i64 x.ct), .lit (.int .i64 x.sm), .lit (.int .i64 x.mn), .lit (.int .i64 x.mx)]

theorem dB_inj (x y : CL.Bkt) (h : dB x = dB y) : x = y := by
  obtain ⟨a, b, c, d, e⟩ := x
  obtain ⟨a', b', c', d', e'⟩ := y
  simp [dB] at h
  simp [h]

/-- How an element of a map of buckets reads. -/
def bktElem : Value → Option (DataW Unit × List MemPlace)
  | .agg ⟨[.int .i64 a, .int .i64 b, .int .i64 c, .int .i64 d, .int .i64 e]⟩ => some (dB ⟨a, b, c, d, e⟩, [])
  | _ => none

theorem bktElem_mk (x : CL.Bkt) : bktElem (aggB x) = some (dB x, []) := rfl

theorem bktElem_inv {v : Value} {z : DataW Unit × List MemPlace} (h : bktElem v = some z) : ∃ x, v = aggB x ∧ z = (dB x, []) := by
  unfold bktElem at h
  split at h
  · rename_i a b c d e
    exact ⟨⟨a, b, c, d, e⟩, rfl, (Option.some.inj h).symm⟩
  · cases h

/-- A map that tells what buckets of each start come to; S: the starts, each once. -/
def TelB (D : DataW Unit) (S : List Int) (l : List CL.Bkt) : Prop :=
  Tidy D ∧ S.length ≤ l.length ∧ S.Pairwise (· ≠ ·) ∧ ∀ t, (t ∈ S ↔ CL.tot l t ≠ none) ∧ (CL.tot l t = none → has D (.int .i64 t) = false) ∧ ∀ b, CL.tot l t = some b → has D (.int .i64 t) = true ∧ ∀ z, D.atKey (.int .i64 t) z = dB b

theorem TelB.start : TelB (.map []) [] [] := ⟨tidy_empty, Nat.le_refl _, List.Pairwise.nil, fun _ => ⟨by simp [CL.tot_nil], fun _ => rfl, fun b h => by cases h⟩⟩

theorem tot_snoc (l : List CL.Bkt) (x : CL.Bkt) (t : Int) : CL.tot (l ++ [x]) t = if x.st = t then CL.oput (CL.tot l t) (some x) else CL.tot l t := by
  rw [CL.tot_append, CL.tot_one]
  unfold CL.one
  split
  · rfl
  · rw [CL.oput_none]

theorem TelB.new {D : DataW Unit} {S : List Int} {l : List CL.Bkt} (h : TelB D S l) (x : CL.Bkt) (hn : CL.tot l x.st = none) : TelB (D.put (.int .i64 x.st) (dB x)) (S ++ [x.st]) (l ++ [x]) := by
  obtain ⟨h1, h2, h3, h4⟩ := h
  refine ⟨h1.put (k := .int .i64 x.st) trivial _, by simp; omega, ?_, fun t => ?_⟩
  · rw [List.pairwise_append]
    refine ⟨h3, List.pairwise_singleton _ _, fun a ha b hb => ?_⟩
    rw [List.mem_singleton] at hb
    subst hb
    intro e
    subst e
    exact ((h4 _).1.1 ha) hn
  · rw [tot_snoc]
    by_cases e : x.st = t
    · subst e
      rw [if_pos rfl, hn]
      refine ⟨by simp [CL.oput], fun h => by simp [CL.oput] at h, fun b hb => ?_⟩
      have hb : x = b := by simpa [CL.oput] using hb
      subst hb
      exact ⟨has_true_of_atKey (fun z => atKey_put_same h1.isMap (k := .int .i64 x.st) trivial _ z), fun z => atKey_put_same h1.isMap (k := .int .i64 x.st) trivial _ z⟩
    · rw [if_neg e]
      obtain ⟨a, b, c⟩ := h4 t
      refine ⟨?_, fun h => ?_, fun b' hb => ?_⟩
      · rw [List.mem_append, List.mem_singleton]
        constructor
        · rintro (h | h)
          · exact a.1 h
          · exact absurd h.symm e
        · exact fun h => .inl (a.2 h)
      · rw [has_put_other (fun e' => e (by simpa using e'.symm))]
        exact b h
      · rw [has_put_other (fun e' => e (by simpa using e'.symm))]
        refine ⟨(c b' hb).1, fun z => ?_⟩
        rw [atKey_put_other (fun e' => e (by simpa using e'.symm))]
        exact (c b' hb).2 z

theorem TelB.more {D : DataW Unit} {S : List Int} {l : List CL.Bkt} (h : TelB D S l) (x c : CL.Bkt) (hn : CL.tot l x.st = some c) : TelB (D.put (.int .i64 x.st) (dB (CL.put c x))) S (l ++ [x]) := by
  obtain ⟨h1, h2, h3, h4⟩ := h
  refine ⟨h1.put (k := .int .i64 x.st) trivial _, by simp; omega, h3, fun t => ?_⟩
  rw [tot_snoc]
  by_cases e : x.st = t
  · subst e
    rw [if_pos rfl, hn]
    refine ⟨?_, fun h => by simp [CL.oput] at h, fun b hb => ?_⟩
    · have := (h4 x.st).1
      rw [hn] at this
      rw [this]
      simp [CL.oput]
    · have hb : CL.put c x = b := by simpa [CL.oput] using hb
      subst hb
      exact ⟨has_true_of_atKey (fun z => atKey_put_same h1.isMap (k := .int .i64 x.st) trivial _ z), fun z => atKey_put_same h1.isMap (k := .int .i64 x.st) trivial _ z⟩
  · rw [if_neg e]
    obtain ⟨a, b, c⟩ := h4 t
    refine ⟨a, fun h => ?_, fun b' hb => ?_⟩
    · rw [has_put_other (fun e' => e (by simpa using e'.symm))]
      exact b h
    · rw [has_put_other (fun e' => e (by simpa using e'.symm))]
      refine ⟨(c b' hb).1, fun z => ?_⟩
      rw [atKey_put_other (fun e' => e (by simpa using e'.symm))]
      exact (c b' hb).2 z

/-- What buckets of a start come to, where there are some. -/
def got (l : List CL.Bkt) (t : Int) : CL.Bkt := (CL.tot l t).getD ⟨0, 0, 0, 0, 0⟩

theorem TelB.at {D : DataW Unit} {S : List Int} {l : List CL.Bkt} (h : TelB D S l) {t : Int} (ht : t ∈ S) (z : DataW Unit) : D.atKey (.int .i64 t) z = dB (got l t) := by
  have hne := (h.2.2.2 t).1.1 ht
  cases hb : CL.tot l t with
  | none => exact absurd hb hne
  | some b =>
    have e : got l t = b := by simp [got, hb]
    rw [e]
    exact ((h.2.2.2 t).2.2 b hb).2 z

theorem got_st (l : List CL.Bkt) (t : Int) (h : CL.tot l t ≠ none) : CL.tot l t = some (got l t) ∧ (got l t).st = t := by
  cases hb : CL.tot l t with
  | none => exact absurd hb h
  | some b =>
    have e : got l t = b := by simp [got, hb]
    rw [e]
    exact ⟨rfl, CL.tot_st l t b hb⟩

/-- The starts in order, each with what its buckets come to. -/
theorem TelB.whole {D : DataW Unit} {S S' : List Int} {l : List CL.Bkt} (h : TelB D S l) (hp : S'.Perm S) (hs : S'.Pairwise (· ≤ ·)) :
    CL.RiseB (S'.map (got l)) ∧ ∀ t, CL.tot (S'.map (got l)) t = CL.tot l t := by
  have hne : S'.Pairwise (· ≠ ·) := (hp.pairwise_iff (fun {x y} h e => h e.symm)).2 h.2.2.1
  have hmem : ∀ t, t ∈ S' ↔ CL.tot l t ≠ none := fun t => by rw [hp.mem_iff]; exact (h.2.2.2 t).1
  have hlt : S'.Pairwise (· < ·) := (hs.and hne).imp fun ⟨h1, h2⟩ => by omega
  have hr : CL.RiseB (S'.map (got l)) := by
    unfold CL.RiseB
    rw [List.pairwise_map]
    refine hlt.imp_of_mem fun {a b} ha hb hab => ?_
    rw [(got_st l a ((hmem a).1 ha)).2, (got_st l b ((hmem b).1 hb)).2]; exact hab
  refine ⟨hr, fun t => ?_⟩
  by_cases ht : t ∈ S'
  · obtain ⟨e1, e2⟩ := got_st l t ((hmem t).1 ht)
    rw [e1]
    exact (CL.tot_rise _ hr t _).2 ⟨List.mem_map_of_mem ht, e2⟩
  · have hn : CL.tot l t = none := by
      cases hb : CL.tot l t with
      | none => rfl
      | some b => exact absurd ((hmem t).2 (by rw [hb]; simp)) ht
    rw [hn, CL.tot_none]
    intro b hb
    obtain ⟨t', ht', rfl⟩ := List.mem_map.1 hb
    rw [(got_st l t' ((hmem t').1 ht')).2]
    intro e
    exact ht (by rw [← e]; exact ht')

/-- 'c, ok := by[t]' in a map of buckets of one's own. -/
theorem wpList_lookup_bkt {P : Program} (w : World) {ops : Array Oper} {rest : List Oper} {o : Oper} {a : Act} {Q : Exit → Act → World → Prop}
    (hg : o.guard = none) (m x : Operand) (t : TypeId) (hop : o.op = Op.lookup t m x true)
    (k e : TypeId) (K : Keyed P k) (ht : P.underlying t = some (.map k e)) (hz : (zeroValue e).run P w = .ok (aggB ⟨0, 0, 0, 0, 0⟩) w) (b n : Nat) (D : DataW Unit)
    (hm : a.eval m = .map (some b)) (hown : w.ownsMap P k bktElem b n D) (key : Value) (kl : Lit) (hx : a.eval x = key) (hkey : keyOf P k key = some kl)
    (hK : ∀ c : CL.Bkt, D.atKey kl (dB ⟨0, 0, 0, 0, 0⟩) = dB c → wpList P ops Q rest (a.put o.dst (.tuple #[.agg #[.int .i64 c.st, .int .i64 c.ct, .int .i64 c.sm, .int .i64 c.mn, .int .i64 c.mx], .bool (Maps.has D kl)])) w) :
    wpList P ops Q (o :: rest) a w :=
  wpList_lookup_own_ok w hg m x t hop k e K ht bktElem hz _ [] (bktElem_mk _) b n D hm hown key kl hx hkey (fun v ps hv => by
    obtain ⟨c, rfl, hc⟩ := bktElem_inv hv
    exact hK c (congrArg Prod.fst hc))

/-- .. where there is one. -/
theorem wpList_lookup_hit {P : Program} (w : World) {ops : Array Oper} {rest : List Oper} {o : Oper} {a : Act} {Q : Exit → Act → World → Prop}
    (hg : o.guard = none) (m x : Operand) (t : TypeId) (hop : o.op = Op.lookup t m x true)
    (k e : TypeId) (K : Keyed P k) (ht : P.underlying t = some (.map k e)) (hz : (zeroValue e).run P w = .ok (aggB ⟨0, 0, 0, 0, 0⟩) w) (b n : Nat) (D : DataW Unit)
    (hm : a.eval m = .map (some b)) (hown : w.ownsMap P k bktElem b n D) (key : Value) (kl : Lit) (hx : a.eval x = key) (hkey : keyOf P k key = some kl)
    (c : CL.Bkt) (hat : has D kl = true ∧ ∀ z, D.atKey kl z = dB c)
    (hK : wpList P ops Q rest (a.put o.dst (.tuple #[.agg #[.int .i64 c.st, .int .i64 c.ct, .int .i64 c.sm, .int .i64 c.mn, .int .i64 c.mx], .bool true])) w) :
    wpList P ops Q (o :: rest) a w :=
  wpList_lookup_bkt w hg m x t hop k e K ht hz b n D hm hown key kl hx hkey (fun c' hc' => by
    have e : c' = c := dB_inj _ _ (hc'.symm.trans (hat.2 _))
    rw [e, hat.1]; exact hK)

/-- .. where there is none. -/
theorem wpList_lookup_miss {P : Program} (w : World) {ops : Array Oper} {rest : List Oper} {o : Oper} {a : Act} {Q : Exit → Act → World → Prop}
    (hg : o.guard = none) (m x : Operand) (t : TypeId) (hop : o.op = Op.lookup t m x true)
    (k e : TypeId) (K : Keyed P k) (ht : P.underlying t = some (.map k e)) (hz : (zeroValue e).run P w = .ok (aggB ⟨0, 0, 0, 0, 0⟩) w) (b n : Nat) (D : DataW Unit)
    (hm : a.eval m = .map (some b)) (hown : w.ownsMap P k bktElem b n D) (key : Value) (kl : Lit) (hx : a.eval x = key) (hkey : keyOf P k key = some kl)
    (hat : has D kl = false)
    (hK : ∀ c0 c1 c2 c3 c4 : Int, wpList P ops Q rest (a.put o.dst (.tuple #[.agg #[.int .i64 c0, .int .i64 c1, .int .i64 c2, .int .i64 c3, .int .i64 c4], .bool false])) w) :
    wpList P ops Q (o :: rest) a w :=
  wpList_lookup_bkt w hg m x t hop k e K ht hz b n D hm hown key kl hx hkey (fun c' _ => by
    rw [hat]; exact hK _ _ _ _ _)

/-- 'by[t]' in a map of buckets of one's own. -/
theorem wpList_lookup_bkt1 {P : Program} (w : World) {ops : Array Oper} {rest : List Oper} {o : Oper} {a : Act} {Q : Exit → Act → World → Prop}
    (hg : o.guard = none) (m x : Operand) (t : TypeId) (hop : o.op = Op.lookup t m x false)
    (k e : TypeId) (K : Keyed P k) (ht : P.underlying t = some (.map k e)) (hz : (zeroValue e).run P w = .ok (aggB ⟨0, 0, 0, 0, 0⟩) w) (b n : Nat) (D : DataW Unit)
    (hm : a.eval m = .map (some b)) (hown : w.ownsMap P k bktElem b n D) (key : Value) (kl : Lit) (hx : a.eval x = key) (hkey : keyOf P k key = some kl)
    (c : CL.Bkt) (hat : ∀ z, D.atKey kl z = dB c)
    (hK : wpList P ops Q rest (a.put o.dst (.agg #[.int .i64 c.st, .int .i64 c.ct, .int .i64 c.sm, .int .i64 c.mn, .int .i64 c.mx])) w) :
    wpList P ops Q (o :: rest) a w := by
  refine wpList_plain hg fun K' hK' => ?_
  obtain ⟨v, ps, hrun, hv⟩ := hown.lookup K ht hz (bktElem_mk _) hkey
  obtain ⟨c', rfl, hc⟩ := bktElem_inv hv
  have e : c' = c := dB_inj _ _ ((congrArg Prod.fst hc).symm.trans (hat _))
  subst e
  unfold Oper.wp
  simp [execOp, hop, hm, hx, hrun, Result.andThen]
  exact hK' _ _ hK

end Go.Proofs.YtdmnlmohfaafoabDoor
