/- A region that draws its order, whose calls answer one value each and leave a world of a class: step by step, in the order of the text. A region that draws its order, in which calls that write stand one behind the other, and all else reads what no call writes: that is taken first, whatever the order; then the calls are walked one by one. A region that draws its order, told operation by operation: what is told of a value stays told, whatever else is done ahead of its use. Names no function. -/
import Derived.BigQuiet
import Derived.RowKit
namespace Go.Proofs.YtdmnlmohfaafoadGreatDoor
open Go.RowKit

section
variable {P : Program} {ops : Array Oper} {C : World → Prop} {Q : Act → Prop} {o : Oper} {rest : List Oper} {a : Act}

theorem q_run (v : Value) (hw : Region.wanted o (yielded ops a.tmps) = true) (h : ∀ W, C W → (execOp a.eval o).run P W = .ok (.value v) W) (hk : wpQuiet P ops C Q rest (a.put o.dst v)) : wpQuiet P ops C Q (o :: rest) a :=
  BigFrame.wpQuiet_want hw fun K hK => ⟨v, fun W hW => by unfold Oper.quietAt; rw [h W hW]; exact ⟨rfl, rfl⟩, hK _ hk⟩

theorem q_index (v : Value) {t : TypeId} {x y : Operand} {u k : Value} (hw : Region.wanted o (yielded ops a.tmps) = true) (h : o.op = .indexAddr t x y) (hx : a.eval x = u) (hy : a.eval y = k) (hr : ∀ w, (Instr.indexAt t u k).run P w = .ok v w) (hk : wpQuiet P ops C Q rest (a.put o.dst v)) : wpQuiet P ops C Q (o :: rest) a :=
  q_run v hw (fun W _ => by unfold execOp; rw [h]; simp [hx, hy, hr]) hk

theorem q_load (v : Value) {t : TypeId} {x : Operand} {u : Value} (hw : Region.wanted o (yielded ops a.tmps) = true) (h : o.op = .load t x) (hx : a.eval x = u) (hr : ∀ w, C w → (Instr.loadAt t u).run P w = .ok v w) (hk : wpQuiet P ops C Q rest (a.put o.dst v)) : wpQuiet P ops C Q (o :: rest) a :=
  q_run v hw (fun W hW => by unfold execOp; rw [h]; simp [hx, hr W hW]) hk

theorem q_call (v : Value) {f : FuncId} {args : Array Value} (hw : Region.wanted o (yielded ops a.tmps) = true) (h : ∀ W, (execOp a.eval o).run P W = .ok (.enter f args) W) (hc : ∀ W, C W → Calls P f args W fun e w' => e = .returned v ∧ C w') (hk : wpQuiet P ops C Q rest (a.put o.dst v)) : wpQuiet P ops C Q (o :: rest) a :=
  BigFrame.wpQuiet_want hw fun K hK => ⟨v, fun W hW => by unfold Oper.quietAt; rw [h W]; exact ⟨rfl, hc W hW⟩, hK _ hk⟩

theorem wp_region_class {id : Nat} {Q : Exit → Act → World → Prop} {w : World} {l : List Oper} (C : World → Prop) (hm : P.follows .mixedOrders = true) (hB : Region.lexB .any l.toArray = true) (hC : C w.drew)
    (h : wpQuiet P l.toArray C (fun a' => ∀ w', C w' → Q .normal a' w') l a) : (Code.region id l.toArray true).wp P Q a w :=
  wp_region_quiet (C := C) hm hB hC (by simpa using h)

end

end Go.Proofs.YtdmnlmohfaafoadGreatDoor

namespace Go.Proofs.YtdmnlmohfaafoadGreatDoor
open Go.RowKit

section
variable {P : Program} {md : Region.Mode} {ops : Array Oper} {C : World → Prop} {Q : Exit → Act → World → Prop}

/-- Whatever the order from here on; C holds all the way. -/
def anyC (P : Program) (md : Region.Mode) (ops : Array Oper) (C : World → Prop) (Q : Exit → Act → World → Prop) : Nat → Array Bool → Act → World → Prop
  | 0, listed, a, w => C w ∧ Region.ready md ops listed = [] ∧ Q .normal a w
  | fuel + 1, listed, a, w => C w ∧ (Region.ready md ops listed = [] → Q .normal a w) ∧ ∀ i ∈ Region.ready md ops listed, wpOp P ops Q i (anyC P md ops C Q fuel (listed.setIfInBounds i true)) a w

theorem anyC.any : ∀ {fuel : Nat} {listed : Array Bool} {a : Act} {w : World}, anyC P md ops C Q fuel listed a w → wpAny P md ops Q fuel listed a w
  | 0, _, _, _, h => h.2
  | _ + 1, _, _, _, h => ⟨h.2.1, fun i hi => wpOp_mono (fun _ _ h => anyC.any h) (h.2.2 i hi)⟩

theorem anyC.here {fuel : Nat} {listed : Array Bool} {a : Act} {w : World} (h : anyC P md ops C Q fuel listed a w) : C w := by
  cases fuel <;> exact h.1

/-- An operation that yields v wherever C holds, or calls what answers v and leaves the world. -/
def YC (P : Program) (C : World → Prop) (o : Oper) (v : Value) (a : Act) : Prop :=
  ∀ w, C w → (execOp a.eval o).run P w = .ok (.value v) w ∨ ∃ f args, (execOp a.eval o).run P w = .ok (.enter f args) w ∧ Calls P f args w fun e w' => e = .returned v ∧ w' = w

theorem YC.go {i : Nat} {o : Oper} {v : Value} {a : Act} {K : Act → World → Prop} {w : World} (hi : ops[i]? = some o) (hg : o.guard = none) (hy : YC P C o v a) (hC : C w) (h : K (a.put o.dst v) w) : wpOp P ops Q i K a w := by
  have hw : Region.wanted o (yielded ops a.tmps) = true := by unfold Region.wanted; rw [hg]
  unfold wpOp
  simp only [hi, hw, if_true, Oper.wp]
  refine .inl ?_
  rcases hy w hC with h1 | ⟨f, args, h1, h2⟩
  · rw [h1]; exact h
  · rw [h1]
    refine Calls.mono h2 fun e w' he => ?_
    obtain ⟨rfl, rfl⟩ := he
    exact h

/-- What another operation, apart from it, leaves of it: the same act but for one slot. -/
theorem putC {j : Nat} {oi oj : Oper} {v : Value} (hj : ops[j]? = some oj) (hap : oi.apart ops oj = true) (hsi : ∀ cs b, oi.op ≠ .select cs b) (hsj : ∀ cs b, oj.op ≠ .select cs b) (hQ : ∀ c a w, ¬ Q (.panic c) a w) {K : Act → World → Prop} {a : Act} {w : World}
    (hy : YC P C oi v a) (h : wpOp P ops Q j K (a.put oi.dst v) w) : wpOp P ops Q j (fun a' w' => YC P C oi v a' ∧ K (a'.put oi.dst v) w') a w := by
  obtain ⟨h1, h2, h3⟩ := Oper.apart_spec hap
  have hex := execOp_put oj hsj a oi.dst v h1
  have hkeep : ∀ u, YC P C oi v (a.put oj.dst u) := fun u w hw => by rw [execOp_put oi hsi a oj.dst u h3]; exact hy w hw
  have hkeepD : ∀ d u, YC P C oi v (Act.put { a with defers := d :: a.defers } oj.dst u) := fun d u w hw => by
    rw [execOp_put oi hsi _ oj.dst u h3]
    exact hy w hw
  have hK : ∀ u w', K ((a.put oi.dst v).put oj.dst u) w' → YC P C oi v (a.put oj.dst u) ∧ K ((a.put oj.dst u).put oi.dst v) w' := fun u w' hk => ⟨hkeep u, by rw [← Act.put_comm a v u h2]; exact hk⟩
  unfold wpOp at h ⊢
  simp only [hj] at h ⊢
  rw [wanted_put oj a oi.dst v h1] at h
  by_cases hw : Region.wanted oj (yielded ops a.tmps) = true
  · simp only [hw, if_true] at h ⊢
    rcases h with h | ⟨h, hl⟩
    · refine .inl ?_
      unfold Oper.wp at h ⊢
      rw [hex] at h
      revert h
      generalize (execOp a.eval oj).run P w = r
      intro h
      rcases r with ⟨n, w'⟩ | ⟨x, w'⟩
      · cases n with
        | value u => exact hK u w' h
        | skip => exact hK undef w' h
        | enter f args =>
          refine Calls.mono h fun e w'' he => ?_
          cases e with
          | returned u => exact hK u w'' he
          | panicked c => exact absurd he (hQ _ _ _)
          | outgrown => exact he
        | row row args => exact Rows.mono h fun u w'' he => hK u w'' he
        | defer d =>
          refine ⟨hkeepD d undef, ?_⟩
          have e1 := Act.put_comm { a with defers := d :: a.defers } (x := oi.dst) (y := oj.dst) v undef h2
          rw [← e1, ← Act.put_defers]
          exact h
        | _ => exact h
      · cases x with
        | panic u => exact absurd h (hQ _ _ _)
        | _ => exact h
    · refine .inr ⟨?_, hl⟩
      unfold Oper.asks at h ⊢
      rw [hex] at h
      exact h
  · simp only [hw] at h ⊢
    exact hK undef w h

/-- What only reads where C holds is taken first. -/
theorem anyC.first {i : Nat} {oi : Oper} {v : Value} (hi : ops[i]? = some oi) (hg : oi.guard = none) (hs : Region.noSelect ops = true) (hQ : ∀ c a w, ¬ Q (.panic c) a w) :
    ∀ (fuel : Nat) (listed : Array Bool) (a : Act) (w : World), (∀ j oj, ops[j]? = some oj → j ≠ i → listed.getD j true = false → (∀ e ∈ oj.after, Region.binds md e = true → e.on ≠ i) → oi.apart ops oj = true) →
      i ∈ Region.ready md ops listed → YC P C oi v a → anyC P md ops C Q fuel (listed.setIfInBounds i true) (a.put oi.dst v) w → anyC P md ops C Q (fuel + 1) listed a w := by
  have hsel := Region.noSelect_spec hs
  intro fuel
  induction fuel with
  | zero =>
    intro listed a w _ hr hy H
    refine ⟨H.1, fun h => (by rw [h] at hr; cases hr), fun j hj => ?_⟩
    rcases Nat.decEq j i with hji | hji
    · have h1 := ready_mono hj hji
      rw [H.2.1] at h1
      cases h1
    · subst hji
      exact hy.go hi hg H.1 H
  | succ fuel ih =>
    intro listed a w hfree hr hy H
    refine ⟨H.1, fun h => (by rw [h] at hr; cases hr), fun j hj => ?_⟩
    rcases Nat.decEq j i with hji | hji
    · have h1 := H.2.2 j (ready_mono hj hji)
      obtain ⟨hun, oj, hoj, hall⟩ := mem_ready.1 hj
      have h0 := (mem_ready.1 hr).1
      have hno : ∀ e ∈ oj.after, Region.binds md e = true → e.on ≠ i := by
        intro e he hb heq
        have h2 := hall e he hb
        rw [heq] at h2
        by_cases hlt : i < listed.size
        · simp [hlt] at h0 h2
          rw [h0] at h2; cases h2
        · simp [hlt] at h2
      refine wpOp_mono (fun a' w' h3 => ih (listed.setIfInBounds j true) a' w' ?_ (ready_mono hr (fun e => hji e.symm)) h3.1 ?_) (putC hoj (hfree j oj hoj hji hun hno) (fun cs b => hsel i oi cs b hi) (fun cs b => hsel j oj cs b hoj) hQ hy h1)
      · intro k ok hk hki hku hkn
        refine hfree k ok hk hki ?_ hkn
        by_cases hjk : j = k
        · subst hjk; exact hun
        · rw [getD_set_ne true hjk] at hku; exact hku
      · rw [Array.setIfInBounds_comm _ _ hji]
        exact h3.2
    · subst hji
      exact hy.go hi hg H.1 H

theorem anyC.take {i : Nat} {oi : Oper} {v : Value} {fuel : Nat} {listed : Array Bool} {a : Act} {w : World} (hi : ops[i]? = some oi) (hg : oi.guard = none) (hs : Region.noSelect ops = true) (hf : Region.free md ops listed i = true) (hr : (Region.ready md ops listed).contains i = true) (hQ : ∀ c a w, ¬ Q (.panic c) a w)
    (hy : YC P C oi v a) (h : anyC P md ops C Q fuel (listed.setIfInBounds i true) (a.put oi.dst v) w) : anyC P md ops C Q (fuel + 1) listed a w :=
  anyC.first hi hg hs hQ fuel listed a w (Region.free_spec hi hf) (by simpa using hr) hy h

/-- What is asked behind an operation that stands alone: C, and the next ones one by one. -/
def SeqQ (P : Program) (ops : Array Oper) (C : World → Prop) (Q : Exit → Act → World → Prop) : List Oper → Exit → Act → World → Prop
  | [], .normal, a, w => C w ∧ Q .normal a w
  | o :: os, .normal, a, w => C w ∧ wpList P ops (SeqQ P ops C Q os) [o] a w
  | _, e, a, w => Q e a w

theorem SeqQ.outs {os : List Oper} (h : LetsOut (SeqQ P ops C Q os)) : LetsOut Q := by
  obtain ⟨a, w, h⟩ := h
  cases os <;> exact ⟨a, w, h⟩

theorem SeqQ.exits {o : Oper} {os : List Oper} {a : Act} {w : World} {K : Act → World → Prop} (h : o.wp P a w K (SeqQ P ops C Q os)) : o.wp P a w K Q := by
  unfold Oper.wp at *
  generalize (execOp a.eval o).run P w = r at *
  cases r with
  | ok n w' =>
    cases n <;> simp only [Oper.upon] at h ⊢ <;>
      first
        | exact h
        | exact Calls.mono h (fun e w'' he => by
            cases e with
            | returned u => exact he
            | panicked c => cases os <;> exact he
            | outgrown => exact SeqQ.outs he)
  | halt x w' =>
    cases x <;> simp only [Oper.upon] at h ⊢ <;>
      first
        | exact h
        | (cases os <;> exact h)

/-- An operation that stands alone. -/
theorem anyC.one {o : Oper} {os : List Oper} {i fuel : Nat} {listed : Array Bool} {a : Act} {w : World} (hi : ops[i]? = some o) (hg : o.guard = none) (hr : Region.ready md ops listed = [i]) (hC : C w)
    (hk : ∀ a w, SeqQ P ops C Q os .normal a w → anyC P md ops C Q fuel (listed.setIfInBounds i true) a w) (h : wpList P ops (SeqQ P ops C Q os) [o] a w) : anyC P md ops C Q (fuel + 1) listed a w := by
  refine ⟨hC, fun h1 => (by rw [hr] at h1; cases h1), fun j hj => ?_⟩
  rw [hr] at hj
  have hij : j = i := by simpa using hj
  subst hij
  have hw : Region.wanted o (yielded ops a.tmps) = true := by unfold Region.wanted; rw [hg]
  unfold wpOp
  simp only [hi, hw, if_true]
  simp only [wpList, hw, if_true] at h
  exact h.imp (fun h => SeqQ.exits (os := os) (Oper.wp_mono hk h)) (fun h => ⟨h.1, SeqQ.outs h.2⟩)

/-- No exit but the plain one. -/
def OnlyC (Q : Exit → Act → World → Prop) (e : Exit) (a : Act) (w : World) : Prop := e = .normal ∧ Q .normal a w

/-- What only reads, one behind the other, each as it is in every world where C holds; then the rest. -/
def takes (P : Program) (C : World → Prop) : List Oper → (Act → Prop) → Act → Prop
  | [], K, a => K a
  | o :: os, K, a => ∃ v, YC P C o v a ∧ takes P C os K (a.put o.dst v)

def soloB (ops : Array Oper) : List Nat → Array Bool → Bool
  | [], l => decide (Region.ready .any ops l = [])
  | j :: js, l => decide (Region.ready .any ops l = [j]) && soloB ops js (l.setIfInBounds j true)

/-- What the kernel reckons of the region: first the numbers is are free and ready, one behind the other; then the numbers js stand alone. -/
def takesB (ops : Array Oper) (js : List Nat) : List Nat → Array Bool → Bool
  | [], l => soloB ops js l
  | i :: is, l => Region.free .any ops l i && (Region.ready .any ops l).contains i && takesB ops js is (l.setIfInBounds i true)

/-- The operations of these numbers, none of them guarded. -/
def opsAt (ops : Array Oper) (is : List Nat) (os : List Oper) : Prop := is.map (fun i => ops[i]?) = os.map some ∧ ∀ o ∈ os, o.guard = none

theorem opsAt.cons {i : Nat} {is : List Nat} {o : Oper} {os : List Oper} (h : opsAt ops (i :: is) (o :: os)) : ops[i]? = some o ∧ o.guard = none ∧ opsAt ops is os := by
  obtain ⟨h1, h2⟩ := h
  simp only [List.map_cons, List.cons.injEq] at h1
  exact ⟨h1.1, h2 o (by simp), h1.2, fun x hx => h2 x (by simp [hx])⟩

theorem seq_any : ∀ {js : List Nat} {os : List Oper} {l : Array Bool} {a : Act} {w : World}, opsAt ops js os → soloB ops js l = true → SeqQ P ops C Q os .normal a w → anyC P .any ops C Q js.length l a w
  | [], [], l, a, w, _, hB, h => ⟨h.1, by simpa [soloB] using hB, h.2⟩
  | j :: js, o :: os, l, a, w, ho, hB, h => by
    obtain ⟨h1, h2, h3⟩ := ho.cons
    simp only [soloB, Bool.and_eq_true, decide_eq_true_eq] at hB
    exact anyC.one h1 h2 hB.1 h.1 (fun a w h => seq_any h3 hB.2 h) h.2
  | [], o :: os, l, a, w, ho, _, _ => by have := ho.1; simp at this
  | j :: js, [], l, a, w, ho, _, _ => by have := ho.1; simp at this

theorem takes_any (hs : Region.noSelect ops = true) (hQ : ∀ c a w, ¬ Q (.panic c) a w) {js : List Nat} {ps : List Oper} (hp : opsAt ops js ps) {w : World} : ∀ {is : List Nat} {os : List Oper} {l : Array Bool} {a : Act}, opsAt ops is os → takesB ops js is l = true → takes P C os (fun a => SeqQ P ops C Q ps .normal a w) a → anyC P .any ops C Q (is.length + js.length) l a w
  | [], [], l, a, _, hB, h => by
    rw [List.length_nil, Nat.zero_add]
    exact seq_any hp hB h
  | i :: is, o :: os, l, a, ho, hB, h => by
    obtain ⟨h1, h2, h3⟩ := ho.cons
    simp only [takesB, Bool.and_eq_true] at hB
    obtain ⟨v, hy, hk⟩ := h
    have e : (i :: is).length + js.length = is.length + js.length + 1 := by simp; omega
    rw [e]
    exact anyC.take h1 h2 hs hB.1.1 hB.1.2 hQ hy (takes_any hs hQ hp h3 hB.2 hk)
  | [], o :: os, l, a, ho, _, _ => by have := ho.1; simp at this
  | i :: is, [], l, a, ho, _, _ => by have := ho.1; simp at this

/-- The law. -/
theorem wp_region_takes {id : Nat} {a : Act} {w : World} (C : World → Prop) (is js : List Nat) (os ps : List Oper) (hm : P.follows .mixedOrders = true) (hs : Region.noSelect ops = true) (hB : takesB ops js is (Array.replicate ops.size false) = true) (hlen : is.length + js.length = ops.size) (ho : opsAt ops is os) (hp : opsAt ops js ps)
    (h : takes P C os (fun a => SeqQ P ops C (OnlyC Q) ps .normal a w.drew) a) : (Code.region id ops true).wp P Q a w :=
  Code.wp_mono (Q := OnlyC Q) (fun e a w h => by obtain ⟨rfl, h⟩ := h; exact h) (wp_region_any hm (by
    have := takes_any (Q := OnlyC Q) hs (fun _ _ _ h => nomatch h.1) hp ho hB h
    rw [hlen] at this
    exact this.any))

theorem SeqQ.on {o : Oper} {os : List Oper} {a : Act} {w : World} (hC : C w) (h : wpList P ops (SeqQ P ops C Q os) [o] a w) : SeqQ P ops C Q (o :: os) .normal a w := ⟨hC, h⟩

theorem SeqQ.done {a : Act} {w : World} (hC : C w) (h : Q .normal a w) : SeqQ P ops C (OnlyC Q) [] .normal a w := ⟨hC, rfl, h⟩

theorem takes.on {o : Oper} {os : List Oper} {K : Act → Prop} {a : Act} {v : Value} (h : YC P C o v a) (hk : takes P C os K (a.put o.dst v)) : takes P C (o :: os) K a := ⟨v, h, hk⟩

theorem takes.off {o : Oper} {os : List Oper} {a : Act} {w : World} (hC : C w) (h : wpList P ops (SeqQ P ops C Q os) [o] a w) : takes P C [] (fun a => SeqQ P ops C Q (o :: os) .normal a w) a := ⟨hC, h⟩

theorem YC.move {o : Oper} {a : Act} {x : Operand} {v : Value} (h : o.op = .move x) (hx : a.eval x = v) : YC P C o v a := fun w _ => .inl (by rw [← hx]; exact BigFrame.run_move x h w)

theorem YC.field {o : Oper} {a : Act} {t : TypeId} {x : Operand} {k : Nat} {v u : Value} (h : o.op = .fieldAddr t x k) (hx : a.eval x = u) (hr : ∀ w, (Instr.fieldAt t u k).run P w = .ok v w) : YC P C o v a := fun w _ => .inl (by
  unfold execOp
  rw [h]
  simp [hx, hr])

theorem YC.load {o : Oper} {a : Act} {t : TypeId} {x : Operand} {v u : Value} (h : o.op = .load t x) (hx : a.eval x = u) (hr : ∀ w, C w → (Instr.loadAt t u).run P w = .ok v w) : YC P C o v a := fun w hw => .inl (by
  unfold execOp
  rw [h]
  simp [hx, hr w hw])

theorem YC.lookup {o : Oper} {a : Act} {t : TypeId} {m x : Operand} {v u y : Value} (h : o.op = .lookup t m x false) (hm : a.eval m = u) (hx : a.eval x = y) (hr : ∀ w, C w → (Instr.lookup t u y false).run P w = .ok v w) : YC P C o v a := fun w hw => .inl (by
  unfold execOp
  rw [h]
  simp [hm, hx, hr w hw])

theorem YC.call {o : Oper} {a : Act} {f : FuncId} {vs : Array Value} {v : Value} (hr : ∀ w, (execOp a.eval o).run P w = .ok (.enter f vs) w) (hc : ∀ w, C w → Calls P f vs w fun e w' => e = .returned v ∧ w' = w) : YC P C o v a := fun w hw => .inr ⟨f, vs, hr w, hc w hw⟩

def plainB (ops : Array Oper) (is : List Nat) : Bool := is.all fun i => match ops[i]? with
  | some o => o.guard.isNone
  | none => false

theorem opsAt_of : ∀ {is : List Nat}, plainB ops is = true → opsAt ops is (is.filterMap fun i => ops[i]?)
  | [], _ => ⟨rfl, by simp⟩
  | i :: is, h => by
    simp only [plainB, List.all_cons, Bool.and_eq_true] at h
    obtain ⟨h1, h2⟩ := h
    obtain ⟨h3, h4⟩ := opsAt_of (is := is) h2
    cases ho : ops[i]? with
    | none => rw [ho] at h1; cases h1
    | some o =>
      rw [ho] at h1
      rw [List.filterMap_cons, ho]
      refine ⟨by rw [List.map_cons, List.map_cons, h3, ho], fun x hx => ?_⟩
      rcases List.mem_cons.1 hx with rfl | hx
      · simpa using h1
      · exact h4 x hx

/-- The law, its operations told by their numbers. -/
theorem wp_region_take {id : Nat} {a : Act} {w : World} (C : World → Prop) (is js : List Nat) (hm : P.follows .mixedOrders = true) (hB : (Region.noSelect ops && takesB ops js is (Array.replicate ops.size false) && decide (is.length + js.length = ops.size) && plainB ops is && plainB ops js) = true)
    (h : takes P C (is.filterMap fun i => ops[i]?) (fun a => SeqQ P ops C (OnlyC Q) (js.filterMap fun i => ops[i]?) .normal a w.drew) a) : (Code.region id ops true).wp P Q a w := by
  simp only [Bool.and_eq_true, decide_eq_true_eq] at hB
  obtain ⟨⟨⟨⟨h1, h2⟩, h3⟩, h4⟩, h5⟩ := hB
  exact wp_region_takes C is js _ _ hm h1 h2 h3 (opsAt_of h4) (opsAt_of h5) h

end

end Go.Proofs.YtdmnlmohfaafoadGreatDoor

namespace Go.Proofs.YtdmnlmohfaafoadGreatDoor
open Go.RowKit

namespace TL

/-- How many are not done yet. -/
def left (l : List Bool) : Nat := (l.filter fun b => !b).length

theorem left_set : ∀ (l : List Bool) (i : Nat), l[i]? = some false → left (l.set i true) + 1 = left l
  | [], i, h => by simp at h
  | b :: l, 0, h => by
    simp only [List.getElem?_cons_zero, Option.some.injEq] at h
    subst h
    simp [left]
  | b :: l, i + 1, h => by
    simp only [List.getElem?_cons_succ] at h
    have := left_set l i h
    simp only [left, List.set_cons_succ, List.filter_cons] at this ⊢
    cases b <;> simp at this ⊢ <;> omega

theorem left_zero : ∀ (l : List Bool), left l = 0 → ∀ i, l.getD i true = true
  | [], _, i => by simp
  | b :: l, h, i => by
    cases b with
    | false => simp [left] at h
    | true =>
      have h' : left l = 0 := by simpa [left] using h
      cases i with
      | zero => simp
      | succ i => simpa using left_zero l h' i

section
variable {P : Program} {ops : Array Oper}

/-- Where an operation's value goes. -/
def dstAt (ops : Array Oper) (i : Nat) : Option Tmp := match ops[i]? with
  | some o => o.dst
  | none => none

theorem dstAt_eq {i : Nat} {o : Oper} (h : ops[i]? = some o) : dstAt ops i = o.dst := by unfold dstAt; rw [h]

/-- The value that an operation left. -/
def valAt (ops : Array Oper) (a : Act) (i : Nat) : Value := match dstAt ops i with
  | some d => a.tmps.getD d undef
  | none => undef

/-- All but what the region's operations leave is as it was. -/
structure Like (ops : Array Oper) (a0 a : Act) : Prop where
  defers : a.defers = a0.defers
  size : a.tmps.size = a0.tmps.size
  slot : ∀ t, (∀ i, dstAt ops i ≠ some t) → a.tmps.getD t undef = a0.tmps.getD t undef

/-- Nothing but the plain end. -/
def Only (Q : Exit → Act → World → Prop) (e : Exit) (a : Act) (w : World) : Prop := e = .normal ∧ Q .normal a w

/-- An operation that leaves a value and a world of which Φ holds. -/
def Does (P : Program) (o : Oper) (a : Act) (w : World) (Φ : Value → World → Prop) : Prop :=
  (∃ v w', (execOp a.eval o).run P w = .ok (.value v) w' ∧ Φ v w') ∨ (∃ w', (execOp a.eval o).run P w = .ok .skip w' ∧ Φ undef w') ∨
  ∃ f args w', (execOp a.eval o).run P w = .ok (.enter f args) w' ∧ Calls P f args w' fun e w'' => ∃ v, e = .returned v ∧ Φ v w''

theorem Does.wp {o : Oper} {a : Act} {w : World} {Φ : Value → World → Prop} {K : Act → World → Prop} {Q : Exit → Act → World → Prop} (h : Does P o a w Φ) (hk : ∀ v w', Φ v w' → K (a.put o.dst v) w') : o.wp P a w K Q := by
  unfold Oper.wp
  rcases h with ⟨v, w', e, h⟩ | ⟨w', e, h⟩ | ⟨f, args, w', e, h⟩
  · rw [e]; exact hk _ _ h
  · rw [e]; exact hk _ _ h
  · rw [e]
    refine Calls.mono h fun en w'' he => ?_
    obtain ⟨v, rfl, h⟩ := he
    exact hk _ _ h

/-- It waits for that one. -/
def waits (o : Oper) (j : Nat) : Bool := o.after.any fun e => Region.binds .any e && e.on == j

theorem waits_spec {o : Oper} {j : Nat} (hj : waits o j = true) : ∃ e ∈ o.after, Region.binds .any e = true ∧ e.on = j := by
  unfold waits at hj
  rw [Array.any_eq_true'] at hj
  obtain ⟨e, he, h2⟩ := hj
  simp only [Bool.and_eq_true, beq_iff_eq] at h2
  exact ⟨e, he, h2⟩

/-- What the kernel reckons: each behind what it waits for, and behind its guard; each slot once. -/
def okB (ops : Array Oper) : Bool :=
  (List.range ops.size).all fun i => match ops[i]? with
    | some o => (match o.guard with | none => true | some (k, _) => waits o k) && (o.after.all fun e => !Region.binds .any e || decide (e.on < i)) && ((List.range ops.size).all fun j => decide (j = i) || match o.dst, dstAt ops j with | some d, some d' => decide (d ≠ d') | _, _ => true)
    | none => true

theorem okB_spec (h : okB ops = true) {i : Nat} {o : Oper} (hi : ops[i]? = some o) : (∀ k b, o.guard = some (k, b) → waits o k = true) ∧ (∀ e ∈ o.after, Region.binds .any e = true → e.on < i) ∧ ∀ j, j ≠ i → ∀ d, o.dst = some d → dstAt ops j ≠ some d := by
  have hlt : i < ops.size := (Array.getElem?_eq_some_iff.1 hi).1
  unfold okB at h
  rw [List.all_eq_true] at h
  have h1 := h i (List.mem_range.2 hlt)
  rw [hi] at h1
  simp only [Bool.and_eq_true] at h1
  obtain ⟨⟨h1, h2⟩, h3⟩ := h1
  refine ⟨fun k b hg => ?_, fun e he hb => ?_, fun j hj d hd e => ?_⟩
  · rw [hg] at h1; exact h1
  · rw [Array.all_eq_true_iff_forall_mem] at h2
    have h4 := h2 e he
    rw [hb] at h4
    simpa using h4
  · have hjl : j < ops.size := by
      rcases hq : ops[j]? with _ | q
      · unfold dstAt at e; rw [hq] at e; cases e
      · exact (Array.getElem?_eq_some_iff.1 hq).1
    rw [List.all_eq_true] at h3
    have h4 := h3 j (List.mem_range.2 hjl)
    rw [hd, e] at h4
    simp [hj] at h4

theorem Like.put {a0 a : Act} (h : Like ops a0 a) {i : Nat} {o : Oper} (hi : ops[i]? = some o) (v : Value) : Like ops a0 (a.put o.dst v) := by
  rcases hd : o.dst with _ | d
  · exact h
  · refine ⟨h.defers, by simp [Act.put, h.size], fun t ht => ?_⟩
    have hne : d ≠ t := fun e => ht i (by rw [dstAt_eq hi, hd, e])
    rw [← h.slot t ht]
    simp [Act.put, hne]

theorem valAt_put (hok : okB ops = true) {i : Nat} {o : Oper} (hi : ops[i]? = some o) (a : Act) (v : Value) (j : Nat) (hj : j ≠ i) : valAt ops (a.put o.dst v) j = valAt ops a j := by
  unfold valAt
  rcases hd : dstAt ops j with _ | d
  · rfl
  · rcases hd2 : o.dst with _ | d2
    · rfl
    · have hne : d2 ≠ d := fun e => (okB_spec hok hi).2.2 j hj d2 hd2 (by rw [hd, e])
      simp [Act.put, hne]

/-- What is put, as it is found. -/
def seen (o : Oper) (v : Value) : Value := match o.dst with
  | some _ => v
  | none => undef

theorem valAt_self {i : Nat} {o : Oper} (hi : ops[i]? = some o) (a : Act) (v : Value) (hd : ∀ d, o.dst = some d → d < a.tmps.size) : valAt ops (a.put o.dst v) i = seen o v := by
  unfold valAt seen
  rw [dstAt_eq hi]
  rcases hq : o.dst with _ | d
  · rfl
  · simp [Act.put, hd d hq]

abbrev upd (L : Nat → Bool) (i : Nat) : Nat → Bool := fun j => if j = i then true else L j

/-- What is told on the way. -/
structure Inv (ops : Array Oper) (a0 : Act) (C : (Nat → Bool) → World → Prop) (T : (Nat → Bool) → Nat → World → Value → Prop) (listed : Array Bool) (L : Nat → Bool) (a : Act) (w : World) : Prop where
  like : Like ops a0 a
  cls : C L w
  told : ∀ i, i < ops.size → L i = true → T L i w (valAt ops a i)
  size : listed.size = ops.size
  same : ∀ i, i < ops.size → listed.getD i true = L i
  clos : ∀ j o, ops[j]? = some o → L j = true → ∀ e ∈ o.after, Region.binds .any e = true → L e.on = true

/-- What a guard's operation told. -/
theorem yield_of {a : Act} {k : Nat} {b : Bool} (h : valAt ops a k = .bool b) : yielded ops a.tmps k = some b := by
  unfold valAt dstAt at h
  unfold yielded
  rcases hk : ops[k]? with _ | o
  · rw [hk] at h; cases h
  · rw [hk] at h
    simp only at h
    rcases hd : o.dst with _ | d
    · rw [hd] at h; cases h
    · rw [hd] at h
      simp only [Option.bind_some, hd]
      simp only [Array.getD_eq_getD_getElem?] at h
      rcases hq : a.tmps[d]? with _ | v
      · rw [hq] at h; cases h
      · rw [hq] at h
        simp only [Option.getD_some] at h
        subst h
        rfl

theorem told_any {a0 : Act} {Q : Exit → Act → World → Prop} (C : (Nat → Bool) → World → Prop) (T : (Nat → Bool) → Nat → World → Value → Prop) (hok : okB ops = true) (hd : ∀ i d, dstAt ops i = some d → d < a0.tmps.size) (hg : ∀ (i : Nat) (o : Oper) (k : Nat) (b : Bool), ops[i]? = some o → o.guard = some (k, b) → ∀ L w v, T L k w v → v = .bool b)
    (hstep : ∀ i o, ops[i]? = some o → ∀ L a w, L i = false → (∀ j o', ops[j]? = some o' → waits o' i = true → L j = false) → (∀ j o', ops[j]? = some o' → L j = true → ∀ k, waits o' k = true → L k = true) → Like ops a0 a → C L w → (∀ e ∈ o.after, Region.binds .any e = true → L e.on = true ∧ T L e.on w (valAt ops a e.on)) →
      Does P o a w fun v w' => C (upd L i) w' ∧ T (upd L i) i w' (seen o v) ∧ ∀ j, j ≠ i → L j = true → T L j w (valAt ops a j) → T (upd L i) j w' (valAt ops a j))
    (hend : ∀ L a w, (∀ i, i < ops.size → L i = true) → Like ops a0 a → C L w → (∀ i, i < ops.size → T L i w (valAt ops a i)) → Q .normal a w) :
    ∀ (fuel : Nat) (listed : Array Bool) (L : Nat → Bool) (a : Act) (w : World), left listed.toList ≤ fuel → Inv ops a0 C T listed L a w → wpAny P .any ops (Only Q) fuel listed a w := by
  have fin : ∀ (listed : Array Bool) (L : Nat → Bool) (a : Act) (w : World), Inv ops a0 C T listed L a w → Region.ready .any ops listed = [] → Only Q .normal a w := by
    intro listed L a w h hr
    have all : ∀ n i, i < n → i < ops.size → L i = true := by
      intro n
      induction n with
      | zero => intro i hi; omega
      | succ n ih =>
        intro i hi hs
        rcases hL : L i with _ | _
        · exfalso
          have hm : i ∈ Region.ready .any ops listed := mem_ready.2 ⟨by rw [h.same i hs, hL], ops[i], by simp [hs], fun e he hb => by
            have h1 := (okB_spec hok (i := i) (o := ops[i]) (by simp [hs])).2.1 e he hb
            have h2 := ih e.on (by omega) (by omega)
            have h3 := h.same e.on (by omega)
            rw [h2] at h3
            have h4 : e.on < listed.size := by rw [h.size]; omega
            simp [h4] at h3 ⊢
            exact h3⟩
          rw [hr] at hm
          cases hm
        · rfl
    exact ⟨rfl, hend L a w (fun i hi => all (i + 1) i (by omega) hi) h.like h.cls (fun i hi => h.told i hi (all (i + 1) i (by omega) hi))⟩
  intro fuel
  induction fuel with
  | zero =>
    intro listed L a w hf h
    have hr : Region.ready .any ops listed = [] := by
      rcases hr : Region.ready .any ops listed with _ | ⟨i, r⟩
      · rfl
      · exfalso
        have hm : i ∈ Region.ready .any ops listed := by rw [hr]; simp
        have h1 := (mem_ready.1 hm).1
        have h2 := left_zero listed.toList (by omega) i
        simp at h1 h2
        rw [h1] at h2
        cases h2
    exact ⟨hr, fin listed L a w h hr⟩
  | succ fuel ih =>
    intro listed L a w hf h
    refine ⟨fin listed L a w h, fun i hi => ?_⟩
    obtain ⟨h1, o, ho, hall⟩ := mem_ready.1 hi
    have his : i < ops.size := (Array.getElem?_eq_some_iff.1 ho).1
    have hLi : L i = false := by rw [← h.same i his]; exact h1
    have hil : i < listed.size := by rw [h.size]; exact his
    have hdep : ∀ e ∈ o.after, Region.binds .any e = true → L e.on = true ∧ T L e.on w (valAt ops a e.on) := fun e he hb => by
      have h2 := hall e he hb
      have h3 := (okB_spec hok ho).2.1 e he hb
      have h4 : e.on < listed.size := by rw [h.size]; omega
      have h5 : L e.on = true := by rw [← h.same e.on (by omega)]; simp [h4] at h2 ⊢; exact h2
      exact ⟨h5, h.told e.on (by omega) h5⟩
    have hw : Region.wanted o (yielded ops a.tmps) = true := by
      unfold Region.wanted
      rcases hgd : o.guard with _ | ⟨k, b⟩
      · rfl
      · obtain ⟨e, he, hb, hek⟩ := waits_spec ((okB_spec hok ho).1 k b hgd)
        have h6 := (hdep e he hb).2
        rw [hek] at h6
        show (yielded ops a.tmps k == some b) = true
        rw [yield_of (hg i o k b ho hgd L w _ h6)]
        simp
    unfold wpOp
    simp only [ho, hw, if_true]
    refine .inl (Does.wp (hstep i o ho L a w hLi (fun j o' ho' hw' => by
      obtain ⟨e, he, hb, hei⟩ := waits_spec hw'
      rcases hq : L j with _ | _
      · rfl
      · have := h.clos j o' ho' hq e he hb
        rw [hei, hLi] at this
        cases this) (fun j o' ho' hq k hk => by
      obtain ⟨e, he, hb, hek⟩ := waits_spec hk
      rw [← hek]
      exact h.clos j o' ho' hq e he hb) h.like h.cls hdep) fun v w' hv => ?_)
    · obtain ⟨v1, v2, v3⟩ := hv
      refine ih (listed.setIfInBounds i true) (upd L i) _ _ ?_ ⟨h.like.put ho v, v1, fun j hj hLj => ?_, by simp [h.size], fun j hj => ?_, fun j o' ho' hLj e he hb => ?_⟩
      · have h2 : listed.toList[i]? = some false := by simp [hil] at h1 ⊢; exact h1
        have h3 := left_set listed.toList i h2
        have h4 : (listed.setIfInBounds i true).toList = listed.toList.set i true := by simp
        rw [h4]
        omega
      · by_cases hji : j = i
        · subst hji
          rw [valAt_self ho a v (fun d hdd => by rw [h.like.size]; exact hd j d (by rw [dstAt_eq ho, hdd]))]
          exact v2
        · rw [valAt_put hok ho a v j hji]
          have hLj' : L j = true := by simpa [upd, hji] using hLj
          exact v3 j hji hLj' (h.told j hj hLj')
      · by_cases hji : j = i
        · subst hji; simp [upd, hil]
        · have hjl : j < listed.size := by rw [h.size]; exact hj
          have := h.same j hj
          simp only [upd, if_neg hji]
          rw [← this]
          exact getD_set_ne true (fun e => hji e.symm)
      · by_cases hei : e.on = i
        · simp [upd, hei]
        · simp only [upd, if_neg hei]
          by_cases hji : j = i
          · subst hji
            rw [ho] at ho'
            cases ho'
            have h2 := hall e he hb
            have h3 := (okB_spec hok ho).2.1 e he hb
            have h4 : e.on < listed.size := by rw [h.size]; omega
            rw [← h.same e.on (by omega)]; simp [h4] at h2 ⊢; exact h2
          · exact h.clos j o' ho' (by simpa [upd, hji] using hLj) e he hb

/-- The law: a region that draws its order, told operation by operation. -/
theorem wp_region_told {id : Nat} {a0 : Act} {w : World} {Q : Exit → Act → World → Prop} (C : (Nat → Bool) → World → Prop) (T : (Nat → Bool) → Nat → World → Value → Prop) (hm : P.follows .mixedOrders = true) (hok : okB ops = true) (hd : ∀ i d, dstAt ops i = some d → d < a0.tmps.size) (hg : ∀ (i : Nat) (o : Oper) (k : Nat) (b : Bool), ops[i]? = some o → o.guard = some (k, b) → ∀ L w v, T L k w v → v = .bool b)
    (hC : C (fun _ => false) w.drew)
    (hstep : ∀ i o, ops[i]? = some o → ∀ L a w, L i = false → (∀ j o', ops[j]? = some o' → waits o' i = true → L j = false) → (∀ j o', ops[j]? = some o' → L j = true → ∀ k, waits o' k = true → L k = true) → Like ops a0 a → C L w → (∀ e ∈ o.after, Region.binds .any e = true → L e.on = true ∧ T L e.on w (valAt ops a e.on)) →
      Does P o a w fun v w' => C (upd L i) w' ∧ T (upd L i) i w' (seen o v) ∧ ∀ j, j ≠ i → L j = true → T L j w (valAt ops a j) → T (upd L i) j w' (valAt ops a j))
    (hend : ∀ L a w, (∀ i, i < ops.size → L i = true) → Like ops a0 a → C L w → (∀ i, i < ops.size → T L i w (valAt ops a i)) → Q .normal a w) : (Code.region id ops true).wp P Q a0 w := by
  refine Code.wp_mono (Q := Only Q) (fun e a w h => by obtain ⟨rfl, h⟩ := h; exact h) (wp_region_any hm ?_)
  refine told_any C T hok hd hg hstep hend ops.size _ (fun _ => false) a0 w.drew ?_ ⟨⟨rfl, rfl, fun _ _ => rfl⟩, hC, fun i _ h => (by cases h), by simp, fun i hi => by simp [hi], fun j o _ h => (by cases h)⟩
  unfold left
  refine Nat.le_trans (List.length_filter_le _ _) ?_
  simp

def noDst (ops : Array Oper) (t : Tmp) : Bool := (List.range ops.size).all fun i => !(dstAt ops i == some t)

theorem noDst_spec {t : Tmp} (h : noDst ops t = true) (i : Nat) : dstAt ops i ≠ some t := by
  intro e
  unfold noDst at h
  rw [List.all_eq_true] at h
  have hi : i < ops.size := by
    unfold dstAt at e
    rcases hq : ops[i]? with _ | q
    · rw [hq] at e; cases e
    · exact (Array.getElem?_eq_some_iff.1 hq).1
  have := h i (List.mem_range.2 hi)
  rw [e] at this
  simp at this

/-- A slot that the region leaves. -/
theorem Like.keeps {a0 a : Act} (h : Like ops a0 a) (t : Tmp) (hb : noDst ops t = true) : a.eval (.tmp t) = a0.eval (.tmp t) := h.slot t (noDst_spec hb)

def puts (f : Tmp → Value) : List Tmp → Act → Act
  | [], a => a
  | d :: ds, a => puts f ds (a.put (some d) (f d))

theorem puts_defers (f : Tmp → Value) : ∀ (ds : List Tmp) (a : Act), (puts f ds a).defers = a.defers
  | [], _ => rfl
  | _ :: ds, _ => (puts_defers f ds _).trans rfl

theorem puts_size (f : Tmp → Value) : ∀ (ds : List Tmp) (a : Act), (puts f ds a).tmps.size = a.tmps.size
  | [], _ => rfl
  | d :: ds, a => (puts_size f ds _).trans (by simp [Act.put])

theorem puts_get (f : Tmp → Value) : ∀ (ds : List Tmp) (a : Act) (t : Tmp), t < a.tmps.size → (puts f ds a).tmps.getD t undef = if t ∈ ds then f t else a.tmps.getD t undef
  | [], a, t, _ => by simp [puts]
  | d :: ds, a, t, h => by
    unfold puts
    rw [puts_get f ds _ t (by simpa [Act.put] using h)]
    by_cases h1 : t ∈ ds
    · simp [h1]
    · by_cases h2 : t = d
      · subst h2; simp [h1, Act.put, h]
      · simp [h1, h2, Act.put, Ne.symm h2]

def dstsB (ops : Array Oper) (ds : List Tmp) : Bool := (List.range ops.size).all fun i => match dstAt ops i with
  | some d => ds.contains d
  | none => true

theorem dstsB_spec {ds : List Tmp} (h : dstsB ops ds = true) (i : Nat) (d : Tmp) (e : dstAt ops i = some d) : d ∈ ds := by
  unfold dstsB at h
  rw [List.all_eq_true] at h
  have hi : i < ops.size := by
    unfold dstAt at e
    rcases hq : ops[i]? with _ | q
    · rw [hq] at e; cases e
    · exact (Array.getElem?_eq_some_iff.1 hq).1
  have := h i (List.mem_range.2 hi)
  rw [e] at this
  simpa using this

theorem Like.fill {a0 a : Act} (h : Like ops a0 a) (ds : List Tmp) (hds : dstsB ops ds = true) : a = puts (fun d => a.eval (.tmp d)) ds a0 := by
  have h1 : a.tmps = (puts (fun d => a.eval (.tmp d)) ds a0).tmps := by
    apply Array.ext
    · rw [puts_size, h.size]
    · intro t ht1 ht2
      have hg := puts_get (fun d => a.eval (.tmp d)) ds a0 t (by rw [← h.size]; exact ht1)
      have e1 : (puts (fun d => a.eval (.tmp d)) ds a0).tmps.getD t undef = (puts (fun d => a.eval (.tmp d)) ds a0).tmps[t] := by simp [ht2]
      have e2 : a.tmps.getD t undef = a.tmps[t] := by simp [ht1]
      rw [← e1, hg, ← e2]
      by_cases hm : t ∈ ds
      · rw [if_pos hm]; rfl
      · rw [if_neg hm]
        exact h.slot t (fun i e => hm (dstsB_spec hds i t e))
  have h2 : a.defers = (puts (fun d => a.eval (.tmp d)) ds a0).defers := by rw [puts_defers, h.defers]
  cases a
  cases hq : puts (fun d => Act.eval _ (.tmp d)) ds a0
  rw [hq] at h1 h2
  simp only at h1 h2
  rw [h1, h2]

/-- What an operation left, by slots. -/
def valF (ops : Array Oper) (f : Tmp → Value) (i : Nat) : Value := match dstAt ops i with
  | some d => f d
  | none => undef

theorem ix_nil {α : Type} {p : Nat → α → Prop} : ∀ i o, ([] : List α)[i]? = some o → p i o := fun i o h => by simp at h
theorem ix_cons {α : Type} {p : Nat → α → Prop} {x : α} {xs : List α} (h0 : p 0 x) (h : ∀ i o, xs[i]? = some o → p (i + 1) o) : ∀ i o, (x :: xs)[i]? = some o → p i o
  | 0, o, e => by simp at e; subst e; exact h0
  | i + 1, o, e => h i o (by simpa using e)

/-- The law, as it is used: l the operations, ds their slots; guards that hold. -/
theorem wp_toldG {l : List Oper} {id : Nat} {a0 : Act} {w : World} {Q : Exit → Act → World → Prop} (ds : List Tmp) (C : (Nat → Bool) → World → Prop) (T : (Nat → Bool) → Nat → World → Value → Prop) (hm : P.follows .mixedOrders = true) (hok : okB l.toArray = true) (hds : dstsB l.toArray ds = true) (hg : ∀ (i : Nat) (o : Oper) (k : Nat) (b : Bool), l[i]? = some o → o.guard = some (k, b) → ∀ L w v, T L k w v → v = .bool b) (n : Nat) (hn : a0.tmps.size = n) (hsz : ds.all (fun d => decide (d < n)) = true)
    (hC : C (fun _ => false) w.drew)
    (hstep : ∀ i o, l[i]? = some o → ∀ L a w, L i = false → (∀ j o', l[j]? = some o' → waits o' i = true → L j = false) → (∀ j o', l[j]? = some o' → L j = true → ∀ k, waits o' k = true → L k = true) → Like l.toArray a0 a → C L w → (∀ j, waits o j = true → L j = true ∧ T L j w (valAt l.toArray a j)) →
      Does P o a w fun v w' => C (upd L i) w' ∧ T (upd L i) i w' (seen o v) ∧ ∀ j, j ≠ i → L j = true → T L j w (valAt l.toArray a j) → T (upd L i) j w' (valAt l.toArray a j))
    (hend : ∀ L f w, (∀ i, i < l.length → L i = true) → C L w → (∀ i, i < l.length → T L i w (valF l.toArray f i)) → Q .normal (puts f ds a0) w) : (Code.region id l.toArray true).wp P Q a0 w := by
  refine wp_region_told C T hm hok (fun i d e => by rw [hn]; exact of_decide_eq_true (List.all_eq_true.1 hsz d (dstsB_spec hds i d e))) (fun i o k b hi => hg i o k b (by simpa using hi)) hC (fun i o ho L a w hL hbeh hcl hlike hc hdep => hstep i o (by simpa using ho) L a w hL (fun j o' ho' => hbeh j o' (by simpa using ho')) (fun j o' ho' => hcl j o' (by simpa using ho')) hlike hc fun j hj => ?_) (fun L a w hL hlike hc hT => ?_)
  · obtain ⟨e, he, h2, h3⟩ := waits_spec hj
    subst h3
    exact hdep e he h2
  · rw [hlike.fill ds hds]
    exact hend L _ w (fun i hi => hL i (by simpa using hi)) hc (fun i hi => hT i (by simpa using hi))

/-- The law, as it is used: l the operations, ds their slots. -/
theorem wp_told {l : List Oper} {id : Nat} {a0 : Act} {w : World} {Q : Exit → Act → World → Prop} (ds : List Tmp) (C : (Nat → Bool) → World → Prop) (T : (Nat → Bool) → Nat → World → Value → Prop) (hm : P.follows .mixedOrders = true) (hok : (okB l.toArray && l.all fun o => o.guard.isNone) = true) (hds : dstsB l.toArray ds = true) (n : Nat) (hn : a0.tmps.size = n) (hsz : ds.all (fun d => decide (d < n)) = true)
    (hC : C (fun _ => false) w.drew)
    (hstep : ∀ i o, l[i]? = some o → ∀ L a w, L i = false → (∀ j o', l[j]? = some o' → waits o' i = true → L j = false) → (∀ j o', l[j]? = some o' → L j = true → ∀ k, waits o' k = true → L k = true) → Like l.toArray a0 a → C L w → (∀ j, waits o j = true → L j = true ∧ T L j w (valAt l.toArray a j)) →
      Does P o a w fun v w' => C (upd L i) w' ∧ T (upd L i) i w' (seen o v) ∧ ∀ j, j ≠ i → L j = true → T L j w (valAt l.toArray a j) → T (upd L i) j w' (valAt l.toArray a j))
    (hend : ∀ L f w, (∀ i, i < l.length → L i = true) → C L w → (∀ i, i < l.length → T L i w (valF l.toArray f i)) → Q .normal (puts f ds a0) w) : (Code.region id l.toArray true).wp P Q a0 w :=
  wp_toldG ds C T hm (Bool.and_eq_true_iff.1 hok).1 hds (fun i o k b hi hgd => by
    have h1 := List.all_eq_true.1 (Bool.and_eq_true_iff.1 hok).2 o (List.mem_of_getElem? hi)
    rw [hgd] at h1
    cases h1) n hn hsz hC hstep hend

/-- Whether one waits for another, over any number of others. -/
def reach (l : List Oper) : Nat → Nat → Nat → Bool
  | 0, j, k => decide (j = k)
  | n + 1, j, k => decide (j = k) || match l[j]? with
    | some o => (List.range j).any fun i => waits o i && reach l n i k
    | none => false

theorem reach_spec {l : List Oper} {L : Nat → Bool} (hcl : ∀ j o', l[j]? = some o' → L j = true → ∀ k, waits o' k = true → L k = true) : ∀ (n j k : Nat), reach l n j k = true → L j = true → L k = true
  | 0, j, k, h, hj => by
    unfold reach at h
    rw [← of_decide_eq_true h]; exact hj
  | n + 1, j, k, h, hj => by
    unfold reach at h
    rcases hq : l[j]? with _ | o
    · rw [hq] at h
      simp only [Bool.or_false] at h
      rw [← of_decide_eq_true h]; exact hj
    · rw [hq] at h
      simp only [Bool.or_eq_true, List.any_eq_true, Bool.and_eq_true] at h
      rcases h with h | ⟨i, _, h1, h2⟩
      · rw [← of_decide_eq_true h]; exact hj
      · exact reach_spec hcl n i k h2 (hcl j o hq hj i h1)

/-- What is not done holds up what waits for it. -/
theorem undone {l : List Oper} {L : Nat → Bool} (hcl : ∀ j o', l[j]? = some o' → L j = true → ∀ k, waits o' k = true → L k = true) (n j k : Nat) (h : reach l n j k = true) (hk : L k = false) : L j = false := by
  rcases hq : L j with _ | _
  · rfl
  · rw [reach_spec hcl n j k h hq] at hk; cases hk

section
variable {o : Oper} {a : Act} {w : World} {Φ : Value → World → Prop}

theorem Does.val {v : Value} {w' : World} (e : (execOp a.eval o).run P w = .ok (.value v) w') (h : Φ v w') : Does P o a w Φ := .inl ⟨v, w', e, h⟩

theorem Does.load {t : TypeId} {x : Operand} {u v : Value} (ho : o.op = .load t x) (hx : a.eval x = u) (hr : (Instr.loadAt t u).run P w = .ok v w) (h : Φ v w) : Does P o a w Φ :=
  .val (by unfold execOp; rw [ho]; simp [hx, hr]) h

theorem Does.field {t : TypeId} {x : Operand} {k : Nat} {u v : Value} (ho : o.op = .fieldAddr t x k) (hx : a.eval x = u) (hr : (Instr.fieldAt t u k).run P w = .ok v w) (h : Φ v w) : Does P o a w Φ :=
  .val (by unfold execOp; rw [ho]; simp [hx, hr]) h

theorem Does.index {t : TypeId} {x y : Operand} {u k v : Value} (ho : o.op = .indexAddr t x y) (hx : a.eval x = u) (hy : a.eval y = k) (hr : (Instr.indexAt t u k).run P w = .ok v w) (h : Φ v w) : Does P o a w Φ :=
  .val (by unfold execOp; rw [ho]; simp [hx, hy, hr]) h

theorem Does.move {x : Operand} {u : Value} (ho : o.op = .move x) (hx : a.eval x = u) (h : Φ u w) : Does P o a w Φ :=
  .val (by unfold execOp; rw [ho]; simp [hx]) h

theorem Does.store {t : TypeId} {x y : Operand} {u k : Value} {w' : World} (ho : o.op = .store t x y) (hx : a.eval x = u) (hy : a.eval y = k) (hr : (Instr.storeAt t u k).run P w = .ok () w') (h : Φ undef w') : Does P o a w Φ :=
  .inr (.inl ⟨w', by unfold execOp; rw [ho]; simp [hx, hy, hr], h⟩)

theorem Does.alloc {t : TypeId} {v : Value} {w' : World} (ho : o.op = .alloc t) (hr : (Instr.alloc t true (.tuple #[])).run P w = .ok v w') (h : Φ v w') : Does P o a w Φ :=
  .val (by unfold execOp; rw [ho]; simp [hr]) h

theorem Does.bslice {t : TypeId} {n : Nat} {parts : Array (Nat × Operand)} {ps : Array (Nat × Value)} {v : Value} {w' : World} (ho : o.op = .buildSlice t n parts) (hp : (parts.map fun (i, x) => (i, a.eval x)) = ps) (hr : (Instr.buildSlice t n ps).run P w = .ok v w') (h : Φ v w') : Does P o a w Φ :=
  .val (by unfold execOp; rw [ho]; simp only [hp]; simp [hr]) h

theorem Does.build {t : TypeId} {parts : Array (Nat × Operand)} {ps : Array (Nat × Value)} {v : Value} (ho : o.op = .build t parts) (hp : (parts.map fun (i, x) => (i, a.eval x)) = ps) (hr : (Instr.build t ps).run P w = .ok v w) (h : Φ v w) : Does P o a w Φ :=
  .val (by unfold execOp; rw [ho]; simp only [hp]; simp [hr]) h

theorem Does.append {d x : Operand} {dT sT : TypeId} {u k v : Value} {w' : World} (ho : o.op = .call { callee := .builtin .append, args := #[d, x], argTypes := #[dT, sT] }) (hd : a.eval d = u) (hx : a.eval x = k) (hr : (Builtin.append_ #[dT, sT] o.type #[u, k]).run P w = .ok v w') (h : Φ v w') : Does P o a w Φ :=
  .val (by simp [execOp, ho, resolve, invoke, builtin, hd, hx, hr, Result.andThen]) h

theorem Does.call {f : FuncId} {args : Array Value} (e : (execOp a.eval o).run P w = .ok (.enter f args) w) (h : Calls P f args w fun e w' => ∃ v, e = .returned v ∧ Φ v w') : Does P o a w Φ := .inr (.inr ⟨f, args, w, e, h⟩)

end

end
end TL

end Go.Proofs.YtdmnlmohfaafoadGreatDoor

