/- A region that draws its order, in which calls that write stand one behind the other, and all else reads what no call writes: that is taken first, whatever the order; then the calls are walked one by one. A region that draws its order: what only reads first, then calls that stand alone, then what only reads again. What block.Merge tells. -/
import Derived.BigQuiet
import Derived.RowKit
import Derived.Test.YtdmnlmohfaafoaeDoorPSBkGnC
import Derived.Test.YtdmnlmohfaafoaeDoorPSBpCopyC
import Derived.Test.YtdmnlmohfaafoaeDoorPSBpPushC
import Derived.Test.YtdmnlmohfaafoaeDoorPSBpCatC
import Derived.Test.YtdmnlmohfaafoaeDoorPSCxCmp
import Derived.Test.YtdmnlmohfaafoaeDoorPSCsReg
namespace Go.Proofs.YtdmnlmohfaafoaeDoor
open Go.RowKit

section
variable {P : Program} {md : Region.Mode} {ops : Array Oper} {C : World → Prop} {Q : Exit → Act → World → Prop}

/-- Whatever the order from here on; C holds all the way. -/
def anyC (P : Program) (md : Region.Mode) (ops : Array Oper) (C : World → Prop) (Q : Exit → Act → World → Prop) : Nat → Array Bool → Act → World → Prop
  | 0, listed, a, w => C w ∧ Region.ready md ops listed = [] ∧ Q .normal a w
  | fuel + 1, listed, a, w => C w ∧ (Region.ready md ops listed = [] → Q .normal a w) ∧ ∀ i ∈ Region.ready md ops listed, wpOp P ops Q i (anyC P md ops C Q fuel (listed.setIfInBounds i true)) a w

theorem anyC.any : ∀ {fuel : Nat} {listed : Array Bool} {a : Act} {w : World}, anyC P md ops C Q fuel listed a w → wpAny P md ops Q fuel listed a w
  | 0, _, _, _, h => h.2
  | _ + 1, _, _, _, h => ⟨h.2.1, fun i hi => wpOp_mono (fun _ _ h => anyC.any h) (h.2.2 i hi)⟩

theorem anyC.here {fuel : Nat} {listed : Array Bool} {a : Act} {w : World} (h : anyC P md ops C Q fuel listed a w) : C w := by
  cases fuel <;> exact h.1

/-- An operation that yields v wherever C holds, or calls what answers v and leaves the world. -/
def YC (P : Program) (C : World → Prop) (o : Oper) (v : Value) (a : Act) : Prop :=
  ∀ w, C w → (execOp a.eval o).run P w = .ok (.value v) w ∨ ∃ f args, (execOp a.eval o).run P w = .ok (.enter f args) w ∧ Calls P f args w fun e w' => e = .returned v ∧ w' = w

theorem YC.go {i : Nat} {o : Oper} {v : Value} {a : Act} {K : Act → World → Prop} {w : World} (hi : ops[i]? = some o) (hg : o.guard = none) (hy : YC P C o v a) (hC : C w) (h : K (a.put o.dst v) w) : wpOp P ops Q i K a w := by
  have hw : Region.wanted o (yielded ops a.tmps) = true := by unfold Region.wanted; rw [hg]
  unfold wpOp
  simp only [hi, hw, if_true, Oper.wp]
  refine .inl ?_
  rcases hy w hC with h1 | ⟨f, args, h1, h2⟩
  · rw [h1]; exact h
  · rw [h1]
    refine Calls.mono h2 fun e w' he => ?_
    obtain ⟨rfl, rfl⟩ := he
    exact h

/-- What another operation, apart from it, leaves of it: the same act but for one slot. -/
theorem putC {j : Nat} {oi oj : Oper} {v : Value} (hj : ops[j]? = some oj) (hap : oi.apart ops oj = true) (hsi : ∀ cs b, oi.op ≠ .select cs b) (hsj : ∀ cs b, oj.op ≠ .select cs b) (hQ : ∀ c a w, ¬ Q (.panic c) a w) {K : Act → World → Prop} {a : Act} {w : World}
    (hy : YC P C oi v a) (h : wpOp P ops Q j K (a.put oi.dst v) w) : wpOp P ops Q j (fun a' w' => YC P C oi v a' ∧ K (a'.put oi.dst v) w') a w := by
  obtain ⟨h1, h2, h3⟩ := Oper.apart_spec hap
  have hex := execOp_put oj hsj a oi.dst v h1
  have hkeep : ∀ u, YC P C oi v (a.put oj.dst u) := fun u w hw => by rw [execOp_put oi hsi a oj.dst u h3]; exact hy w hw
  have hkeepD : ∀ d u, YC P C oi v (Act.put { a with defers := d :: a.defers } oj.dst u) := fun d u w hw => by
    rw [execOp_put oi hsi _ oj.dst u h3]
    exact hy w hw
  have hK : ∀ u w', K ((a.put oi.dst v).put oj.dst u) w' → YC P C oi v (a.put oj.dst u) ∧ K ((a.put oj.dst u).put oi.dst v) w' := fun u w' hk => ⟨hkeep u, by rw [← Act.put_comm a v u h2]; exact hk⟩
  unfold wpOp at h ⊢
  simp only [hj] at h ⊢
  rw [wanted_put oj a oi.dst v h1] at h
  by_cases hw : Region.wanted oj (yielded ops a.tmps) = true
  · simp only [hw, if_true] at h ⊢
    rcases h with h | ⟨h, hl⟩
    · refine .inl ?_
      unfold Oper.wp at h ⊢
      rw [hex] at h
      revert h
      generalize (execOp a.eval oj).run P w = r
      intro h
      rcases r with ⟨n, w'⟩ | ⟨x, w'⟩
      · cases n with
        | value u => exact hK u w' h
        | skip => exact hK undef w' h
        | enter f args =>
          refine Calls.mono h fun e w'' he => ?_
          cases e with
          | returned u => exact hK u w'' he
          | panicked c => exact absurd he (hQ _ _ _)
          | outgrown => exact he
        | row row args => exact Rows.mono h fun u w'' he => hK u w'' he
        | defer d =>
          refine ⟨hkeepD d undef, ?_⟩
          have e1 := Act.put_comm { a with defers := d :: a.defers } (x := oi.dst) (y := oj.dst) v undef h2
          rw [← e1, ← Act.put_defers]
          exact h
        | _ => exact h
      · cases x with
        | panic u => exact absurd h (hQ _ _ _)
        | _ => exact h
    · refine .inr ⟨?_, hl⟩
      unfold Oper.asks at h ⊢
      rw [hex] at h
      exact h
  · simp only [hw] at h ⊢
    exact hK undef w h

/-- What only reads where C holds is taken first. -/
theorem anyC.first {i : Nat} {oi : Oper} {v : Value} (hi : ops[i]? = some oi) (hg : oi.guard = none) (hs : Region.noSelect ops = true) (hQ : ∀ c a w, ¬ Q (.panic c) a w) :
    ∀ (fuel : Nat) (listed : Array Bool) (a : Act) (w : World), (∀ j oj, ops[j]? = some oj → j ≠ i → listed.getD j true = false → (∀ e ∈ oj.after, Region.binds md e = true → e.on ≠ i) → oi.apart ops oj = true) →
      i ∈ Region.ready md ops listed → YC P C oi v a → anyC P md ops C Q fuel (listed.setIfInBounds i true) (a.put oi.dst v) w → anyC P md ops C Q (fuel + 1) listed a w := by
  have hsel := Region.noSelect_spec hs
  intro fuel
  induction fuel with
  | zero =>
    intro listed a w _ hr hy H
    refine ⟨H.1, fun h => (by rw [h] at hr; cases hr), fun j hj => ?_⟩
    rcases Nat.decEq j i with hji | hji
    · have h1 := ready_mono hj hji
      rw [H.2.1] at h1
      cases h1
    · subst hji
      exact hy.go hi hg H.1 H
  | succ fuel ih =>
    intro listed a w hfree hr hy H
    refine ⟨H.1, fun h => (by rw [h] at hr; cases hr), fun j hj => ?_⟩
    rcases Nat.decEq j i with hji | hji
    · have h1 := H.2.2 j (ready_mono hj hji)
      obtain ⟨hun, oj, hoj, hall⟩ := mem_ready.1 hj
      have h0 := (mem_ready.1 hr).1
      have hno : ∀ e ∈ oj.after, Region.binds md e = true → e.on ≠ i := by
        intro e he hb heq
        have h2 := hall e he hb
        rw [heq] at h2
        by_cases hlt : i < listed.size
        · simp [hlt] at h0 h2
          rw [h0] at h2; cases h2
        · simp [hlt] at h2
      refine wpOp_mono (fun a' w' h3 => ih (listed.setIfInBounds j true) a' w' ?_ (ready_mono hr (fun e => hji e.symm)) h3.1 ?_) (putC hoj (hfree j oj hoj hji hun hno) (fun cs b => hsel i oi cs b hi) (fun cs b => hsel j oj cs b hoj) hQ hy h1)
      · intro k ok hk hki hku hkn
        refine hfree k ok hk hki ?_ hkn
        by_cases hjk : j = k
        · subst hjk; exact hun
        · rw [getD_set_ne true hjk] at hku; exact hku
      · rw [Array.setIfInBounds_comm _ _ hji]
        exact h3.2
    · subst hji
      exact hy.go hi hg H.1 H

theorem anyC.take {i : Nat} {oi : Oper} {v : Value} {fuel : Nat} {listed : Array Bool} {a : Act} {w : World} (hi : ops[i]? = some oi) (hg : oi.guard = none) (hs : Region.noSelect ops = true) (hf : Region.free md ops listed i = true) (hr : (Region.ready md ops listed).contains i = true) (hQ : ∀ c a w, ¬ Q (.panic c) a w)
    (hy : YC P C oi v a) (h : anyC P md ops C Q fuel (listed.setIfInBounds i true) (a.put oi.dst v) w) : anyC P md ops C Q (fuel + 1) listed a w :=
  anyC.first hi hg hs hQ fuel listed a w (Region.free_spec hi hf) (by simpa using hr) hy h

/-- What is asked behind an operation that stands alone: C, and the next ones one by one. -/
def SeqQ (P : Program) (ops : Array Oper) (C : World → Prop) (Q : Exit → Act → World → Prop) : List Oper → Exit → Act → World → Prop
  | [], .normal, a, w => C w ∧ Q .normal a w
  | o :: os, .normal, a, w => C w ∧ wpList P ops (SeqQ P ops C Q os) [o] a w
  | _, e, a, w => Q e a w

theorem SeqQ.outs {os : List Oper} (h : LetsOut (SeqQ P ops C Q os)) : LetsOut Q := by
  obtain ⟨a, w, h⟩ := h
  cases os <;> exact ⟨a, w, h⟩

theorem SeqQ.exits {o : Oper} {os : List Oper} {a : Act} {w : World} {K : Act → World → Prop} (h : o.wp P a w K (SeqQ P ops C Q os)) : o.wp P a w K Q := by
  unfold Oper.wp at *
  generalize (execOp a.eval o).run P w = r at *
  cases r with
  | ok n w' =>
    cases n <;> simp only [Oper.upon] at h ⊢ <;>
      first
        | exact h
        | exact Calls.mono h (fun e w'' he => by
            cases e with
            | returned u => exact he
            | panicked c => cases os <;> exact he
            | outgrown => exact SeqQ.outs he)
  | halt x w' =>
    cases x <;> simp only [Oper.upon] at h ⊢ <;>
      first
        | exact h
        | (cases os <;> exact h)

/-- An operation that stands alone. -/
theorem anyC.one {o : Oper} {os : List Oper} {i fuel : Nat} {listed : Array Bool} {a : Act} {w : World} (hi : ops[i]? = some o) (hg : o.guard = none) (hr : Region.ready md ops listed = [i]) (hC : C w)
    (hk : ∀ a w, SeqQ P ops C Q os .normal a w → anyC P md ops C Q fuel (listed.setIfInBounds i true) a w) (h : wpList P ops (SeqQ P ops C Q os) [o] a w) : anyC P md ops C Q (fuel + 1) listed a w := by
  refine ⟨hC, fun h1 => (by rw [hr] at h1; cases h1), fun j hj => ?_⟩
  rw [hr] at hj
  have hij : j = i := by simpa using hj
  subst hij
  have hw : Region.wanted o (yielded ops a.tmps) = true := by unfold Region.wanted; rw [hg]
  unfold wpOp
  simp only [hi, hw, if_true]
  simp only [wpList, hw, if_true] at h
  exact h.imp (fun h => SeqQ.exits (os := os) (Oper.wp_mono hk h)) (fun h => ⟨h.1, SeqQ.outs h.2⟩)

/-- No exit but the plain one. -/
def OnlyC (Q : Exit → Act → World → Prop) (e : Exit) (a : Act) (w : World) : Prop := e = .normal ∧ Q .normal a w

/-- What only reads, one behind the other, each as it is in every world where C holds; then the rest. -/
def takes (P : Program) (C : World → Prop) : List Oper → (Act → Prop) → Act → Prop
  | [], K, a => K a
  | o :: os, K, a => ∃ v, YC P C o v a ∧ takes P C os K (a.put o.dst v)

def soloB (ops : Array Oper) : List Nat → Array Bool → Bool
  | [], l => decide (Region.ready .any ops l = [])
  | j :: js, l => decide (Region.ready .any ops l = [j]) && soloB ops js (l.setIfInBounds j true)

/-- What the kernel reckons of the region: first the numbers is are free and ready, one behind the other; then the numbers js stand alone. -/
def takesB (ops : Array Oper) (js : List Nat) : List Nat → Array Bool → Bool
  | [], l => soloB ops js l
  | i :: is, l => Region.free .any ops l i && (Region.ready .any ops l).contains i && takesB ops js is (l.setIfInBounds i true)

/-- The operations of these numbers, none of them guarded. -/
def opsAt (ops : Array Oper) (is : List Nat) (os : List Oper) : Prop := is.map (fun i => ops[i]?) = os.map some ∧ ∀ o ∈ os, o.guard = none

theorem opsAt.cons {i : Nat} {is : List Nat} {o : Oper} {os : List Oper} (h : opsAt ops (i :: is) (o :: os)) : ops[i]? = some o ∧ o.guard = none ∧ opsAt ops is os := by
  obtain ⟨h1, h2⟩ := h
  simp only [List.map_cons, List.cons.injEq] at h1
  exact ⟨h1.1, h2 o (by simp), h1.2, fun x hx => h2 x (by simp [hx])⟩

theorem seq_any : ∀ {js : List Nat} {os : List Oper} {l : Array Bool} {a : Act} {w : World}, opsAt ops js os → soloB ops js l = true → SeqQ P ops C Q os .normal a w → anyC P .any ops C Q js.length l a w
  | [], [], l, a, w, _, hB, h => ⟨h.1, by simpa [soloB] using hB, h.2⟩
  | j :: js, o :: os, l, a, w, ho, hB, h => by
    obtain ⟨h1, h2, h3⟩ := ho.cons
    simp only [soloB, Bool.and_eq_true, decide_eq_true_eq] at hB
    exact anyC.one h1 h2 hB.1 h.1 (fun a w h => seq_any h3 hB.2 h) h.2
  | [], o :: os, l, a, w, ho, _, _ => by have := ho.1; simp at this
  | j :: js, [], l, a, w, ho, _, _ => by have := ho.1; simp at this

theorem takes_any (hs : Region.noSelect ops = true) (hQ : ∀ c a w, ¬ Q (.panic c) a w) {js : List Nat} {ps : List Oper} (hp : opsAt ops js ps) {w : World} : ∀ {is : List Nat} {os : List Oper} {l : Array Bool} {a : Act}, opsAt ops is os → takesB ops js is l = true → takes P C os (fun a => SeqQ P ops C Q ps .normal a w) a → anyC P .any ops C Q (is.length + js.length) l a w
  | [], [], l, a, _, hB, h => by
    rw [List.length_nil, Nat.zero_add]
    exact seq_any hp hB h
  | i :: is, o :: os, l, a, ho, hB, h => by
    obtain ⟨h1, h2, h3⟩ := ho.cons
    simp only [takesB, Bool.and_eq_true] at hB
    obtain ⟨v, hy, hk⟩ := h
    have e : (i :: is).length + js.length = is.length + js.length + 1 := by simp; omega
    rw [e]
    exact anyC.take h1 h2 hs hB.1.1 hB.1.2 hQ hy (takes_any hs hQ hp h3 hB.2 hk)
  | [], o :: os, l, a, ho, _, _ => by have := ho.1; simp at this
  | i :: is, [], l, a, ho, _, _ => by have := ho.1; simp at this

/-- The law. -/
theorem wp_region_takes {id : Nat} {a : Act} {w : World} (C : World → Prop) (is js : List Nat) (os ps : List Oper) (hm : P.follows .mixedOrders = true) (hs : Region.noSelect ops = true) (hB : takesB ops js is (Array.replicate ops.size false) = true) (hlen : is.length + js.length = ops.size) (ho : opsAt ops is os) (hp : opsAt ops js ps)
    (h : takes P C os (fun a => SeqQ P ops C (OnlyC Q) ps .normal a w.drew) a) : (Code.region id ops true).wp P Q a w :=
  Code.wp_mono (Q := OnlyC Q) (fun e a w h => by obtain ⟨rfl, h⟩ := h; exact h) (wp_region_any hm (by
    have := takes_any (Q := OnlyC Q) hs (fun _ _ _ h => nomatch h.1) hp ho hB h
    rw [hlen] at this
    exact this.any))

theorem SeqQ.on {o : Oper} {os : List Oper} {a : Act} {w : World} (hC : C w) (h : wpList P ops (SeqQ P ops C Q os) [o] a w) : SeqQ P ops C Q (o :: os) .normal a w := ⟨hC, h⟩

theorem SeqQ.done {a : Act} {w : World} (hC : C w) (h : Q .normal a w) : SeqQ P ops C (OnlyC Q) [] .normal a w := ⟨hC, rfl, h⟩

theorem takes.on {o : Oper} {os : List Oper} {K : Act → Prop} {a : Act} {v : Value} (h : YC P C o v a) (hk : takes P C os K (a.put o.dst v)) : takes P C (o :: os) K a := ⟨v, h, hk⟩

theorem takes.off {o : Oper} {os : List Oper} {a : Act} {w : World} (hC : C w) (h : wpList P ops (SeqQ P ops C Q os) [o] a w) : takes P C [] (fun a => SeqQ P ops C Q (o :: os) .normal a w) a := ⟨hC, h⟩

theorem YC.move {o : Oper} {a : Act} {x : Operand} {v : Value} (h : o.op = .move x) (hx : a.eval x = v) : YC P C o v a := fun w _ => .inl (by rw [← hx]; exact BigFrame.run_move x h w)

theorem YC.field {o : Oper} {a : Act} {t : TypeId} {x : Operand} {k : Nat} {v u : Value} (h : o.op = .fieldAddr t x k) (hx : a.eval x = u) (hr : ∀ w, (Instr.fieldAt t u k).run P w = .ok v w) : YC P C o v a := fun w _ => .inl (by
  unfold execOp
  rw [h]
  simp [hx, hr])

theorem YC.load {o : Oper} {a : Act} {t : TypeId} {x : Operand} {v u : Value} (h : o.op = .load t x) (hx : a.eval x = u) (hr : ∀ w, C w → (Instr.loadAt t u).run P w = .ok v w) : YC P C o v a := fun w hw => .inl (by
  unfold execOp
  rw [h]
  simp [hx, hr w hw])

theorem YC.lookup {o : Oper} {a : Act} {t : TypeId} {m x : Operand} {v u y : Value} (h : o.op = .lookup t m x false) (hm : a.eval m = u) (hx : a.eval x = y) (hr : ∀ w, C w → (Instr.lookup t u y false).run P w = .ok v w) : YC P C o v a := fun w hw => .inl (by
  unfold execOp
  rw [h]
  simp [hm, hx, hr w hw])

theorem YC.call {o : Oper} {a : Act} {f : FuncId} {vs : Array Value} {v : Value} (hr : ∀ w, (execOp a.eval o).run P w = .ok (.enter f vs) w) (hc : ∀ w, C w → Calls P f vs w fun e w' => e = .returned v ∧ w' = w) : YC P C o v a := fun w hw => .inr ⟨f, vs, hr w, hc w hw⟩

def plainB (ops : Array Oper) (is : List Nat) : Bool := is.all fun i => match ops[i]? with
  | some o => o.guard.isNone
  | none => false

theorem opsAt_of : ∀ {is : List Nat}, plainB ops is = true → opsAt ops is (is.filterMap fun i => ops[i]?)
  | [], _ => ⟨rfl, by simp⟩
  | i :: is, h => by
    simp only [plainB, List.all_cons, Bool.and_eq_true] at h
    obtain ⟨h1, h2⟩ := h
    obtain ⟨h3, h4⟩ := opsAt_of (is := is) h2
    cases ho : ops[i]? with
    | none => rw [ho] at h1; cases h1
    | some o =>
      rw [ho] at h1
      rw [List.filterMap_cons, ho]
      refine ⟨by rw [List.map_cons, List.map_cons, h3, ho], fun x hx => ?_⟩
      rcases List.mem_cons.1 hx with rfl | hx
      · simpa using h1
      · exact h4 x hx

/-- The law, its operations told by their numbers. -/
theorem wp_region_take {id : Nat} {a : Act} {w : World} (C : World → Prop) (is js : List Nat) (hm : P.follows .mixedOrders = true) (hB : (Region.noSelect ops && takesB ops js is (Array.replicate ops.size false) && decide (is.length + js.length = ops.size) && plainB ops is && plainB ops js) = true)
    (h : takes P C (is.filterMap fun i => ops[i]?) (fun a => SeqQ P ops C (OnlyC Q) (js.filterMap fun i => ops[i]?) .normal a w.drew) a) : (Code.region id ops true).wp P Q a w := by
  simp only [Bool.and_eq_true, decide_eq_true_eq] at hB
  obtain ⟨⟨⟨⟨h1, h2⟩, h3⟩, h4⟩, h5⟩ := hB
  exact wp_region_takes C is js _ _ hm h1 h2 h3 (opsAt_of h4) (opsAt_of h5) h

end

end Go.Proofs.YtdmnlmohfaafoaeDoor

namespace Go.Proofs.YtdmnlmohfaafoaeDoor
open Go.RowKit

section
variable {P : Program} {ops : Array Oper} {C : World → Prop} {Q : Exit → Act → World → Prop}

/-- What is asked where the calls are done. -/
def FinQ (P : Program) (ops : Array Oper) (C : World → Prop) (Q : Exit → Act → World → Prop) (qs : List Oper) : Exit → Act → World → Prop
  | .normal, a, w => takes P C qs (fun a => SeqQ P ops C Q [] .normal a w) a
  | e, a, w => Q e a w

theorem FinQ.outs {qs : List Oper} (h : LetsOut (FinQ P ops C Q qs)) : LetsOut Q := by
  obtain ⟨a, w, h⟩ := h
  exact ⟨a, w, h⟩

theorem FinQ.exits {o : Oper} {qs : List Oper} {a : Act} {w : World} {K : Act → World → Prop} (h : o.wp P a w K (FinQ P ops C Q qs)) : o.wp P a w K Q := by
  unfold Oper.wp at *
  generalize (execOp a.eval o).run P w = r at *
  cases r with
  | ok n w' =>
    cases n <;> simp only [Oper.upon] at h ⊢ <;>
      first
        | exact h
        | exact Calls.mono h (fun e w'' he => by
            cases e with
            | returned u => exact he
            | panicked c => exact he
            | outgrown => exact FinQ.outs he)
  | halt x w' =>
    cases x <;> simp only [Oper.upon] at h ⊢ <;> exact h

def soloT (ops : Array Oper) (ks : List Nat) : List Nat → Array Bool → Bool
  | [], l => takesB ops [] ks l
  | j :: js, l => decide (Region.ready .any ops l = [j]) && soloT ops ks js (l.setIfInBounds j true)

def takesT (ops : Array Oper) (js ks : List Nat) : List Nat → Array Bool → Bool
  | [], l => soloT ops ks js l
  | i :: is, l => Region.free .any ops l i && (Region.ready .any ops l).contains i && takesT ops js ks is (l.setIfInBounds i true)

theorem fin_one {o : Oper} {os qs : List Oper} {i fuel : Nat} {listed : Array Bool} {a : Act} {w : World} (hi : ops[i]? = some o) (hg : o.guard = none) (hr : Region.ready .any ops listed = [i]) (hC : C w)
    (hk : ∀ a w, SeqQ P ops C (FinQ P ops C Q qs) os .normal a w → anyC P .any ops C Q fuel (listed.setIfInBounds i true) a w) (h : wpList P ops (SeqQ P ops C (FinQ P ops C Q qs) os) [o] a w) : anyC P .any ops C Q (fuel + 1) listed a w := by
  refine ⟨hC, fun h1 => (by rw [hr] at h1; cases h1), fun j hj => ?_⟩
  rw [hr] at hj
  have hij : j = i := by simpa using hj
  subst hij
  have hw : Region.wanted o (yielded ops a.tmps) = true := by unfold Region.wanted; rw [hg]
  unfold wpOp
  simp only [hi, hw, if_true]
  simp only [wpList, hw, if_true] at h
  exact h.imp (fun h => FinQ.exits (SeqQ.exits (os := os) (Oper.wp_mono hk h))) (fun h => ⟨h.1, FinQ.outs (SeqQ.outs h.2)⟩)

theorem seq_fin (hs : Region.noSelect ops = true) (hQ : ∀ c a w, ¬ Q (.panic c) a w) {ks : List Nat} {qs : List Oper} (hq : opsAt ops ks qs) : ∀ {js : List Nat} {os : List Oper} {l : Array Bool} {a : Act} {w : World}, opsAt ops js os → soloT ops ks js l = true → SeqQ P ops C (FinQ P ops C Q qs) os .normal a w → anyC P .any ops C Q (js.length + ks.length) l a w
  | [], [], l, a, w, _, hB, h => by
    have := takes_any (js := []) (ps := []) hs hQ ⟨rfl, by simp⟩ hq hB h.2
    simpa using this
  | j :: js, o :: os, l, a, w, ho, hB, h => by
    obtain ⟨h1, h2, h3⟩ := ho.cons
    simp only [soloT, Bool.and_eq_true, decide_eq_true_eq] at hB
    have e : (j :: js).length + ks.length = js.length + ks.length + 1 := by simp; omega
    rw [e]
    exact fin_one h1 h2 hB.1 h.1 (fun a w h => seq_fin hs hQ hq h3 hB.2 h) h.2
  | [], o :: os, l, a, w, ho, _, _ => by have := ho.1; simp at this
  | j :: js, [], l, a, w, ho, _, _ => by have := ho.1; simp at this

theorem takes_fin (hs : Region.noSelect ops = true) (hQ : ∀ c a w, ¬ Q (.panic c) a w) {js ks : List Nat} {ps qs : List Oper} (hp : opsAt ops js ps) (hq : opsAt ops ks qs) {w : World} : ∀ {is : List Nat} {os : List Oper} {l : Array Bool} {a : Act}, opsAt ops is os → takesT ops js ks is l = true → takes P C os (fun a => SeqQ P ops C (FinQ P ops C Q qs) ps .normal a w) a → anyC P .any ops C Q (is.length + (js.length + ks.length)) l a w
  | [], [], l, a, _, hB, h => by
    rw [List.length_nil, Nat.zero_add]
    exact seq_fin hs hQ hq hp hB h
  | i :: is, o :: os, l, a, ho, hB, h => by
    obtain ⟨h1, h2, h3⟩ := ho.cons
    simp only [takesT, Bool.and_eq_true] at hB
    obtain ⟨v, hy, hk⟩ := h
    have e : (i :: is).length + (js.length + ks.length) = is.length + (js.length + ks.length) + 1 := by simp; omega
    rw [e]
    exact anyC.take h1 h2 hs hB.1.1 hB.1.2 hQ hy (takes_fin hs hQ hp hq h3 hB.2 hk)
  | [], o :: os, l, a, ho, _, _ => by have := ho.1; simp at this
  | i :: is, [], l, a, ho, _, _ => by have := ho.1; simp at this

/-- The law, its operations told by their numbers. -/
theorem wp_region_fin {id : Nat} {a : Act} {w : World} (C : World → Prop) (is js ks : List Nat) (hm : P.follows .mixedOrders = true) (hB : (Region.noSelect ops && takesT ops js ks is (Array.replicate ops.size false) && decide (is.length + (js.length + ks.length) = ops.size) && plainB ops is && plainB ops js && plainB ops ks) = true)
    (h : takes P C (is.filterMap fun i => ops[i]?) (fun a => SeqQ P ops C (FinQ P ops C (OnlyC Q) (ks.filterMap fun i => ops[i]?)) (js.filterMap fun i => ops[i]?) .normal a w.drew) a) : (Code.region id ops true).wp P Q a w := by
  simp only [Bool.and_eq_true, decide_eq_true_eq] at hB
  obtain ⟨⟨⟨⟨⟨h1, h2⟩, h3⟩, h4⟩, h5⟩, h6⟩ := hB
  refine Code.wp_mono (Q := OnlyC Q) (fun e a w h => by obtain ⟨rfl, h⟩ := h; exact h) (wp_region_any hm ?_)
  have := takes_fin (Q := OnlyC Q) h1 (fun _ _ _ h => nomatch h.1) (opsAt_of h5) (opsAt_of h6) (opsAt_of h4) h2 h
  rw [h3] at this
  exact this.any

theorem SeqQ.fin {qs : List Oper} {a : Act} {w : World} (hC : C w) (h : takes P C qs (fun a => SeqQ P ops C (OnlyC Q) [] .normal a w) a) : SeqQ P ops C (FinQ P ops C (OnlyC Q) qs) [] .normal a w := ⟨hC, h⟩

theorem takes.fin {a : Act} {w : World} (hC : C w) (h : Q .normal a w) : takes P C [] (fun a => SeqQ P ops C (OnlyC Q) [] .normal a w) a := ⟨hC, rfl, h⟩

end

end Go.Proofs.YtdmnlmohfaafoaeDoor

namespace Go.Proofs.YtdmnlmohfaafoaeDoor
open Go.RowKit

theorem srs_tail {w : World} {Z : Nat → Prop} {ao : Option Addr} {x : Sr} {l : List Sr} {cap : Nat} (h : SrOut w Z ao (x :: l)) (hc : (x :: l).length ≤ cap) :
    ∃ b off A, ao = some ⟨b, off, none⟩ ∧ (if cap = 1 then some ⟨b, off, none⟩ else some ⟨b, off + 2, none⟩) = A ∧ SrOut w Z A l := by
  obtain ⟨b, off, e, _⟩ := h 0 (by simp)
  refine ⟨b, off, _, e, rfl, fun i hi => ?_⟩
  obtain ⟨b', off', e', hb, hz, lo, lc, so, sc, c0, c1, hl, hs⟩ := h (i + 1) (by simpa using hi)
  rw [e] at e'
  simp only [Option.some.injEq, Addr.mk.injEq, and_true] at e'
  obtain ⟨rfl, rfl⟩ := e'
  have hn : cap ≠ 1 := by simp at hc; omega
  rw [HD.at_cons] at c0 c1 hl hs
  refine ⟨b, off + 2, by rw [if_neg hn], hb, hz, lo, lc, so, sc, ?_, ?_, hl, hs⟩
  · have : off + 2 + i * 2 = off + (i + 1) * 2 := by omega
    rw [this]; exact c0
  · have : off + 2 + i * 2 + 1 = off + (i + 1) * 2 + 1 := by omega
    rw [this]; exact c1

theorem srs_head {w : World} {Z : Nat → Prop} {b off : Nat} {x : Sr} {l : List Sr} (h : SrOut w Z (some ⟨b, off, none⟩) (x :: l)) : ∃ lo lc so sc, w.cell? ⟨b, off, none⟩ = some (.slice lo x.1.length lc) ∧ w.cell? ⟨b, off + 1, none⟩ = some (.slice so x.2.length sc) ∧ LOut w Z lo x.1 ∧ SOut w Z so x.2 ∧ b < w.heap.size := by
  obtain ⟨b', off', e, hb, hz, lo, lc, so, sc, c0, c1, hl, hs⟩ := h 0 (by simp)
  cases e
  exact ⟨lo, lc, so, sc, by simpa [HD.at_zero] using c0, by simpa [HD.at_zero] using c1, by simpa [HD.at_zero] using hl, by simpa [HD.at_zero] using hs, hb⟩

theorem ne_noneS {c : Nat} {b off : Nat} {A : Option Addr} (h : (if c = 1 then some (⟨b, off, none⟩ : Addr) else some ⟨b, off + 2, none⟩) = A) : A ≠ none := by
  rw [← h]; split <;> simp

/-- The samples' capacities are as they should be. -/
def CapOk (w : World) (ao : Option Addr) (l : List Sr) : Prop := ∀ i, i < l.length → ∀ b off so n sc, ao = some ⟨b, off, none⟩ → w.cell? ⟨b, off + i * 2 + 1, none⟩ = some (.slice so n sc) → n ≤ sc ∧ (so = none → sc = 0)

theorem CapOk.tail {w : World} {b off : Nat} {x : Sr} {l : List Sr} {cap : Nat} {A : Option Addr} (h : CapOk w (some ⟨b, off, none⟩) (x :: l)) (hc : (x :: l).length ≤ cap) (hA : (if cap = 1 then some (⟨b, off, none⟩ : Addr) else some ⟨b, off + 2, none⟩) = A) : CapOk w A l := by
  intro i hi b' off' so n sc e hcell
  have hn : cap ≠ 1 := by simp at hc; omega
  rw [← hA, if_neg hn] at e
  simp only [Option.some.injEq, Addr.mk.injEq, and_true] at e
  obtain ⟨rfl, rfl⟩ := e
  have : off + 2 + i * 2 + 1 = off + (i + 1) * 2 + 1 := by omega
  rw [this] at hcell
  exact h (i + 1) (by simpa using hi) b off so n sc rfl hcell

theorem CapOk.head {w : World} {b off : Nat} {x : Sr} {l : List Sr} (h : CapOk w (some ⟨b, off, none⟩) (x :: l)) {so : Option Addr} {n sc : Nat} (hc : w.cell? ⟨b, off + 1, none⟩ = some (.slice so n sc)) : n ≤ sc ∧ (so = none → sc = 0) := h 0 (by simp) b off so n sc rfl (by simpa using hc)

theorem srv_index0 (b off n c : Nat) (w : World) : (Instr.indexAt 27 (.slice (some ⟨b, off, none⟩) (n + 1) c) (.int .i64 0)).run Tryd.prog w = .ok (.pointer (some ⟨b, off, none⟩)) w := by
  have h0 : (0 : Int) < (n : Int) + 1 := by omega
  go_simp

theorem YC.index {P : Program} {C : World → Prop} {o : Oper} {a : Act} {t : TypeId} {x y : Operand} {v u k : Value} (h : o.op = .indexAddr t x y) (hx : a.eval x = u) (hy : a.eval y = k) (hr : ∀ w, (Instr.indexAt t u k).run P w = .ok v w) : YC P C o v a := fun w _ => .inl (by
  unfold execOp
  rw [h]
  simp [hx, hy, hr])

/-- The world from w on. -/
abbrev Fr (w : World) : World → Prop := fun W => Below w.heap.size w W

theorem ld_one (b k : Nat) (lo so : Option Addr) (ln lc sn sc : Nat) (w : World) (h0 : w.cell? ⟨b, k, none⟩ = some (.slice lo ln lc)) (h1 : w.cell? ⟨b, k + 1, none⟩ = some (.slice so sn sc)) : (Instr.loadAt 38 (.pointer (some ⟨b, k, none⟩))).run Tryd.prog w = .ok (.agg #[.slice lo ln lc, .slice so sn sc]) w := by
  have hs : (Tryd.prog.info? 38).map (·.size) = some 2 := by kernel_rfl
  go_simp

theorem ld_smq (b k : Nat) (ao : Option Addr) (n c : Nat) (w : World) (h : w.cell? ⟨b, k, none⟩ = some (.slice ao n c)) : (Instr.loadAt 36 (.pointer (some ⟨b, k, none⟩))).run Tryd.prog w = .ok (.slice ao n c) w := by
  have hs : (Tryd.prog.info? 36).map (·.size) = some 1 := by kernel_rfl
  go_simp

theorem capOk_of {w : World} {ao : Option Addr} {a : List Sr} (h : CapR w ao a) : CapOk w ao a := fun i hi b off so n sc e hc => h i hi b off e _ hc so n sc rfl

def lenW (v : Value) : Nat := match v with
  | .slice _ n _ => n
  | _ => 0

/-- Series of a block, each of them. -/
def OkL (l : List Sr) : Prop := ∀ x ∈ l, 0 < x.1.length ∧ x.1.length ≤ 8 ∧ 0 < x.2.length ∧ x.2.length ≤ 2000

theorem OkL.of {l : List Sr} (h : HD.Good l) : OkL l := fun x hx => by
  have hok := h.ok x hx
  have h1 := right_len hok.1
  have h2 := right_le hok.2.1
  exact ⟨by omega, by omega, hok.2.2.1, h2⟩

set_option maxRecDepth 100000 in
set_option maxHeartbeats 6400000 in
theorem bme_any (ao bo : Option Addr) (a b : List Sr) (ca cb : Nat) (w : World) (hA : SrRow w ao a) (hB : SrRow w bo b) (ga : HD.Good a) (gb : HD.Good b) (hka : CapR w ao a) (hkb : CapR w bo b) (hca : a.length ≤ ca) (hcb : b.length ≤ cb) (hna : ao = none → ca = 0) (hnb : bo = none → cb = 0) :
    Calls Tryd.prog 24 #[.slice ao a.length ca, .slice bo b.length cb] w fun e w' => ∃ v, e = .returned v ∧ SrOwn w' w.heap.size v (HD.jn a b) ∧ Below w.heap.size w w' := by
  have HA := hid (SrOut.of_row (Z := fun _ => False) hA (fun _ h => h.elim))
  have HB := hid (SrOut.of_row (Z := fun _ => False) hB (fun _ h => h.elim))
  have HFa := hid (OkL.of ga)
  have HFb := hid (OkL.of gb)
  have HKa0 := hid (capOk_of hka)
  have HKb0 := hid (capOk_of hkb)
  have hla := ga.few
  have hlb := gb.few
  clear hA hB ga gb hka hkb
  go_enter Tryd.func24, Tryd.ntmps24
  go_wp2_with fail
  go_loopw [0, 1, 5] (fun ta tb tl wr => ∃ (a' b' d : List Sr) (ao' bo' : Option Addr) (ca' cb' : Nat), ta = .slice ao' a'.length ca' ∧ tb = .slice bo' b'.length cb' ∧ a'.length ≤ ca' ∧ b'.length ≤ cb' ∧ d.length + a'.length + b'.length ≤ 200 ∧ HD.jn a b = d ++ HD.jn a' b' ∧ SrOut w (fun _ => False) ao' a' ∧ SrOut w (fun _ => False) bo' b' ∧ (ao' = none → ca' = 0) ∧ (bo' = none → cb' = 0) ∧ OkL a' ∧ OkL b' ∧ CapOk w ao' a' ∧ CapOk w bo' b' ∧ SrOwn wr w.heap.size tl d ∧ Below w.heap.size w wr) (fun ta tb _ _ => lenW ta + lenW tb)
  case atStart => exact ⟨a, b, [], ao, bo, ca, cb, rfl, rfl, hca, hcb, by simp; omega, rfl, HA.out, HB.out, hna, hnb, HFa.out, HFb.out, HKa0.out, HKb0.out, SrOwn.nil _ _, Below.refl _ _⟩
  case round =>
    obtain ⟨a', b', d, ao', bo', ca', cb', rfl, rfl, hca', hcb', hdl, hm, hSa, hSb, hna', hnb', hfa', hfb', hka', hkb', hso, hbel⟩ := hrel
    have HM := hid hm
    have HNa := hid hna'
    have HNb := hid hnb'
    have HSa := hid hSa
    have HSb := hid hSb
    have HFa' := hid hfa'
    have HFb' := hid hfb'
    have HKa := hid hka'
    have HKb := hid hkb'
    have HSo := hid hso
    have HBl := hid hbel
    obtain ⟨a5, c5, e5⟩ := hso.shape
    subst e5
    clear hm hna' hnb' hSa hSb hfa' hfb' hka' hkb' hso hbel HFa HFb HKa0 HKb0
    by_cases hboth : 0 < a'.length ∧ 0 < b'.length
    · rcases a' with _ | ⟨x, a2⟩
      · exact absurd hboth.1 (by simp)
      rcases b' with _ | ⟨y, b2⟩
      · exact absurd hboth.2 (by simp)
      clear hboth
      obtain ⟨ba, oa, Aa, rfl, hAa, hSa2⟩ := srs_tail HSa.out hca'
      obtain ⟨bb, ob, Ab, rfl, hAb, hSb2⟩ := srs_tail HSb.out hcb'
      obtain ⟨lo, lc, so, sc, d0, d1, hl, hs, hbw⟩ := srs_head HSa.out
      obtain ⟨lo2, lc2, so2, sc2, f0, f1, hl2, hs2, hbw2⟩ := srs_head HSb.out
      have hl1 : (x :: a2).length = a2.length + 1 := rfl
      have hl2' : (y :: b2).length = b2.length + 1 := rfl
      rw [hl1] at hca' hdl ⊢
      rw [hl2'] at hcb' hdl ⊢
      have HSa2 := hid hSa2
      have HSb2 := hid hSb2
      have HKa2 := hid (HKa.out.tail hca' hAa)
      have HKb2 := hid (HKb.out.tail hcb' hAb)
      have HSc := hid (HKa.out.head d1)
      have HSd := hid (HKb.out.head f1)
      have hfx := HFa'.out x (by simp)
      have hfy := HFb'.out y (by simp)
      have HCa : Hid (∀ W, Fr w W → W.cell? ⟨ba, oa, none⟩ = some (.slice lo x.1.length lc) ∧ W.cell? ⟨ba, oa + 1, none⟩ = some (.slice so x.2.length sc)) := fun W hW => ⟨(hW.cell (p := ⟨ba, oa, none⟩) hbw).trans d0, (hW.cell (p := ⟨ba, oa + 1, none⟩) hbw).trans d1⟩
      have HCb : Hid (∀ W, Fr w W → W.cell? ⟨bb, ob, none⟩ = some (.slice lo2 y.1.length lc2) ∧ W.cell? ⟨bb, ob + 1, none⟩ = some (.slice so2 y.2.length sc2)) := fun W hW => ⟨(hW.cell (p := ⟨bb, ob, none⟩) hbw2).trans f0, (hW.cell (p := ⟨bb, ob + 1, none⟩) hbw2).trans f1⟩
      have HCm : Hid (∀ W, Fr w W → Calls Tryd.prog 14 #[.slice lo x.1.length lc, .slice lo2 y.1.length lc2] W fun e w' => e = .returned (.int .i64 (LB.cmp x.1 y.1)) ∧ Below W.heap.size W w') := fun W hW => cmp_any lo lo2 x.1 y.1 lc lc2 W (hl.1.below hW) (hl2.1.below hW) (by omega) (by omega)
      have HCx : Hid (∀ W, Fr w W → Calls Tryd.prog 52 #[.agg #[.slice lo x.1.length lc, .slice so x.2.length sc]] W fun e w' => ∃ vl vs, e = .returned (.agg #[vl, vs]) ∧ OwnLb w' W.heap.size vl x.1 ∧ OwnSm w' W.heap.size vs x.2 ∧ Below W.heap.size W w') := fun W hW => copied_any x lo so lc sc W (hl.1.below hW) (hs.1.below hW) (by omega) (by omega) (by omega) (by omega)
      have HCy : Hid (∀ W, Fr w W → Calls Tryd.prog 52 #[.agg #[.slice lo2 y.1.length lc2, .slice so2 y.2.length sc2]] W fun e w' => ∃ vl vs, e = .returned (.agg #[vl, vs]) ∧ OwnLb w' W.heap.size vl y.1 ∧ OwnSm w' W.heap.size vs y.2 ∧ Below W.heap.size W w') := fun W hW => copied_any y lo2 so2 lc2 sc2 W (hl2.1.below hW) (hs2.1.below hW) (by omega) (by omega) (by omega) (by omega)
      have HCl : Hid (∀ W, Fr w W → Calls Tryd.prog 55 #[.slice lo x.1.length lc] W fun en w' => ∃ v', en = .returned v' ∧ OwnLb w' W.heap.size v' x.1 ∧ Below W.heap.size W w') := fun W hW => cloneL_row lo x.1 lc W (hl.1.below hW) (by omega) (by omega)
      have HMg : Hid (∀ W, Fr w W → Calls Tryd.prog 46 #[.slice so x.2.length sc, .slice so2 y.2.length sc2] W fun e w' => ∃ v, e = .returned v ∧ OwnSm w' W.heap.size v (CL.mrg x.2 y.2) ∧ Below W.heap.size W w') := fun W hW => merge_any so so2 x.2 y.2 sc sc2 W (hs.1.below hW) (hs2.1.below hW) HSc.out.1 HSd.out.1 (by omega) (by omega) HSc.out.2 HSd.out.2
      clear hSa2 hSb2 hl hs hl2 hs2 d0 d1 f0 f1 hl1 hl2' hbw hbw2
      have h1a : (1 : Int) ≤ (a2.length : Int) + 1 := by omega
      have h1b : (1 : Int) ≤ (b2.length : Int) + 1 := by omega
      have h0a : (0 : Int) < (a2.length : Int) + 1 := by omega
      have h0b : (0 : Int) < (b2.length : Int) + 1 := by omega
      have hcc1 : 1 ≤ ca' := by omega
      have hcc2 : 1 ≤ cb' := by omega
      generalize hcm : LB.cmp x.1 y.1 = cm at *
      have HCmE := hid hcm
      clear hcm
      go_wp2_with fail
      refine wp_region_class (fun W => Below wr.heap.size wr W) (by kernel_rfl) (by kernel_rfl) (Below.refl _ wr).drew ?_
      refine q_run (.slice (some ⟨ba, oa, none⟩) (a2.length + 1) ca') (by kernel_rfl) (fun W _ => by kernel_rfl) ?_
      go_frame
      refine q_index (.pointer (some ⟨ba, oa, none⟩)) (by kernel_rfl) rfl (by kernel_rfl) (by kernel_rfl) (srv_index0 ba oa a2.length ca') ?_
      go_frame
      refine q_run (.pointer (some ⟨ba, oa, none⟩)) (by kernel_rfl) (fun W _ => by kernel_rfl) ?_
      go_frame
      refine q_load (.slice lo x.1.length lc) (by kernel_rfl) rfl (by kernel_rfl) (fun W hW => ld_labels ba oa lo x.1.length lc W (HCa.out W (bel2 HBl.out hW)).1) ?_
      go_frame
      refine q_run (.slice (some ⟨bb, ob, none⟩) (b2.length + 1) cb') (by kernel_rfl) (fun W _ => by kernel_rfl) ?_
      go_frame
      refine q_index (.pointer (some ⟨bb, ob, none⟩)) (by kernel_rfl) rfl (by kernel_rfl) (by kernel_rfl) (srv_index0 bb ob b2.length cb') ?_
      go_frame
      refine q_run (.pointer (some ⟨bb, ob, none⟩)) (by kernel_rfl) (fun W _ => by kernel_rfl) ?_
      go_frame
      refine q_load (.slice lo2 y.1.length lc2) (by kernel_rfl) rfl (by kernel_rfl) (fun W hW => ld_labels bb ob lo2 y.1.length lc2 W (HCb.out W (bel2 HBl.out hW)).1) ?_
      go_frame
      refine q_call (.int .i64 cm) (by kernel_rfl) (fun W => by kernel_rfl) (fun W hW => (HCm.out W (bel2 HBl.out hW)).mono fun e w' h => ⟨h.1, bel2 hW h.2⟩) ?_
      go_frame
      refine q_run (.int .i64 cm) (by kernel_rfl) (fun W _ => by kernel_rfl) ?_
      go_frame
      refine wpQuiet_nil ?_
      intro w4 hb4
      have HB4 := hid (show Fr w w4 from bel2 HBl.out hb4)
      have HSo4 := hid (HSo.out.below hb4)
      have HBd := hid (show Fr w w4.drew from HB4.out.drew)
      clear hb4 HSo HBl HCm
      by_cases hneg : cm < 0
      · have HLt := hid hneg
        go_wp2_with fail
        refine wp_region_fin (Fr w) [0, 1, 2, 3, 7, 8] [4, 5, 6] [9, 10] (by kernel_rfl) (by kernel_rfl) ?_
        simp only [List.filterMap_cons, List.filterMap_nil, List.getElem?_toArray, List.getElem?_cons_zero, List.getElem?_cons_succ]
        refine takes.on (v := .slice a5 d.length c5) (YC.move rfl (by kernel_rfl)) ?_
        refine takes.on (v := .slice (some ⟨ba, oa, none⟩) (a2.length + 1) ca') (YC.move rfl (by kernel_rfl)) ?_
        refine takes.on (YC.index rfl (by kernel_rfl) (by kernel_rfl) (srv_index0 ba oa a2.length ca')) ?_
        refine takes.on (YC.load rfl (by kernel_rfl) fun W hW => ld_one ba oa lo so x.1.length lc x.2.length sc W (HCa.out W hW).1 (HCa.out W hW).2) ?_
        refine takes.on (v := .slice (some ⟨ba, oa, none⟩) (a2.length + 1) ca') (YC.move rfl (by kernel_rfl)) ?_
        refine takes.on (v := .slice Aa a2.length (ca' - 1)) (fun W _ => .inl (by go_simp)) ?_
        refine takes.off (C := Fr w) HBd.out ?_
        go_frame
        go_wp2_with fail
        refine (HCx.out w4.drew HBd.out).mono ?_
        rintro e w5 ⟨vl, vs, rfl, hvl, hvs, hb5⟩
        obtain ⟨vla, vlc, el⟩ := own_slice hvl
        obtain ⟨vsa, vsc, es⟩ := own_slice hvs
        subst el
        subst es
        have HB5 := hid (show Fr w w5 from bel2 HBd.out hb5)
        have hal : Below w5.heap.size w5 (w5.alloc (.cells #[.slice vla x.1.length vlc, .slice vsa x.2.length vsc] 38)) := (Below.refl _ w5).alloc (Nat.le_refl _) _
        have HB6 := hid (show Fr w _ from bel2 HB5.out hal)
        have hwd : w.heap.size ≤ w4.drew.heap.size := HBd.out.size
        obtain ⟨pa, pc, w7, hrun, hso7, hb7, _⟩ := ser_push x (((HSo4.out.below (show Below w4.heap.size w4 w4.drew from (Below.refl _ w4).drew)).below hb5).below hal) (row_low (row_kept hvl fun g _ hg => hal.block g (heap_lt hg)) hwd) (row_low (row_kept hvs fun g _ hg => hal.block g (heap_lt hg)) hwd) (heap_alloc_new w5 _) (by omega) HB6.out.size
        have HB7 := hid (show Fr w w7 from HB6.out.trans hb7)
        have HSo7 := hid hso7
        clear hvl hvs hb5 hal hso7 hb7 hwd
        go_wp2_with fail
        refine SeqQ.on (C := Fr w) HB5.out ?_
        go_wp2_with fail
        refine SeqQ.on (C := Fr w) HB6.out ?_
        go_wp2_with (at_builtin; refine Lib.wpList_append_run _ rfl _ _ _ _ rfl _ _ rfl rfl _ _ hrun ?_)
        refine SeqQ.fin (C := Fr w) HB7.out ?_
        refine takes.on (v := .slice pa (d.length + 1) pc) (fun W _ => .inl (by kernel_rfl)) ?_
        refine takes.on (v := .slice Aa a2.length (ca' - 1)) (fun W _ => .inl (by kernel_rfl)) ?_
        refine takes.fin (C := Fr w) HB7.out ?_
        go_frame
        go_wp2_with fail
        refine ⟨?rel, ?measure⟩
        case rel => exact ⟨a2, y :: b2, d ++ [x], Aa, some ⟨bb, ob, none⟩, ca' - 1, cb', rfl, rfl, by omega, by simpa using hcb', by simp; omega, by rw [HM.out, HD.jn_lt x y a2 b2 (by rw [HCmE.out]; exact HLt.out)]; simp, HSa2.out, HSb.out, fun h => absurd h (ne_noneS hAa), HNb.out, fun z hz => HFa'.out z (by simp [hz]), HFb'.out, HKa2.out, HKb.out, by simpa using HSo7.out, HB7.out⟩
        case measure => simp [lenW]
      · by_cases hpos : 0 < cm
        · have HGt := hid hpos
          go_wp2_with fail
          refine wp_region_fin (Fr w) [0, 1, 2, 3, 7, 8] [4, 5, 6] [9, 10] (by kernel_rfl) (by kernel_rfl) ?_
          simp only [List.filterMap_cons, List.filterMap_nil, List.getElem?_toArray, List.getElem?_cons_zero, List.getElem?_cons_succ]
          refine takes.on (v := .slice a5 d.length c5) (YC.move rfl (by kernel_rfl)) ?_
          refine takes.on (v := .slice (some ⟨bb, ob, none⟩) (b2.length + 1) cb') (YC.move rfl (by kernel_rfl)) ?_
          refine takes.on (YC.index rfl (by kernel_rfl) (by kernel_rfl) (srv_index0 bb ob b2.length cb')) ?_
          refine takes.on (YC.load rfl (by kernel_rfl) fun W hW => ld_one bb ob lo2 so2 y.1.length lc2 y.2.length sc2 W (HCb.out W hW).1 (HCb.out W hW).2) ?_
          refine takes.on (v := .slice (some ⟨bb, ob, none⟩) (b2.length + 1) cb') (YC.move rfl (by kernel_rfl)) ?_
          refine takes.on (v := .slice Ab b2.length (cb' - 1)) (fun W _ => .inl (by go_simp)) ?_
          refine takes.off (C := Fr w) HBd.out ?_
          go_frame
          go_wp2_with fail
          refine (HCy.out w4.drew HBd.out).mono ?_
          rintro e w5 ⟨vl, vs, rfl, hvl, hvs, hb5⟩
          obtain ⟨vla, vlc, el⟩ := own_slice hvl
          obtain ⟨vsa, vsc, es⟩ := own_slice hvs
          subst el
          subst es
          have HB5 := hid (show Fr w w5 from bel2 HBd.out hb5)
          have hal : Below w5.heap.size w5 (w5.alloc (.cells #[.slice vla y.1.length vlc, .slice vsa y.2.length vsc] 38)) := (Below.refl _ w5).alloc (Nat.le_refl _) _
          have HB6 := hid (show Fr w _ from bel2 HB5.out hal)
          have hwd : w.heap.size ≤ w4.drew.heap.size := HBd.out.size
          obtain ⟨pa, pc, w7, hrun, hso7, hb7, _⟩ := ser_push y (((HSo4.out.below (show Below w4.heap.size w4 w4.drew from (Below.refl _ w4).drew)).below hb5).below hal) (row_low (row_kept hvl fun g _ hg => hal.block g (heap_lt hg)) hwd) (row_low (row_kept hvs fun g _ hg => hal.block g (heap_lt hg)) hwd) (heap_alloc_new w5 _) (by omega) HB6.out.size
          have HB7 := hid (show Fr w w7 from HB6.out.trans hb7)
          have HSo7 := hid hso7
          clear hvl hvs hb5 hal hso7 hb7 hwd
          go_wp2_with fail
          refine SeqQ.on (C := Fr w) HB5.out ?_
          go_wp2_with fail
          refine SeqQ.on (C := Fr w) HB6.out ?_
          go_wp2_with (at_builtin; refine Lib.wpList_append_run _ rfl _ _ _ _ rfl _ _ rfl rfl _ _ hrun ?_)
          refine SeqQ.fin (C := Fr w) HB7.out ?_
          refine takes.on (v := .slice pa (d.length + 1) pc) (fun W _ => .inl (by kernel_rfl)) ?_
          refine takes.on (v := .slice Ab b2.length (cb' - 1)) (fun W _ => .inl (by kernel_rfl)) ?_
          refine takes.fin (C := Fr w) HB7.out ?_
          go_frame
          go_wp2_with fail
          refine ⟨?rel, ?measure⟩
          case rel => exact ⟨x :: a2, b2, d ++ [y], some ⟨ba, oa, none⟩, Ab, ca', cb' - 1, rfl, rfl, by simpa using hca', by omega, by simp; omega, by rw [HM.out, HD.jn_gt x y a2 b2 (by rw [HCmE.out]; exact HGt.out)]; simp, HSa.out, HSb2.out, HNa.out, fun h => absurd h (ne_noneS hAb), HFa'.out, fun z hz => HFb'.out z (by simp [hz]), HKa.out, HKb2.out, by simpa using HSo7.out, HB7.out⟩
          case measure => simp [lenW]
        · have hz : cm = 0 := by omega
          have HZ := hid hz
          subst hz
          go_wp2_with fail
          refine wp_region_take (Fr w) [0, 1, 2, 3, 4, 6, 7, 8, 9, 10, 11, 12, 13] [5, 14, 15, 16, 17, 18] (by kernel_rfl) (by kernel_rfl) ?_
          simp only [List.filterMap_cons, List.filterMap_nil, List.getElem?_toArray, List.getElem?_cons_zero, List.getElem?_cons_succ]
          refine takes.on (v := .slice a5 d.length c5) (YC.move rfl (by kernel_rfl)) ?_
          refine takes.on (v := .slice (some ⟨ba, oa, none⟩) (a2.length + 1) ca') (YC.move rfl (by kernel_rfl)) ?_
          refine takes.on (YC.index rfl (by kernel_rfl) (by kernel_rfl) (srv_index0 ba oa a2.length ca')) ?_
          refine takes.on (v := .pointer (some ⟨ba, oa, none⟩)) (fun W _ => .inl (by kernel_rfl)) ?_
          refine takes.on (YC.load rfl (by kernel_rfl) fun W hW => ld_labels ba oa lo x.1.length lc W (HCa.out W hW).1) ?_
          refine takes.on (v := .slice (some ⟨ba, oa, none⟩) (a2.length + 1) ca') (YC.move rfl (by kernel_rfl)) ?_
          refine takes.on (YC.index rfl (by kernel_rfl) (by kernel_rfl) (srv_index0 ba oa a2.length ca')) ?_
          refine takes.on (v := .pointer (some ⟨ba, oa + 1, none⟩)) (fun W _ => .inl (by kernel_rfl)) ?_
          refine takes.on (YC.load rfl (by kernel_rfl) fun W hW => ld_smq ba (oa + 1) so x.2.length sc W (HCa.out W hW).2) ?_
          refine takes.on (v := .slice (some ⟨bb, ob, none⟩) (b2.length + 1) cb') (YC.move rfl (by kernel_rfl)) ?_
          refine takes.on (YC.index rfl (by kernel_rfl) (by kernel_rfl) (srv_index0 bb ob b2.length cb')) ?_
          refine takes.on (v := .pointer (some ⟨bb, ob + 1, none⟩)) (fun W _ => .inl (by kernel_rfl)) ?_
          refine takes.on (YC.load rfl (by kernel_rfl) fun W hW => ld_smq bb (ob + 1) so2 y.2.length sc2 W (HCb.out W hW).2) ?_
          refine takes.off (C := Fr w) HBd.out ?_
          go_frame
          go_wp2_with fail
          refine (HCl.out w4.drew HBd.out).mono ?_
          rintro e w5 ⟨vl, rfl, hvl, hb5⟩
          obtain ⟨vla, vlc, el⟩ := own_slice hvl
          subst el
          have HB5 := hid (show Fr w w5 from bel2 HBd.out hb5)
          have HSo5 := hid ((HSo4.out.below (show Below w4.heap.size w4 w4.drew from (Below.refl _ w4).drew)).below hb5)
          have HL5 := hid (show OwnLb w5 w.heap.size (.slice vla x.1.length vlc) x.1 from row_low hvl HBd.out.size)
          clear hvl hb5
          go_wp2_with fail
          refine SeqQ.on (C := Fr w) HB5.out ?_
          go_wp2_with fail
          refine (HMg.out w5 HB5.out).mono ?_
          rintro e w6 ⟨vs, rfl, hvs, hb6⟩
          obtain ⟨vsa, vsc, es⟩ := own_slice hvs
          subst es
          have HB6 := hid (show Fr w w6 from bel2 HB5.out hb6)
          have hal : Below w6.heap.size w6 (w6.alloc (.cells #[.slice vla x.1.length vlc, .slice vsa (CL.mrg x.2 y.2).length vsc] 38)) := (Below.refl _ w6).alloc (Nat.le_refl _) _
          have HB7 := hid (show Fr w _ from bel2 HB6.out hal)
          obtain ⟨pa, pc, w8, hrun, hso8, hb8, _⟩ := ser_push (x.1, CL.mrg x.2 y.2) ((HSo5.out.below hb6).below hal) (row_kept (row_kept HL5.out fun g _ hg => hb6.block g (heap_lt hg)) fun g _ hg => hal.block g (heap_lt hg)) (row_low (row_kept hvs fun g _ hg => hal.block g (heap_lt hg)) HB5.out.size) (heap_alloc_new w6 _) (by omega) HB7.out.size
          have HB8 := hid (show Fr w w8 from HB7.out.trans hb8)
          have HSo8 := hid hso8
          clear hvs hb6 hal hso8 hb8
          go_wp2_with fail
          refine SeqQ.on (C := Fr w) HB6.out ?_
          go_wp2_with fail
          refine SeqQ.on (C := Fr w) HB6.out ?_
          go_wp2_with fail
          refine SeqQ.on (C := Fr w) HB7.out ?_
          go_wp2_with (at_builtin; refine Lib.wpList_append_run _ rfl _ _ _ _ rfl _ _ rfl rfl _ _ hrun ?_)
          refine SeqQ.on (C := Fr w) HB8.out ?_
          go_wp2_with fail
          refine SeqQ.done (C := Fr w) HB8.out ?_
          go_wp2_with fail
          go_quiet (fail)
          go_wp2_with fail
          refine ⟨?rel, ?measure⟩
          case rel => exact ⟨a2, b2, d ++ [(x.1, CL.mrg x.2 y.2)], Aa, Ab, ca' - 1, cb' - 1, rfl, rfl, by omega, by omega, by rw [List.length_append]; simp only [List.length_cons, List.length_nil]; omega, by rw [HM.out, HD.jn_eq x y a2 b2 HCmE.out]; simp, HSa2.out, HSb2.out, fun h => absurd h (ne_noneS hAa), fun h => absurd h (ne_noneS hAb), fun z hz => HFa'.out z (by simp [hz]), fun z hz => HFb'.out z (by simp [hz]), HKa2.out, HKb2.out, by simpa using HSo8.out.below (lbelow_drewN (Below.refl _ _) _), HB8.out.trans ((lbelow_drewN (Below.refl _ _) _).mono HB8.out.size)⟩
          case measure => simp [lenW]; omega
    · have HJn : Hid (HD.jn a b = d ++ (a' ++ b')) := by
        show _ = _
        rw [HM.out]
        by_cases h0 : 0 < a'.length
        · have hb0 : b' = [] := List.eq_nil_of_length_eq_zero (by omega)
          rw [hb0, HD.jn_nil, List.append_nil]
        · have ha0 : a' = [] := List.eq_nil_of_length_eq_zero (by omega)
          rw [ha0, HD.jn_nil', List.nil_append]
      have hal : Below wr.heap.size wr (wr.alloc (.cells #[.slice ao' a'.length ca', .slice bo' b'.length cb'] 27)) := (Below.refl _ wr).alloc (Nat.le_refl _) _
      have HB1 := hid (show Fr w _ from bel2 HBl.out hal)
      have HSo1 := hid (HSo.out.below hal)
      have HCc := hid (concat_any ao' bo' a' b' ca' cb' wr.heap.size w _ HB1.out HSa.out.row HSb.out.row HNa.out HNb.out (by omega) (by omega) (heap_alloc_new wr _))
      have HOk : Hid (OkL (a' ++ b')) := fun x hx => by
        rcases List.mem_append.1 hx with h | h
        · exact HFa'.out x h
        · exact HFb'.out x h
      have hRl : (a' ++ b').length ≤ 200 := by rw [List.length_append]; omega
      have hdR : d.length + (a' ++ b').length ≤ 200 := by rw [List.length_append]; omega
      generalize a' ++ b' = R at *
      have HX : Hid (Calls Tryd.prog 56 #[.slice (some ⟨wr.heap.size, 0, none⟩) 2 2] (wr.alloc (.cells #[.slice ao' a'.length ca', .slice bo' b'.length cb'] 27)) _) := HCc.out
      clear hal HM HSa HSb HNa HNb HFa' HFb' HKa HKb HCc
      have HRst : Hid (0 < a'.length → ¬ 0 < b'.length) := fun h0 h => hboth ⟨h0, h⟩
      clear hboth hca' hcb' hdl
      generalize a'.length = na at *
      generalize b'.length = nb at *
      by_cases h0 : 0 < na
      · have h0' : 0 < (na : Int) := by omega
        have h1' : ¬ 0 < (nb : Int) := by have := HRst.out h0; omega
        clear h0 HRst
        go_wp2_with fail
        refine HX.out.mono ?_
        rintro e w5 ⟨ro, rc, rfl, hR5, hfar, hb5⟩
        have HB5 := hid (show Fr w w5 from bel2 HB1.out hb5)
        have HSo5 := hid (HSo1.out.below hb5)
        have HR5 := hid hR5
        have HAp : Hid (∀ g, (Value.slice a5 d.length c5).ownBlock = some g → ∀ ad, ro = some ad → g ≠ ad.block) := fun g eg ad ea => by
          have h1 := hfar ad ea
          obtain ⟨_, _, h2, _⟩ := HSo1.out
          have h3 := (h2.lt g eg).2
          omega
        clear hb5 hR5 hfar HB1 HSo1 HX HBl HSo
        go_wp2_with fail
        go_loopw [5, 75] (fun t5 ti wq => ∃ i : Nat, i ≤ R.length ∧ ti = .int .i64 i ∧ Below w.heap.size w wq ∧ w5.heap.size ≤ wq.heap.size ∧ (∀ ad, ro = some ad → ad.block < w5.heap.size → wq.heap[ad.block]? = w5.heap[ad.block]?) ∧ SrOwn wq w.heap.size t5 (d ++ R.take i) ∧ ∀ g, t5.ownBlock = some g → ∀ ad, ro = some ad → ad.block < w5.heap.size → g ≠ ad.block) (fun _ ti _ => R.length - (intOf ti).toNat)
        case atStart => exact ⟨0, Nat.zero_le _, rfl, HB5.out, Nat.le_refl _, fun _ _ _ => rfl, by simpa using HSo5.out, fun g eg ad ea _ => HAp.out g eg ad ea⟩
        case round =>
          clear HSo5 HAp
          obtain ⟨i, hi, rfl, hbel, hsz, hrow, hown, hap⟩ := hrel
          have HBq := hid hbel
          have HOw := hid hown
          have HRw := hid hrow
          have HAp := hid hap
          obtain ⟨va, vc, ev⟩ := hown.shape
          subst ev
          clear hbel hown hrow hap
          have hdl2 : (d ++ R.take i).length ≤ 400 := by rw [List.length_append, List.length_take]; omega
          by_cases hlt : i < R.length
          · obtain ⟨g, off, hao, hbs, lo, lc, so, sc, d0, d1, hLR, hSR⟩ := HR5.out i hlt
            subst hao
            have hrb := HRw.out _ rfl hbs
            have c0 := (World.cell?_of_block (a := ⟨g, off + i * 2, none⟩) hrb).trans d0
            have c1 := (World.cell?_of_block (a := ⟨g, off + i * 2 + 1, none⟩) hrb).trans d1
            have hok := HOk.out _ (HD.at_mem R i hlt)
            have HTk : Hid (d ++ R.take (i + 1) = (d ++ R.take i) ++ [atSr R i]) := by
              show _ = _
              rw [List.take_succ_eq_append_getElem hlt, HD.at_get R i hlt, List.append_assoc]
            generalize d ++ R.take i = dd at *
            generalize atSr R i = x at *
            have hil : 0 ≤ (i : Int) ∧ (i : Int) < (R.length : Int) := by omega
            have hbx : Below wr.heap.size wr (wr.alloc (.cells #[.slice lo x.1.length lc, .slice so x.2.length sc] 38)) := (Below.refl _ wr).alloc (Nat.le_refl _) _
            have HBx := hid (bel2 HBq.out hbx)
            have HWx := hid hbx
            have HLR := hid hLR
            have HSR := hid hSR
            clear hbx hLR hSR d0 d1 hrb
            go_wp2_with fail
            generalize wr.alloc (.cells #[.slice lo x.1.length lc, .slice so x.2.length sc] 38) = w6 at *
            refine (copied_any x lo so lc sc w6 (HLR.out.below HBx.out) (HSR.out.below HBx.out) (by omega) (by omega) (by omega) (by omega)).mono ?_
            rintro e w7 ⟨vl, vs, rfl, hvl, hvs, hb7⟩
            obtain ⟨vla, vlc, el⟩ := own_slice hvl
            obtain ⟨vsa, vsc, es⟩ := own_slice hvs
            subst el
            subst es
            have hal : Below w7.heap.size w7 (w7.alloc (.cells #[.slice vla x.1.length vlc, .slice vsa x.2.length vsc] 38)) := (Below.refl _ w7).alloc (Nat.le_refl _) _
            have hW8 := bel2 (bel2 HWx.out hb7) hal
            have hwd : w.heap.size ≤ w6.heap.size := HBx.out.size
            have hwd8 := (bel2 HBq.out hW8).size
            obtain ⟨pa, pc, w9, hrun, hso9, hb9, hg9, hob9⟩ := ser_push x (HOw.out.below hW8) (row_low (row_kept hvl fun g _ hg => hal.block g (heap_lt hg)) hwd) (row_low (row_kept hvs fun g _ hg => hal.block g (heap_lt hg)) hwd) (heap_alloc_new w7 _) (by omega) hwd8
            have HSo9 := hid hso9
            have HB9 := hid (show Fr w w9 from (bel2 HBq.out hW8).trans hb9)
            have hs9 : w5.heap.size ≤ w9.heap.size := Nat.le_trans hsz (Nat.le_trans hW8.size hg9.size)
            have HRw9 : Hid (∀ ad, (some ⟨g, off, none⟩ : Option Addr) = some ad → ad.block < w5.heap.size → w9.heap[ad.block]? = w5.heap[ad.block]?) := fun ad ea hlt5 => by
              have h1 : ad.block < wr.heap.size := Nat.lt_of_lt_of_le hlt5 hsz
              refine (hg9.block ad.block (Nat.lt_of_lt_of_le h1 hW8.size) (fun e => HAp.out _ e.symm ad ea hlt5 rfl)).trans ?_
              exact (hW8.block _ h1).trans (HRw.out ad ea hlt5)
            have HAp9 : Hid (∀ q, (Value.slice pa (dd.length + 1) pc).ownBlock = some q → ∀ ad, (some ⟨g, off, none⟩ : Option Addr) = some ad → ad.block < w5.heap.size → q ≠ ad.block) := fun q eq ad ea hlt5 => by
              rcases hob9 with e | e
              · rw [e] at eq
                exact HAp.out q eq ad ea hlt5
              · rw [e] at eq
                have h2 := Nat.le_trans hsz hW8.size
                have h3 := Option.some.inj eq
                omega
            clear hvl hvs hb7 hal hso9 hb9 hg9 hob9 hW8 hwd hwd8 HRw HAp HOw HBq HWx HBx
            go_wp2_with (at_builtin; refine Lib.wpList_append_run _ rfl _ _ _ _ rfl _ _ rfl rfl _ _ hrun ?_)
            go_wp2_with fail
            go_roundw
            case rel => exact ⟨i + 1, by omega, by go_num, HB9.out, hs9, HRw9.out, by rw [HTk.out]; simpa using HSo9.out, HAp9.out⟩
            case measure => simp [intOf]; omega
          · have he : i = R.length := by omega
            have HE : Hid (SrOwn wr w.heap.size (.slice va (d ++ R.take i).length vc) (HD.jn a b)) := by
              have := HOw.out
              rw [HJn.out]
              rw [he, List.take_length] at this ⊢
              exact this
            subst he
            go_wp2_with fail
            go_ret
            exact ⟨_, rfl, HE.out, HBq.out⟩
      · have h0' : ¬ 0 < (na : Int) := by omega
        clear h0 HRst
        go_wp2_with fail
        refine HX.out.mono ?_
        rintro e w5 ⟨ro, rc, rfl, hR5, hfar, hb5⟩
        have HB5 := hid (show Fr w w5 from bel2 HB1.out hb5)
        have HSo5 := hid (HSo1.out.below hb5)
        have HR5 := hid hR5
        have HAp : Hid (∀ g, (Value.slice a5 d.length c5).ownBlock = some g → ∀ ad, ro = some ad → g ≠ ad.block) := fun g eg ad ea => by
          have h1 := hfar ad ea
          obtain ⟨_, _, h2, _⟩ := HSo1.out
          have h3 := (h2.lt g eg).2
          omega
        clear hb5 hR5 hfar HB1 HSo1 HX HBl HSo
        go_wp2_with fail
        go_loopw [5, 75] (fun t5 ti wq => ∃ i : Nat, i ≤ R.length ∧ ti = .int .i64 i ∧ Below w.heap.size w wq ∧ w5.heap.size ≤ wq.heap.size ∧ (∀ ad, ro = some ad → ad.block < w5.heap.size → wq.heap[ad.block]? = w5.heap[ad.block]?) ∧ SrOwn wq w.heap.size t5 (d ++ R.take i) ∧ ∀ g, t5.ownBlock = some g → ∀ ad, ro = some ad → ad.block < w5.heap.size → g ≠ ad.block) (fun _ ti _ => R.length - (intOf ti).toNat)
        case atStart => exact ⟨0, Nat.zero_le _, rfl, HB5.out, Nat.le_refl _, fun _ _ _ => rfl, by simpa using HSo5.out, fun g eg ad ea _ => HAp.out g eg ad ea⟩
        case round =>
          clear HSo5 HAp
          obtain ⟨i, hi, rfl, hbel, hsz, hrow, hown, hap⟩ := hrel
          have HBq := hid hbel
          have HOw := hid hown
          have HRw := hid hrow
          have HAp := hid hap
          obtain ⟨va, vc, ev⟩ := hown.shape
          subst ev
          clear hbel hown hrow hap
          have hdl2 : (d ++ R.take i).length ≤ 400 := by rw [List.length_append, List.length_take]; omega
          by_cases hlt : i < R.length
          · obtain ⟨g, off, hao, hbs, lo, lc, so, sc, d0, d1, hLR, hSR⟩ := HR5.out i hlt
            subst hao
            have hrb := HRw.out _ rfl hbs
            have c0 := (World.cell?_of_block (a := ⟨g, off + i * 2, none⟩) hrb).trans d0
            have c1 := (World.cell?_of_block (a := ⟨g, off + i * 2 + 1, none⟩) hrb).trans d1
            have hok := HOk.out _ (HD.at_mem R i hlt)
            have HTk : Hid (d ++ R.take (i + 1) = (d ++ R.take i) ++ [atSr R i]) := by
              show _ = _
              rw [List.take_succ_eq_append_getElem hlt, HD.at_get R i hlt, List.append_assoc]
            generalize d ++ R.take i = dd at *
            generalize atSr R i = x at *
            have hil : 0 ≤ (i : Int) ∧ (i : Int) < (R.length : Int) := by omega
            have hbx : Below wr.heap.size wr (wr.alloc (.cells #[.slice lo x.1.length lc, .slice so x.2.length sc] 38)) := (Below.refl _ wr).alloc (Nat.le_refl _) _
            have HBx := hid (bel2 HBq.out hbx)
            have HWx := hid hbx
            have HLR := hid hLR
            have HSR := hid hSR
            clear hbx hLR hSR d0 d1 hrb
            go_wp2_with fail
            generalize wr.alloc (.cells #[.slice lo x.1.length lc, .slice so x.2.length sc] 38) = w6 at *
            refine (copied_any x lo so lc sc w6 (HLR.out.below HBx.out) (HSR.out.below HBx.out) (by omega) (by omega) (by omega) (by omega)).mono ?_
            rintro e w7 ⟨vl, vs, rfl, hvl, hvs, hb7⟩
            obtain ⟨vla, vlc, el⟩ := own_slice hvl
            obtain ⟨vsa, vsc, es⟩ := own_slice hvs
            subst el
            subst es
            have hal : Below w7.heap.size w7 (w7.alloc (.cells #[.slice vla x.1.length vlc, .slice vsa x.2.length vsc] 38)) := (Below.refl _ w7).alloc (Nat.le_refl _) _
            have hW8 := bel2 (bel2 HWx.out hb7) hal
            have hwd : w.heap.size ≤ w6.heap.size := HBx.out.size
            have hwd8 := (bel2 HBq.out hW8).size
            obtain ⟨pa, pc, w9, hrun, hso9, hb9, hg9, hob9⟩ := ser_push x (HOw.out.below hW8) (row_low (row_kept hvl fun g _ hg => hal.block g (heap_lt hg)) hwd) (row_low (row_kept hvs fun g _ hg => hal.block g (heap_lt hg)) hwd) (heap_alloc_new w7 _) (by omega) hwd8
            have HSo9 := hid hso9
            have HB9 := hid (show Fr w w9 from (bel2 HBq.out hW8).trans hb9)
            have hs9 : w5.heap.size ≤ w9.heap.size := Nat.le_trans hsz (Nat.le_trans hW8.size hg9.size)
            have HRw9 : Hid (∀ ad, (some ⟨g, off, none⟩ : Option Addr) = some ad → ad.block < w5.heap.size → w9.heap[ad.block]? = w5.heap[ad.block]?) := fun ad ea hlt5 => by
              have h1 : ad.block < wr.heap.size := Nat.lt_of_lt_of_le hlt5 hsz
              refine (hg9.block ad.block (Nat.lt_of_lt_of_le h1 hW8.size) (fun e => HAp.out _ e.symm ad ea hlt5 rfl)).trans ?_
              exact (hW8.block _ h1).trans (HRw.out ad ea hlt5)
            have HAp9 : Hid (∀ q, (Value.slice pa (dd.length + 1) pc).ownBlock = some q → ∀ ad, (some ⟨g, off, none⟩ : Option Addr) = some ad → ad.block < w5.heap.size → q ≠ ad.block) := fun q eq ad ea hlt5 => by
              rcases hob9 with e | e
              · rw [e] at eq
                exact HAp.out q eq ad ea hlt5
              · rw [e] at eq
                have h2 := Nat.le_trans hsz hW8.size
                have h3 := Option.some.inj eq
                omega
            clear hvl hvs hb7 hal hso9 hb9 hg9 hob9 hW8 hwd hwd8 HRw HAp HOw HBq HWx HBx
            go_wp2_with (at_builtin; refine Lib.wpList_append_run _ rfl _ _ _ _ rfl _ _ rfl rfl _ _ hrun ?_)
            go_wp2_with fail
            go_roundw
            case rel => exact ⟨i + 1, by omega, by go_num, HB9.out, hs9, HRw9.out, by rw [HTk.out]; simpa using HSo9.out, HAp9.out⟩
            case measure => simp [intOf]; omega
          · have he : i = R.length := by omega
            have HE : Hid (SrOwn wr w.heap.size (.slice va (d ++ R.take i).length vc) (HD.jn a b)) := by
              have := HOw.out
              rw [HJn.out]
              rw [he, List.take_length] at this ⊢
              exact this
            subst he
            go_wp2_with fail
            go_ret
            exact ⟨_, rfl, HE.out, HBq.out⟩

end Go.Proofs.YtdmnlmohfaafoaeDoor

