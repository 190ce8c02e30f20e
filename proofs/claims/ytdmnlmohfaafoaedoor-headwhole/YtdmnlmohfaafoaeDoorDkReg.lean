/- A region that draws its order, in which calls that write stand one behind the other, and all else reads what no call writes: that is taken first, whatever the order; then the calls are walked one by one. -/
import Derived.BigQuiet
import Derived.RowKit
namespace Go.Proofs.YtdmnlmohfaafoaeDoor
open Go.RowKit

section
variable {P : Program} {md : Region.Mode} {ops : Array Oper} {C : World → Prop} {Q : Exit → Act → World → Prop}

/-- Whatever the order from here on; C holds all the way. -/
def anyC (P : Program) (md : Region.Mode) (ops : Array Oper) (C : World → Prop) (Q : Exit → Act → World → Prop) : Nat → Array Bool → Act → World → Prop
  | 0, listed, a, w => C w ∧ Region.ready md ops listed = [] ∧ Q .normal a w
  | fuel + 1, listed, a, w => C w ∧ (Region.ready md ops listed = [] → Q .normal a w) ∧ ∀ i ∈ Region.ready md ops listed, wpOp P ops Q i (anyC P md ops C Q fuel (listed.setIfInBounds i true)) a w

theorem anyC.any : ∀ {fuel : Nat} {listed : Array Bool} {a : Act} {w : World}, anyC P md ops C Q fuel listed a w → wpAny P md ops Q fuel listed a w
  | 0, _, _, _, h => h.2
  | _ + 1, _, _, _, h => ⟨h.2.1, fun i hi => wpOp_mono (fun _ _ h => anyC.any h) (h.2.2 i hi)⟩

theorem anyC.here {fuel : Nat} {listed : Array Bool} {a : Act} {w : World} (h : anyC P md ops C Q fuel listed a w) : C w := by
  cases fuel <;> exact h.1

/-- An operation that yields v wherever C holds, or calls what answers v and leaves the world. -/
def YC (P : Program) (C : World → Prop) (o : Oper) (v : Value) (a : Act) : Prop :=
  ∀ w, C w → (execOp a.eval o).run P w = .ok (.value v) w ∨ ∃ f args, (execOp a.eval o).run P w = .ok (.enter f args) w ∧ Calls P f args w fun e w' => e = .returned v ∧ w' = w

theorem YC.go {i : Nat} {o : Oper} {v : Value} {a : Act} {K : Act → World → Prop} {w : World} (hi : ops[i]? = some o) (hg : o.guard = none) (hy : YC P C o v a) (hC : C w) (h : K (a.put o.dst v) w) : wpOp P ops Q i K a w := by
  have hw : Region.wanted o (yielded ops a.tmps) = true := by unfold Region.wanted; rw [hg]
  unfold wpOp
  simp only [hi, hw, if_true, Oper.wp]
  refine .inl ?_
  rcases hy w hC with h1 | ⟨f, args, h1, h2⟩
  · rw [h1]; exact h
  · rw [h1]
    refine Calls.mono h2 fun e w' he => ?_
    obtain ⟨rfl, rfl⟩ := he
    exact h

/-- What another operation, apart from it, leaves of it: the same act but for one slot. -/
theorem putC {j : Nat} {oi oj : Oper} {v : Value} (hj : ops[j]? = some oj) (hap : oi.apart ops oj = true) (hsi : ∀ cs b, oi.op ≠ .select cs b) (hsj : ∀ cs b, oj.op ≠ .select cs b) (hQ : ∀ c a w, ¬ Q (.panic c) a w) {K : Act → World → Prop} {a : Act} {w : World}
    (hy : YC P C oi v a) (h : wpOp P ops Q j K (a.put oi.dst v) w) : wpOp P ops Q j (fun a' w' => YC P C oi v a' ∧ K (a'.put oi.dst v) w') a w := by
  obtain ⟨h1, h2, h3⟩ := Oper.apart_spec hap
  have hex := execOp_put oj hsj a oi.dst v h1
  have hkeep : ∀ u, YC P C oi v (a.put oj.dst u) := fun u w hw => by rw [execOp_put oi hsi a oj.dst u h3]; exact hy w hw
  have hkeepD : ∀ d u, YC P C oi v (Act.put { a with defers := d :: a.defers } oj.dst u) := fun d u w hw => by
    rw [execOp_put oi hsi _ oj.dst u h3]
    exact hy w hw
  have hK : ∀ u w', K ((a.put oi.dst v).put oj.dst u) w' → YC P C oi v (a.put oj.dst u) ∧ K ((a.put oj.dst u).put oi.dst v) w' := fun u w' hk => ⟨hkeep u, by rw [← Act.put_comm a v u h2]; exact hk⟩
  unfold wpOp at h ⊢
  simp only [hj] at h ⊢
  rw [wanted_put oj a oi.dst v h1] at h
  by_cases hw : Region.wanted oj (yielded ops a.tmps) = true
  · simp only [hw, if_true] at h ⊢
    rcases h with h | ⟨h, hl⟩
    · refine .inl ?_
      unfold Oper.wp at h ⊢
      rw [hex] at h
      revert h
      generalize (execOp a.eval oj).run P w = r
      intro h
      rcases r with ⟨n, w'⟩ | ⟨x, w'⟩
      · cases n with
        | value u => exact hK u w' h
        | skip => exact hK undef w' h
        | enter f args =>
          refine Calls.mono h fun e w'' he => ?_
          cases e with
          | returned u => exact hK u w'' he
          | panicked c => exact absurd he (hQ _ _ _)
          | outgrown => exact he
        | row row args => exact Rows.mono h fun u w'' he => hK u w'' he
        | defer d =>
          refine ⟨hkeepD d undef, ?_⟩
          have e1 := Act.put_comm { a with defers := d :: a.defers } (x := oi.dst) (y := oj.dst) v undef h2
          rw [← e1, ← Act.put_defers]
          exact h
        | _ => exact h
      · cases x with
        | panic u => exact absurd h (hQ _ _ _)
        | _ => exact h
    · refine .inr ⟨?_, hl⟩
      unfold Oper.asks at h ⊢
      rw [hex] at h
      exact h
  · simp only [hw] at h ⊢
    exact hK undef w h

/-- What only reads where C holds is taken first. -/
theorem anyC.first {i : Nat} {oi : Oper} {v : Value} (hi : ops[i]? = some oi) (hg : oi.guard = none) (hs : Region.noSelect ops = true) (hQ : ∀ c a w, ¬ Q (.panic c) a w) :
    ∀ (fuel : Nat) (listed : Array Bool) (a : Act) (w : World), (∀ j oj, ops[j]? = some oj → j ≠ i → listed.getD j true = false → (∀ e ∈ oj.after, Region.binds md e = true → e.on ≠ i) → oi.apart ops oj = true) →
      i ∈ Region.ready md ops listed → YC P C oi v a → anyC P md ops C Q fuel (listed.setIfInBounds i true) (a.put oi.dst v) w → anyC P md ops C Q (fuel + 1) listed a w := by
  have hsel := Region.noSelect_spec hs
  intro fuel
  induction fuel with
  | zero =>
    intro listed a w _ hr hy H
    refine ⟨H.1, fun h => (by rw [h] at hr; cases hr), fun j hj => ?_⟩
    rcases Nat.decEq j i with hji | hji
    · have h1 := ready_mono hj hji
      rw [H.2.1] at h1
      cases h1
    · subst hji
      exact hy.go hi hg H.1 H
  | succ fuel ih =>
    intro listed a w hfree hr hy H
    refine ⟨H.1, fun h => (by rw [h] at hr; cases hr), fun j hj => ?_⟩
    rcases Nat.decEq j i with hji | hji
    · have h1 := H.2.2 j (ready_mono hj hji)
      obtain ⟨hun, oj, hoj, hall⟩ := mem_ready.1 hj
      have h0 := (mem_ready.1 hr).1
      have hno : ∀ e ∈ oj.after, Region.binds md e = true → e.on ≠ i := by
        intro e he hb heq
        have h2 := hall e he hb
        rw [heq] at h2
        by_cases hlt : i < listed.size
        · simp [hlt] at h0 h2
          rw [h0] at h2; cases h2
        · simp [hlt] at h2
      refine wpOp_mono (fun a' w' h3 => ih (listed.setIfInBounds j true) a' w' ?_ (ready_mono hr (fun e => hji e.symm)) h3.1 ?_) (putC hoj (hfree j oj hoj hji hun hno) (fun cs b => hsel i oi cs b hi) (fun cs b => hsel j oj cs b hoj) hQ hy h1)
      · intro k ok hk hki hku hkn
        refine hfree k ok hk hki ?_ hkn
        by_cases hjk : j = k
        · subst hjk; exact hun
        · rw [getD_set_ne true hjk] at hku; exact hku
      · rw [Array.setIfInBounds_comm _ _ hji]
        exact h3.2
    · subst hji
      exact hy.go hi hg H.1 H

theorem anyC.take {i : Nat} {oi : Oper} {v : Value} {fuel : Nat} {listed : Array Bool} {a : Act} {w : World} (hi : ops[i]? = some oi) (hg : oi.guard = none) (hs : Region.noSelect ops = true) (hf : Region.free md ops listed i = true) (hr : (Region.ready md ops listed).contains i = true) (hQ : ∀ c a w, ¬ Q (.panic c) a w)
    (hy : YC P C oi v a) (h : anyC P md ops C Q fuel (listed.setIfInBounds i true) (a.put oi.dst v) w) : anyC P md ops C Q (fuel + 1) listed a w :=
  anyC.first hi hg hs hQ fuel listed a w (Region.free_spec hi hf) (by simpa using hr) hy h

/-- What is asked behind an operation that stands alone: C, and the next ones one by one. -/
def SeqQ (P : Program) (ops : Array Oper) (C : World → Prop) (Q : Exit → Act → World → Prop) : List Oper → Exit → Act → World → Prop
  | [], .normal, a, w => C w ∧ Q .normal a w
  | o :: os, .normal, a, w => C w ∧ wpList P ops (SeqQ P ops C Q os) [o] a w
  | _, e, a, w => Q e a w

theorem SeqQ.outs {os : List Oper} (h : LetsOut (SeqQ P ops C Q os)) : LetsOut Q := by
  obtain ⟨a, w, h⟩ := h
  cases os <;> exact ⟨a, w, h⟩

theorem SeqQ.exits {o : Oper} {os : List Oper} {a : Act} {w : World} {K : Act → World → Prop} (h : o.wp P a w K (SeqQ P ops C Q os)) : o.wp P a w K Q := by
  unfold Oper.wp at *
  generalize (execOp a.eval o).run P w = r at *
  cases r with
  | ok n w' =>
    cases n <;> simp only [Oper.upon] at h ⊢ <;>
      first
        | exact h
        | exact Calls.mono h (fun e w'' he => by
            cases e with
            | returned u => exact he
            | panicked c => cases os <;> exact he
            | outgrown => exact SeqQ.outs he)
  | halt x w' =>
    cases x <;> simp only [Oper.upon] at h ⊢ <;>
      first
        | exact h
        | (cases os <;> exact h)

/-- An operation that stands alone. -/
theorem anyC.one {o : Oper} {os : List Oper} {i fuel : Nat} {listed : Array Bool} {a : Act} {w : World} (hi : ops[i]? = some o) (hg : o.guard = none) (hr : Region.ready md ops listed = [i]) (hC : C w)
    (hk : ∀ a w, SeqQ P ops C Q os .normal a w → anyC P md ops C Q fuel (listed.setIfInBounds i true) a w) (h : wpList P ops (SeqQ P ops C Q os) [o] a w) : anyC P md ops C Q (fuel + 1) listed a w := by
  refine ⟨hC, fun h1 => (by rw [hr] at h1; cases h1), fun j hj => ?_⟩
  rw [hr] at hj
  have hij : j = i := by simpa using hj
  subst hij
  have hw : Region.wanted o (yielded ops a.tmps) = true := by unfold Region.wanted; rw [hg]
  unfold wpOp
  simp only [hi, hw, if_true]
  simp only [wpList, hw, if_true] at h
  exact h.imp (fun h => SeqQ.exits (os := os) (Oper.wp_mono hk h)) (fun h => ⟨h.1, SeqQ.outs h.2⟩)

/-- No exit but the plain one. -/
def OnlyC (Q : Exit → Act → World → Prop) (e : Exit) (a : Act) (w : World) : Prop := e = .normal ∧ Q .normal a w

/-- What only reads, one behind the other, each as it is in every world where C holds; then the rest. -/
def takes (P : Program) (C : World → Prop) : List Oper → (Act → Prop) → Act → Prop
  | [], K, a => K a
  | o :: os, K, a => ∃ v, YC P C o v a ∧ takes P C os K (a.put o.dst v)

def soloB (ops : Array Oper) : List Nat → Array Bool → Bool
  | [], l => decide (Region.ready .any ops l = [])
  | j :: js, l => decide (Region.ready .any ops l = [j]) && soloB ops js (l.setIfInBounds j true)

/-- What the kernel reckons of the region: first the numbers is are free and ready, one behind the other; then the numbers js stand alone. -/
def takesB (ops : Array Oper) (js : List Nat) : List Nat → Array Bool → Bool
  | [], l => soloB ops js l
  | i :: is, l => Region.free .any ops l i && (Region.ready .any ops l).contains i && takesB ops js is (l.setIfInBounds i true)

/-- The operations of these numbers, none of them guarded. -/
def opsAt (ops : Array Oper) (is : List Nat) (os : List Oper) : Prop := is.map (fun i => ops[i]?) = os.map some ∧ ∀ o ∈ os, o.guard = none

theorem opsAt.cons {i : Nat} {is : List Nat} {o : Oper} {os : List Oper} (h : opsAt ops (i :: is) (o :: os)) : ops[i]? = some o ∧ o.guard = none ∧ opsAt ops is os := by
  obtain ⟨h1, h2⟩ := h
  simp only [List.map_cons, List.cons.injEq] at h1
  exact ⟨h1.1, h2 o (by simp), h1.2, fun x hx => h2 x (by simp [hx])⟩

theorem seq_any : ∀ {js : List Nat} {os : List Oper} {l : Array Bool} {a : Act} {w : World}, opsAt ops js os → soloB ops js l = true → SeqQ P ops C Q os .normal a w → anyC P .any ops C Q js.length l a w
  | [], [], l, a, w, _, hB, h => ⟨h.1, by simpa [soloB] using hB, h.2⟩
  | j :: js, o :: os, l, a, w, ho, hB, h => by
    obtain ⟨h1, h2, h3⟩ := ho.cons
    simp only [soloB, Bool.and_eq_true, decide_eq_true_eq] at hB
    exact anyC.one h1 h2 hB.1 h.1 (fun a w h => seq_any h3 hB.2 h) h.2
  | [], o :: os, l, a, w, ho, _, _ => by have := ho.1; simp at this
  | j :: js, [], l, a, w, ho, _, _ => by have := ho.1; simp at this

theorem takes_any (hs : Region.noSelect ops = true) (hQ : ∀ c a w, ¬ Q (.panic c) a w) {js : List Nat} {ps : List Oper} (hp : opsAt ops js ps) {w : World} : ∀ {is : List Nat} {os : List Oper} {l : Array Bool} {a : Act}, opsAt ops is os → takesB ops js is l = true → takes P C os (fun a => SeqQ P ops C Q ps .normal a w) a → anyC P .any ops C Q (is.length + js.length) l a w
  | [], [], l, a, _, hB, h => by
    rw [List.length_nil, Nat.zero_add]
    exact seq_any hp hB h
  | i :: is, o :: os, l, a, ho, hB, h => by
    obtain ⟨h1, h2, h3⟩ := ho.cons
    simp only [takesB, Bool.and_eq_true] at hB
    obtain ⟨v, hy, hk⟩ := h
    have e : (i :: is).length + js.length = is.length + js.length + 1 := by simp; omega
    rw [e]
    exact anyC.take h1 h2 hs hB.1.1 hB.1.2 hQ hy (takes_any hs hQ hp h3 hB.2 hk)
  | [], o :: os, l, a, ho, _, _ => by have := ho.1; simp at this
  | i :: is, [], l, a, ho, _, _ => by have := ho.1; simp at this

/-- The law. -/
theorem wp_region_takes {id : Nat} {a : Act} {w : World} (C : World → Prop) (is js : List Nat) (os ps : List Oper) (hm : P.follows .mixedOrders = true) (hs : Region.noSelect ops = true) (hB : takesB ops js is (Array.replicate ops.size false) = true) (hlen : is.length + js.length = ops.size) (ho : opsAt ops is os) (hp : opsAt ops js ps)
    (h : takes P C os (fun a => SeqQ P ops C (OnlyC Q) ps .normal a w.drew) a) : (Code.region id ops true).wp P Q a w :=
  Code.wp_mono (Q := OnlyC Q) (fun e a w h => by obtain ⟨rfl, h⟩ := h; exact h) (wp_region_any hm (by
    have := takes_any (Q := OnlyC Q) hs (fun _ _ _ h => nomatch h.1) hp ho hB h
    rw [hlen] at this
    exact this.any))

theorem SeqQ.on {o : Oper} {os : List Oper} {a : Act} {w : World} (hC : C w) (h : wpList P ops (SeqQ P ops C Q os) [o] a w) : SeqQ P ops C Q (o :: os) .normal a w := ⟨hC, h⟩

theorem SeqQ.done {a : Act} {w : World} (hC : C w) (h : Q .normal a w) : SeqQ P ops C (OnlyC Q) [] .normal a w := ⟨hC, rfl, h⟩

theorem takes.on {o : Oper} {os : List Oper} {K : Act → Prop} {a : Act} {v : Value} (h : YC P C o v a) (hk : takes P C os K (a.put o.dst v)) : takes P C (o :: os) K a := ⟨v, h, hk⟩

theorem takes.off {o : Oper} {os : List Oper} {a : Act} {w : World} (hC : C w) (h : wpList P ops (SeqQ P ops C Q os) [o] a w) : takes P C [] (fun a => SeqQ P ops C Q (o :: os) .normal a w) a := ⟨hC, h⟩

theorem YC.move {o : Oper} {a : Act} {x : Operand} {v : Value} (h : o.op = .move x) (hx : a.eval x = v) : YC P C o v a := fun w _ => .inl (by rw [← hx]; exact BigFrame.run_move x h w)

theorem YC.field {o : Oper} {a : Act} {t : TypeId} {x : Operand} {k : Nat} {v u : Value} (h : o.op = .fieldAddr t x k) (hx : a.eval x = u) (hr : ∀ w, (Instr.fieldAt t u k).run P w = .ok v w) : YC P C o v a := fun w _ => .inl (by
  unfold execOp
  rw [h]
  simp [hx, hr])

theorem YC.load {o : Oper} {a : Act} {t : TypeId} {x : Operand} {v u : Value} (h : o.op = .load t x) (hx : a.eval x = u) (hr : ∀ w, C w → (Instr.loadAt t u).run P w = .ok v w) : YC P C o v a := fun w hw => .inl (by
  unfold execOp
  rw [h]
  simp [hx, hr w hw])

theorem YC.lookup {o : Oper} {a : Act} {t : TypeId} {m x : Operand} {v u y : Value} (h : o.op = .lookup t m x false) (hm : a.eval m = u) (hx : a.eval x = y) (hr : ∀ w, C w → (Instr.lookup t u y false).run P w = .ok v w) : YC P C o v a := fun w hw => .inl (by
  unfold execOp
  rw [h]
  simp [hm, hx, hr w hw])

theorem YC.call {o : Oper} {a : Act} {f : FuncId} {vs : Array Value} {v : Value} (hr : ∀ w, (execOp a.eval o).run P w = .ok (.enter f vs) w) (hc : ∀ w, C w → Calls P f vs w fun e w' => e = .returned v ∧ w' = w) : YC P C o v a := fun w hw => .inr ⟨f, vs, hr w, hc w hw⟩

def plainB (ops : Array Oper) (is : List Nat) : Bool := is.all fun i => match ops[i]? with
  | some o => o.guard.isNone
  | none => false

theorem opsAt_of : ∀ {is : List Nat}, plainB ops is = true → opsAt ops is (is.filterMap fun i => ops[i]?)
  | [], _ => ⟨rfl, by simp⟩
  | i :: is, h => by
    simp only [plainB, List.all_cons, Bool.and_eq_true] at h
    obtain ⟨h1, h2⟩ := h
    obtain ⟨h3, h4⟩ := opsAt_of (is := is) h2
    cases ho : ops[i]? with
    | none => rw [ho] at h1; cases h1
    | some o =>
      rw [ho] at h1
      rw [List.filterMap_cons, ho]
      refine ⟨by rw [List.map_cons, List.map_cons, h3, ho], fun x hx => ?_⟩
      rcases List.mem_cons.1 hx with rfl | hx
      · simpa using h1
      · exact h4 x hx

/-- The law, its operations told by their numbers. -/
theorem wp_region_take {id : Nat} {a : Act} {w : World} (C : World → Prop) (is js : List Nat) (hm : P.follows .mixedOrders = true) (hB : (Region.noSelect ops && takesB ops js is (Array.replicate ops.size false) && decide (is.length + js.length = ops.size) && plainB ops is && plainB ops js) = true)
    (h : takes P C (is.filterMap fun i => ops[i]?) (fun a => SeqQ P ops C (OnlyC Q) (js.filterMap fun i => ops[i]?) .normal a w.drew) a) : (Code.region id ops true).wp P Q a w := by
  simp only [Bool.and_eq_true, decide_eq_true_eq] at hB
  obtain ⟨⟨⟨⟨h1, h2⟩, h3⟩, h4⟩, h5⟩ := hB
  exact wp_region_takes C is js _ _ hm h1 h2 h3 (opsAt_of h4) (opsAt_of h5) h

end

end Go.Proofs.YtdmnlmohfaafoaeDoor
