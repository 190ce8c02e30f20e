/- A region that draws its order, in which calls that write stand one behind the other, and all else reads what no call writes: that is taken first, whatever the order; then the calls are walked one by one. What compare, pairs and both tell: two results by a sign between them. -/
import Derived.BigQuiet
import Derived.RowKit
import Derived.Test.YtdmnlmohfaafoaeGreatDoorPEEwLess
import Derived.Test.YtdmnlmohfaafoaeGreatDoorPEEwVal
namespace Go.Proofs.YtdmnlmohfaafoaeGreatDoor
open Go.RowKit

section
variable {P : Program} {md : Region.Mode} {ops : Array Oper} {C : World → Prop} {Q : Exit → Act → World → Prop}

/-- Whatever the order from here on; C holds all the way. -/
def anyC (P : Program) (md : Region.Mode) (ops : Array Oper) (C : World → Prop) (Q : Exit → Act → World → Prop) : Nat → Array Bool → Act → World → Prop
  | 0, listed, a, w => C w ∧ Region.ready md ops listed = [] ∧ Q .normal a w
  | fuel + 1, listed, a, w => C w ∧ (Region.ready md ops listed = [] → Q .normal a w) ∧ ∀ i ∈ Region.ready md ops listed, wpOp P ops Q i (anyC P md ops C Q fuel (listed.setIfInBounds i true)) a w

theorem anyC.any : ∀ {fuel : Nat} {listed : Array Bool} {a : Act} {w : World}, anyC P md ops C Q fuel listed a w → wpAny P md ops Q fuel listed a w
  | 0, _, _, _, h => h.2
  | _ + 1, _, _, _, h => ⟨h.2.1, fun i hi => wpOp_mono (fun _ _ h => anyC.any h) (h.2.2 i hi)⟩

theorem anyC.here {fuel : Nat} {listed : Array Bool} {a : Act} {w : World} (h : anyC P md ops C Q fuel listed a w) : C w := by
  cases fuel <;> exact h.1

/-- An operation that yields v wherever C holds, or calls what answers v and leaves the world. -/
def YC (P : Program) (C : World → Prop) (o : Oper) (v : Value) (a : Act) : Prop :=
  ∀ w, C w → (execOp a.eval o).run P w = .ok (.value v) w ∨ ∃ f args, (execOp a.eval o).run P w = .ok (.enter f args) w ∧ Calls P f args w fun e w' => e = .returned v ∧ w' = w

theorem YC.go {i : Nat} {o : Oper} {v : Value} {a : Act} {K : Act → World → Prop} {w : World} (hi : ops[i]? = some o) (hg : o.guard = none) (hy : YC P C o v a) (hC : C w) (h : K (a.put o.dst v) w) : wpOp P ops Q i K a w := by
  have hw : Region.wanted o (yielded ops a.tmps) = true := by unfold Region.wanted; rw [hg]
  unfold wpOp
  simp only [hi, hw, if_true, Oper.wp]
  refine .inl ?_
  rcases hy w hC with h1 | ⟨f, args, h1, h2⟩
  · rw [h1]; exact h
  · rw [h1]
    refine Calls.mono h2 fun e w' he => ?_
    obtain ⟨rfl, rfl⟩ := he
    exact h

/-- What another operation, apart from it, leaves of it: the same act but for one slot. -/
theorem putC {j : Nat} {oi oj : Oper} {v : Value} (hj : ops[j]? = some oj) (hap : oi.apart ops oj = true) (hsi : ∀ cs b, oi.op ≠ .select cs b) (hsj : ∀ cs b, oj.op ≠ .select cs b) (hQ : ∀ c a w, ¬ Q (.panic c) a w) {K : Act → World → Prop} {a : Act} {w : World}
    (hy : YC P C oi v a) (h : wpOp P ops Q j K (a.put oi.dst v) w) : wpOp P ops Q j (fun a' w' => YC P C oi v a' ∧ K (a'.put oi.dst v) w') a w := by
  obtain ⟨h1, h2, h3⟩ := Oper.apart_spec hap
  have hex := execOp_put oj hsj a oi.dst v h1
  have hkeep : ∀ u, YC P C oi v (a.put oj.dst u) := fun u w hw => by rw [execOp_put oi hsi a oj.dst u h3]; exact hy w hw
  have hkeepD : ∀ d u, YC P C oi v (Act.put { a with defers := d :: a.defers } oj.dst u) := fun d u w hw => by
    rw [execOp_put oi hsi _ oj.dst u h3]
    exact hy w hw
  have hK : ∀ u w', K ((a.put oi.dst v).put oj.dst u) w' → YC P C oi v (a.put oj.dst u) ∧ K ((a.put oj.dst u).put oi.dst v) w' := fun u w' hk => ⟨hkeep u, by rw [← Act.put_comm a v u h2]; exact hk⟩
  unfold wpOp at h ⊢
  simp only [hj] at h ⊢
  rw [wanted_put oj a oi.dst v h1] at h
  by_cases hw : Region.wanted oj (yielded ops a.tmps) = true
  · simp only [hw, if_true] at h ⊢
    rcases h with h | ⟨h, hl⟩
    · refine .inl ?_
      unfold Oper.wp at h ⊢
      rw [hex] at h
      revert h
      generalize (execOp a.eval oj).run P w = r
      intro h
      rcases r with ⟨n, w'⟩ | ⟨x, w'⟩
      · cases n with
        | value u => exact hK u w' h
        | skip => exact hK undef w' h
        | enter f args =>
          refine Calls.mono h fun e w'' he => ?_
          cases e with
          | returned u => exact hK u w'' he
          | panicked c => exact absurd he (hQ _ _ _)
          | outgrown => exact he
        | row row args => exact Rows.mono h fun u w'' he => hK u w'' he
        | defer d =>
          refine ⟨hkeepD d undef, ?_⟩
          have e1 := Act.put_comm { a with defers := d :: a.defers } (x := oi.dst) (y := oj.dst) v undef h2
          rw [← e1, ← Act.put_defers]
          exact h
        | _ => exact h
      · cases x with
        | panic u => exact absurd h (hQ _ _ _)
        | _ => exact h
    · refine .inr ⟨?_, hl⟩
      unfold Oper.asks at h ⊢
      rw [hex] at h
      exact h
  · simp only [hw] at h ⊢
    exact hK undef w h

/-- What only reads where C holds is taken first. -/
theorem anyC.first {i : Nat} {oi : Oper} {v : Value} (hi : ops[i]? = some oi) (hg : oi.guard = none) (hs : Region.noSelect ops = true) (hQ : ∀ c a w, ¬ Q (.panic c) a w) :
    ∀ (fuel : Nat) (listed : Array Bool) (a : Act) (w : World), (∀ j oj, ops[j]? = some oj → j ≠ i → listed.getD j true = false → (∀ e ∈ oj.after, Region.binds md e = true → e.on ≠ i) → oi.apart ops oj = true) →
      i ∈ Region.ready md ops listed → YC P C oi v a → anyC P md ops C Q fuel (listed.setIfInBounds i true) (a.put oi.dst v) w → anyC P md ops C Q (fuel + 1) listed a w := by
  have hsel := Region.noSelect_spec hs
  intro fuel
  induction fuel with
  | zero =>
    intro listed a w _ hr hy H
    refine ⟨H.1, fun h => (by rw [h] at hr; cases hr), fun j hj => ?_⟩
    rcases Nat.decEq j i with hji | hji
    · have h1 := ready_mono hj hji
      rw [H.2.1] at h1
      cases h1
    · subst hji
      exact hy.go hi hg H.1 H
  | succ fuel ih =>
    intro listed a w hfree hr hy H
    refine ⟨H.1, fun h => (by rw [h] at hr; cases hr), fun j hj => ?_⟩
    rcases Nat.decEq j i with hji | hji
    · have h1 := H.2.2 j (ready_mono hj hji)
      obtain ⟨hun, oj, hoj, hall⟩ := mem_ready.1 hj
      have h0 := (mem_ready.1 hr).1
      have hno : ∀ e ∈ oj.after, Region.binds md e = true → e.on ≠ i := by
        intro e he hb heq
        have h2 := hall e he hb
        rw [heq] at h2
        by_cases hlt : i < listed.size
        · simp [hlt] at h0 h2
          rw [h0] at h2; cases h2
        · simp [hlt] at h2
      refine wpOp_mono (fun a' w' h3 => ih (listed.setIfInBounds j true) a' w' ?_ (ready_mono hr (fun e => hji e.symm)) h3.1 ?_) (putC hoj (hfree j oj hoj hji hun hno) (fun cs b => hsel i oi cs b hi) (fun cs b => hsel j oj cs b hoj) hQ hy h1)
      · intro k ok hk hki hku hkn
        refine hfree k ok hk hki ?_ hkn
        by_cases hjk : j = k
        · subst hjk; exact hun
        · rw [getD_set_ne true hjk] at hku; exact hku
      · rw [Array.setIfInBounds_comm _ _ hji]
        exact h3.2
    · subst hji
      exact hy.go hi hg H.1 H

theorem anyC.take {i : Nat} {oi : Oper} {v : Value} {fuel : Nat} {listed : Array Bool} {a : Act} {w : World} (hi : ops[i]? = some oi) (hg : oi.guard = none) (hs : Region.noSelect ops = true) (hf : Region.free md ops listed i = true) (hr : (Region.ready md ops listed).contains i = true) (hQ : ∀ c a w, ¬ Q (.panic c) a w)
    (hy : YC P C oi v a) (h : anyC P md ops C Q fuel (listed.setIfInBounds i true) (a.put oi.dst v) w) : anyC P md ops C Q (fuel + 1) listed a w :=
  anyC.first hi hg hs hQ fuel listed a w (Region.free_spec hi hf) (by simpa using hr) hy h

/-- What is asked behind an operation that stands alone: C, and the next ones one by one. -/
def SeqQ (P : Program) (ops : Array Oper) (C : World → Prop) (Q : Exit → Act → World → Prop) : List Oper → Exit → Act → World → Prop
  | [], .normal, a, w => C w ∧ Q .normal a w
  | o :: os, .normal, a, w => C w ∧ wpList P ops (SeqQ P ops C Q os) [o] a w
  | _, e, a, w => Q e a w

theorem SeqQ.outs {os : List Oper} (h : LetsOut (SeqQ P ops C Q os)) : LetsOut Q := by
  obtain ⟨a, w, h⟩ := h
  cases os <;> exact ⟨a, w, h⟩

theorem SeqQ.exits {o : Oper} {os : List Oper} {a : Act} {w : World} {K : Act → World → Prop} (h : o.wp P a w K (SeqQ P ops C Q os)) : o.wp P a w K Q := by
  unfold Oper.wp at *
  generalize (execOp a.eval o).run P w = r at *
  cases r with
  | ok n w' =>
    cases n <;> simp only [Oper.upon] at h ⊢ <;>
      first
        | exact h
        | exact Calls.mono h (fun e w'' he => by
            cases e with
            | returned u => exact he
            | panicked c => cases os <;> exact he
            | outgrown => exact SeqQ.outs he)
  | halt x w' =>
    cases x <;> simp only [Oper.upon] at h ⊢ <;>
      first
        | exact h
        | (cases os <;> exact h)

/-- An operation that stands alone. -/
theorem anyC.one {o : Oper} {os : List Oper} {i fuel : Nat} {listed : Array Bool} {a : Act} {w : World} (hi : ops[i]? = some o) (hg : o.guard = none) (hr : Region.ready md ops listed = [i]) (hC : C w)
    (hk : ∀ a w, SeqQ P ops C Q os .normal a w → anyC P md ops C Q fuel (listed.setIfInBounds i true) a w) (h : wpList P ops (SeqQ P ops C Q os) [o] a w) : anyC P md ops C Q (fuel + 1) listed a w := by
  refine ⟨hC, fun h1 => (by rw [hr] at h1; cases h1), fun j hj => ?_⟩
  rw [hr] at hj
  have hij : j = i := by simpa using hj
  subst hij
  have hw : Region.wanted o (yielded ops a.tmps) = true := by unfold Region.wanted; rw [hg]
  unfold wpOp
  simp only [hi, hw, if_true]
  simp only [wpList, hw, if_true] at h
  exact h.imp (fun h => SeqQ.exits (os := os) (Oper.wp_mono hk h)) (fun h => ⟨h.1, SeqQ.outs h.2⟩)

/-- No exit but the plain one. -/
def OnlyC (Q : Exit → Act → World → Prop) (e : Exit) (a : Act) (w : World) : Prop := e = .normal ∧ Q .normal a w

/-- What only reads, one behind the other, each as it is in every world where C holds; then the rest. -/
def takes (P : Program) (C : World → Prop) : List Oper → (Act → Prop) → Act → Prop
  | [], K, a => K a
  | o :: os, K, a => ∃ v, YC P C o v a ∧ takes P C os K (a.put o.dst v)

def soloB (ops : Array Oper) : List Nat → Array Bool → Bool
  | [], l => decide (Region.ready .any ops l = [])
  | j :: js, l => decide (Region.ready .any ops l = [j]) && soloB ops js (l.setIfInBounds j true)

/-- What the kernel reckons of the region: first the numbers is are free and ready, one behind the other; then the numbers js stand alone. -/
def takesB (ops : Array Oper) (js : List Nat) : List Nat → Array Bool → Bool
  | [], l => soloB ops js l
  | i :: is, l => Region.free .any ops l i && (Region.ready .any ops l).contains i && takesB ops js is (l.setIfInBounds i true)

/-- The operations of these numbers, none of them guarded. -/
def opsAt (ops : Array Oper) (is : List Nat) (os : List Oper) : Prop := is.map (fun i => ops[i]?) = os.map some ∧ ∀ o ∈ os, o.guard = none

theorem opsAt.cons {i : Nat} {is : List Nat} {o : Oper} {os : List Oper} (h : opsAt ops (i :: is) (o :: os)) : ops[i]? = some o ∧ o.guard = none ∧ opsAt ops is os := by
  obtain ⟨h1, h2⟩ := h
  simp only [List.map_cons, List.cons.injEq] at h1
  exact ⟨h1.1, h2 o (by simp), h1.2, fun x hx => h2 x (by simp [hx])⟩

theorem seq_any : ∀ {js : List Nat} {os : List Oper} {l : Array Bool} {a : Act} {w : World}, opsAt ops js os → soloB ops js l = true → SeqQ P ops C Q os .normal a w → anyC P .any ops C Q js.length l a w
  | [], [], l, a, w, _, hB, h => ⟨h.1, by simpa [soloB] using hB, h.2⟩
  | j :: js, o :: os, l, a, w, ho, hB, h => by
    obtain ⟨h1, h2, h3⟩ := ho.cons
    simp only [soloB, Bool.and_eq_true, decide_eq_true_eq] at hB
    exact anyC.one h1 h2 hB.1 h.1 (fun a w h => seq_any h3 hB.2 h) h.2
  | [], o :: os, l, a, w, ho, _, _ => by have := ho.1; simp at this
  | j :: js, [], l, a, w, ho, _, _ => by have := ho.1; simp at this

theorem takes_any (hs : Region.noSelect ops = true) (hQ : ∀ c a w, ¬ Q (.panic c) a w) {js : List Nat} {ps : List Oper} (hp : opsAt ops js ps) {w : World} : ∀ {is : List Nat} {os : List Oper} {l : Array Bool} {a : Act}, opsAt ops is os → takesB ops js is l = true → takes P C os (fun a => SeqQ P ops C Q ps .normal a w) a → anyC P .any ops C Q (is.length + js.length) l a w
  | [], [], l, a, _, hB, h => by
    rw [List.length_nil, Nat.zero_add]
    exact seq_any hp hB h
  | i :: is, o :: os, l, a, ho, hB, h => by
    obtain ⟨h1, h2, h3⟩ := ho.cons
    simp only [takesB, Bool.and_eq_true] at hB
    obtain ⟨v, hy, hk⟩ := h
    have e : (i :: is).length + js.length = is.length + js.length + 1 := by simp; omega
    rw [e]
    exact anyC.take h1 h2 hs hB.1.1 hB.1.2 hQ hy (takes_any hs hQ hp h3 hB.2 hk)
  | [], o :: os, l, a, ho, _, _ => by have := ho.1; simp at this
  | i :: is, [], l, a, ho, _, _ => by have := ho.1; simp at this

/-- The law. -/
theorem wp_region_takes {id : Nat} {a : Act} {w : World} (C : World → Prop) (is js : List Nat) (os ps : List Oper) (hm : P.follows .mixedOrders = true) (hs : Region.noSelect ops = true) (hB : takesB ops js is (Array.replicate ops.size false) = true) (hlen : is.length + js.length = ops.size) (ho : opsAt ops is os) (hp : opsAt ops js ps)
    (h : takes P C os (fun a => SeqQ P ops C (OnlyC Q) ps .normal a w.drew) a) : (Code.region id ops true).wp P Q a w :=
  Code.wp_mono (Q := OnlyC Q) (fun e a w h => by obtain ⟨rfl, h⟩ := h; exact h) (wp_region_any hm (by
    have := takes_any (Q := OnlyC Q) hs (fun _ _ _ h => nomatch h.1) hp ho hB h
    rw [hlen] at this
    exact this.any))

theorem SeqQ.on {o : Oper} {os : List Oper} {a : Act} {w : World} (hC : C w) (h : wpList P ops (SeqQ P ops C Q os) [o] a w) : SeqQ P ops C Q (o :: os) .normal a w := ⟨hC, h⟩

theorem SeqQ.done {a : Act} {w : World} (hC : C w) (h : Q .normal a w) : SeqQ P ops C (OnlyC Q) [] .normal a w := ⟨hC, rfl, h⟩

theorem takes.on {o : Oper} {os : List Oper} {K : Act → Prop} {a : Act} {v : Value} (h : YC P C o v a) (hk : takes P C os K (a.put o.dst v)) : takes P C (o :: os) K a := ⟨v, h, hk⟩

theorem takes.off {o : Oper} {os : List Oper} {a : Act} {w : World} (hC : C w) (h : wpList P ops (SeqQ P ops C Q os) [o] a w) : takes P C [] (fun a => SeqQ P ops C Q (o :: os) .normal a w) a := ⟨hC, h⟩

theorem YC.move {o : Oper} {a : Act} {x : Operand} {v : Value} (h : o.op = .move x) (hx : a.eval x = v) : YC P C o v a := fun w _ => .inl (by rw [← hx]; exact BigFrame.run_move x h w)

theorem YC.field {o : Oper} {a : Act} {t : TypeId} {x : Operand} {k : Nat} {v u : Value} (h : o.op = .fieldAddr t x k) (hx : a.eval x = u) (hr : ∀ w, (Instr.fieldAt t u k).run P w = .ok v w) : YC P C o v a := fun w _ => .inl (by
  unfold execOp
  rw [h]
  simp [hx, hr])

theorem YC.load {o : Oper} {a : Act} {t : TypeId} {x : Operand} {v u : Value} (h : o.op = .load t x) (hx : a.eval x = u) (hr : ∀ w, C w → (Instr.loadAt t u).run P w = .ok v w) : YC P C o v a := fun w hw => .inl (by
  unfold execOp
  rw [h]
  simp [hx, hr w hw])

theorem YC.lookup {o : Oper} {a : Act} {t : TypeId} {m x : Operand} {v u y : Value} (h : o.op = .lookup t m x false) (hm : a.eval m = u) (hx : a.eval x = y) (hr : ∀ w, C w → (Instr.lookup t u y false).run P w = .ok v w) : YC P C o v a := fun w hw => .inl (by
  unfold execOp
  rw [h]
  simp [hm, hx, hr w hw])

theorem YC.call {o : Oper} {a : Act} {f : FuncId} {vs : Array Value} {v : Value} (hr : ∀ w, (execOp a.eval o).run P w = .ok (.enter f vs) w) (hc : ∀ w, C w → Calls P f vs w fun e w' => e = .returned v ∧ w' = w) : YC P C o v a := fun w hw => .inr ⟨f, vs, hr w, hc w hw⟩

def plainB (ops : Array Oper) (is : List Nat) : Bool := is.all fun i => match ops[i]? with
  | some o => o.guard.isNone
  | none => false

theorem opsAt_of : ∀ {is : List Nat}, plainB ops is = true → opsAt ops is (is.filterMap fun i => ops[i]?)
  | [], _ => ⟨rfl, by simp⟩
  | i :: is, h => by
    simp only [plainB, List.all_cons, Bool.and_eq_true] at h
    obtain ⟨h1, h2⟩ := h
    obtain ⟨h3, h4⟩ := opsAt_of (is := is) h2
    cases ho : ops[i]? with
    | none => rw [ho] at h1; cases h1
    | some o =>
      rw [ho] at h1
      rw [List.filterMap_cons, ho]
      refine ⟨by rw [List.map_cons, List.map_cons, h3, ho], fun x hx => ?_⟩
      rcases List.mem_cons.1 hx with rfl | hx
      · simpa using h1
      · exact h4 x hx

/-- The law, its operations told by their numbers. -/
theorem wp_region_take {id : Nat} {a : Act} {w : World} (C : World → Prop) (is js : List Nat) (hm : P.follows .mixedOrders = true) (hB : (Region.noSelect ops && takesB ops js is (Array.replicate ops.size false) && decide (is.length + js.length = ops.size) && plainB ops is && plainB ops js) = true)
    (h : takes P C (is.filterMap fun i => ops[i]?) (fun a => SeqQ P ops C (OnlyC Q) (js.filterMap fun i => ops[i]?) .normal a w.drew) a) : (Code.region id ops true).wp P Q a w := by
  simp only [Bool.and_eq_true, decide_eq_true_eq] at hB
  obtain ⟨⟨⟨⟨h1, h2⟩, h3⟩, h4⟩, h5⟩ := hB
  exact wp_region_takes C is js _ _ hm h1 h2 h3 (opsAt_of h4) (opsAt_of h5) h

end

end Go.Proofs.YtdmnlmohfaafoaeGreatDoor

namespace Go.Proofs.YtdmnlmohfaafoaeGreatDoor
open Go.RowKit Go.Shelf

theorem pcmp_any (ao bo : Option Addr) (a b : List LB.Lab) (ca cb : Nat) (x y : Int) (w : World) (hA : LRow w ao a) (hB : LRow w bo b) (ha : a.length ≤ 1000) (hb : b.length ≤ 1000) :
    Calls Tryz.prog 181 #[.agg #[.slice ao a.length ca, .int .i64 x], .agg #[.slice bo b.length cb, .int .i64 y]] w fun e w' => e = .returned (.int .i64 (LB.cmp a b)) ∧ Below w.heap.size w w' := by
  have hb2 : Below w.heap.size w ((w.alloc (.cells #[.slice ao a.length ca, .int .i64 x] 55)).alloc (.cells #[.slice bo b.length cb, .int .i64 y] 55)) := ((Below.refl _ w).alloc (Nat.le_refl _) _).alloc (by simp) _
  have HC := hid (cmp_any ao bo a b ca cb _ (hA.below hb2) (hB.below hb2) ha hb)
  have HB := hid hb2
  clear hA hB hb2
  go_enter Tryz.func181, Tryz.ntmps181
  go_wp2_with fail
  refine HC.out.mono ?_
  rintro e w2 ⟨rfl, hb2⟩
  have HB2 := hid (bel2 HB.out hb2)
  clear hb2 HC
  go_wp2_with fail
  go_ret
  exact ⟨rfl, HB2.out⟩

/-- The sign's function: its boxes, and the result that it adds to. -/
structure Sg (W : World) (c : Int) (bc ba pb br : Nat) : Prop where
  code : W.heap[bc]? = some (.cells #[.int .i64 c] 3)
  add : W.heap[ba]? = some (.cells #[.func (.func 175) #[] #[.pointer (some ⟨pb, 0, none⟩)]] 215)
  ptr : W.heap[pb]? = some (.cells #[.pointer (some ⟨br, 0, none⟩)] 255)

theorem Sg.step {W W' : World} {c : Int} {bc ba pb br : Nat} {v v' : Value} {base n : Nat} {ys : List Value} {al : Bool} (h : Sg W c bc ba pb br) (k : PStep W W' br v v') (hv : W.ownsRow base 55 2 v n ys) (hbr : W.heap[br]? = some (.cells #[v, .bool al] 140)) : Sg W' c bc ba pb br := by
  have key : ∀ {g : Nat} {cs : Array Value} {T : TypeId}, W.heap[g]? = some (.cells cs T) → 55 ≠ T → 140 ≠ T → W'.heap[g]? = some (.cells cs T) := fun {g cs T} hg h1 h2 => by
    refine (k.block g (heap_lt hg) (fun e => ?_) (own_kind hv hg h1)).trans hg
    subst e
    rw [hbr] at hg
    simp only [Option.some.injEq, Obj.cells.injEq] at hg
    exact h2 hg.2.1
  exact ⟨key h.code (by decide) (by decide), key h.add (by decide) (by decide), key h.ptr (by decide) (by decide)⟩

theorem Sg.below {W W' : World} {c : Int} {bc ba pb br : Nat} (h : Sg W c bc ba pb br) (k : Below W.heap.size W W') : Sg W' c bc ba pb br := ⟨(k.block _ (heap_lt h.code)).trans h.code, (k.block _ (heap_lt h.add)).trans h.add, (k.block _ (heap_lt h.ptr)).trans h.ptr⟩

/-- What the sign adds. -/
def sg (c : Int) (L : List LB.Lab) (a b : Int) : List EV.Pt := ((EV.two c a b).map fun v => (L, v)).toList

theorem sg_len (c : Int) (L : List LB.Lab) (a b : Int) : (sg c L a b).length ≤ 1 := by
  unfold sg
  cases EV.two c a b <;> simp

set_option maxRecDepth 100000 in
theorem sign_any (w0 W0 : World) (c : Int) (bc ba br pb : Nat) (v : Value) (al : Bool) (xs : List (Value × Value)) (pts : List EV.Pt) (lo : Option Addr) (L : List LB.Lab) (lc : Nat) (x y : Int) (hc : 13 ≤ c ∧ c ≤ 16) (h : PB w0 W0 br v al xs pts) (hs : Sg W0 c bc ba pb br) (hL : RL w0 W0 NoZ (.slice lo L.length lc) L) (hn : pts.length ≤ 1000000) :
    Calls Tryz.prog 183 #[.slice lo L.length lc, .int .i64 x, .int .i64 y, .pointer (some ⟨bc, 0, none⟩), .pointer (some ⟨ba, 0, none⟩)] W0 fun e w' => e = .returned (.tuple #[]) ∧ ∃ v' xs', PB w0 w' br v' al xs' (pts ++ sg c L x y) ∧ PStep W0 w' br v v' := by
  have c0 : W0.cell? ⟨bc, 0, none⟩ = some (.int .i64 c) := zcell' _ _ _ _ hs.code 0 _ rfl
  have c1 : W0.cell? ⟨ba, 0, none⟩ = some (.func (.func 175) #[] #[.pointer (some ⟨pb, 0, none⟩)]) := zcell' _ _ _ _ hs.add 0 _ rfl
  have HA := fun z => hid (add_any w0 W0 br pb v al xs pts lo L lc z h hs.ptr hL hn)
  have HH := hid h
  have HR := hid (arith_any c x y W0 hc)
  have HSg : Hid (sg c L x y = ((EV.two c x y).map fun v => (L, v)).toList) := rfl
  clear h hs hL
  generalize EV.two c x y = r at *
  generalize sg c L x y = R at *
  go_enter Tryz.func183, Tryz.ntmps183
  go_wp2_with fail
  refine HR.out.mono ?_
  rintro e w1 ⟨rfl, rfl⟩
  clear HR
  rcases r with _ | z
  · go_wp2_with fail
    go_end0
    refine ⟨rfl, v, xs, ?_, PStep.refl _ _ _⟩
    rw [HSg.out]
    simpa using HH.out
  · go_wp2_with fail
    refine (HA z).out.mono ?_
    rintro e w2 ⟨rfl, v', hB, hS⟩
    have HB := hid hB
    have HS := hid hS
    clear hB hS HA
    go_wp2_with fail
    go_end0
    refine ⟨rfl, v', xs ++ [(.slice lo L.length lc, .int .i64 z)], ?_, HS.out⟩
    rw [HSg.out]
    exact HB.out

theorem YC.indexP {P : Program} {C : World → Prop} {o : Oper} {a : Act} {t : TypeId} {x y : Operand} {v u k : Value} (h : o.op = .indexAddr t x y) (hx : a.eval x = u) (hy : a.eval y = k) (hr : ∀ w, (Instr.indexAt t u k).run P w = .ok v w) : YC P C o v a := fun w _ => .inl (by
  unfold execOp
  rw [h]
  simp [hx, hy, hr])

theorem pt_index0 (b off n c : Nat) (w : World) : (Instr.indexAt 49 (.slice (some ⟨b, off, none⟩) (n + 1) c) (.int .i64 0)).run Tryz.prog w = .ok (.pointer (some ⟨b, off, none⟩)) w := by
  have h0 : (0 : Int) < (n : Int) + 1 := by omega
  go_simp

theorem pt_load2 (b k : Nat) (ao : Option Addr) (n c : Nat) (x : Int) (w : World) (h0 : w.cell? ⟨b, k, none⟩ = some (.slice ao n c)) (h1 : w.cell? ⟨b, k + 1, none⟩ = some (.int .i64 x)) : (Instr.loadAt 55 (.pointer (some ⟨b, k, none⟩))).run Tryz.prog w = .ok (.agg #[.slice ao n c, .int .i64 x]) w := by
  have hs : (Tryz.prog.info? 55).map (·.size) = some 2 := by kernel_rfl
  go_simp

theorem atP_cons (x : EV.Pt) (l : List EV.Pt) (i : Nat) : atP (x :: l) (i + 1) = atP l i := rfl
theorem atP_zero (x : EV.Pt) (l : List EV.Pt) : atP (x :: l) 0 = x := rfl

theorem pts_tail {w : World} {ao : Option Addr} {x : EV.Pt} {l : List EV.Pt} {cap : Nat} (h : PRow w ao (x :: l)) (hc : (x :: l).length ≤ cap) :
    ∃ b off A, ao = some ⟨b, off, none⟩ ∧ (if cap = 1 then some ⟨b, off, none⟩ else some ⟨b, off + 2, none⟩) = A ∧ PRow w A l := by
  obtain ⟨b, off, e, _⟩ := h 0 (by simp)
  refine ⟨b, off, _, e, rfl, fun i hi => ?_⟩
  obtain ⟨b', off', e', hb, lo, lc, c0, c1, hl⟩ := h (i + 1) (by simpa using hi)
  rw [e] at e'
  simp only [Option.some.injEq, Addr.mk.injEq, and_true] at e'
  obtain ⟨rfl, rfl⟩ := e'
  have hn : cap ≠ 1 := by simp at hc; omega
  rw [atP_cons] at c0 c1 hl
  refine ⟨b, off + 2, by rw [if_neg hn], hb, lo, lc, ?_, ?_, hl⟩
  · have : off + 2 + i * 2 = off + (i + 1) * 2 := by omega
    rw [this]; exact c0
  · have : off + 2 + i * 2 + 1 = off + (i + 1) * 2 + 1 := by omega
    rw [this]; exact c1

theorem pts_head {w : World} {b off : Nat} {x : EV.Pt} {l : List EV.Pt} (h : PRow w (some ⟨b, off, none⟩) (x :: l)) : ∃ lo lc, w.cell? ⟨b, off, none⟩ = some (.slice lo x.1.length lc) ∧ w.cell? ⟨b, off + 1, none⟩ = some (.int .i64 x.2) ∧ LRow w lo x.1 ∧ b < w.heap.size := by
  obtain ⟨b', off', e, hb, lo, lc, c0, c1, hl⟩ := h 0 (by simp)
  cases e
  exact ⟨lo, lc, by simpa [atP_zero] using c0, by simpa [atP_zero] using c1, by simpa [atP_zero] using hl, hb⟩

theorem few_cons {x : EV.Pt} {l : List EV.Pt} (hx : x.1.length ≤ 1000) (hl : ∀ p ∈ l, p.1.length ≤ 1000) : ∀ p ∈ x :: l, p.1.length ≤ 1000 := fun p hp => by
  rcases List.mem_cons.1 hp with rfl | hp
  · exact hx
  · exact hl p hp

theorem pt_fa0 (w : World) (b k : Nat) : (Instr.fieldAt 55 (.pointer (some ⟨b, k, none⟩)) 0).run Tryz.prog w = .ok (.pointer (some ⟨b, k, none⟩)) w := by
  go_simp
theorem pt_fa1 (w : World) (b k : Nat) : (Instr.fieldAt 55 (.pointer (some ⟨b, k, none⟩)) 1).run Tryz.prog w = .ok (.pointer (some ⟨b, k + 1, none⟩)) w := by
  go_simp

def lenV (v : Value) : Nat := match v with
  | .slice _ n _ => n
  | _ => 0

set_option maxRecDepth 100000 in
set_option maxHeartbeats 6400000 in
theorem pairs_any (w0 W0 : World) (c : Int) (bc ba br pb : Nat) (v : Value) (al : Bool) (xs : List (Value × Value)) (pts a b : List EV.Pt) (xo yo : Option Addr) (ca cb : Nat) (hc : 13 ≤ c ∧ c ≤ 16) (h : PB w0 W0 br v al xs pts) (hs : Sg W0 c bc ba pb br) (hxa : PRow w0 xo a) (hyb : PRow w0 yo b) (hca : a.length ≤ ca) (hcb : b.length ≤ cb) (hla : ∀ p ∈ a, p.1.length ≤ 1000) (hlb : ∀ p ∈ b, p.1.length ≤ 1000) (hn : pts.length + a.length ≤ 100000) :
    Calls Tryz.prog 185 #[.slice xo a.length ca, .slice yo b.length cb, .func (.func 183) #[] #[.pointer (some ⟨bc, 0, none⟩), .pointer (some ⟨ba, 0, none⟩)]] W0 fun e w' => e = .returned (.tuple #[]) ∧ ∃ v' xs', PB w0 w' br v' al xs' (pts ++ EV.prs c (a.length + b.length + 1) a b) ∧ PStep W0 w' br v v' := by
  have HB0 := hid h
  have HS0 := hid hs
  have HXA := hid hxa
  have HYB := hid hyb
  have HLA := hid hla
  have HLB := hid hlb
  clear h hs hxa hyb hla hlb
  generalize hT : pts ++ EV.prs c (a.length + b.length + 1) a b = Tot
  have HT := hid hT
  clear hT
  go_enter Tryz.func185, Tryz.ntmps185
  go_wp2_with fail
  go_loopw [0, 1] (fun ta tb wr => ∃ (a' b' pts' : List EV.Pt) (ao' bo' : Option Addr) (ca' cb' f : Nat) (v' : Value) (xs' : List (Value × Value)), ta = .slice ao' a'.length ca' ∧ tb = .slice bo' b'.length cb' ∧ a'.length ≤ ca' ∧ b'.length ≤ cb' ∧ PRow w0 ao' a' ∧ PRow w0 bo' b' ∧ (∀ p ∈ a', p.1.length ≤ 1000) ∧ (∀ p ∈ b', p.1.length ≤ 1000) ∧ pts'.length + a'.length ≤ 100000 ∧ a'.length + b'.length < f ∧ pts' ++ EV.prs c f a' b' = Tot ∧ PB w0 wr br v' al xs' pts' ∧ Sg wr c bc ba pb br ∧ PStep W0 wr br v v') (fun ta tb _ => lenV ta + lenV tb)
  case atStart => exact ⟨a, b, pts, xo, yo, ca, cb, _, v, xs, rfl, rfl, hca, hcb, HXA.out, HYB.out, HLA.out, HLB.out, hn, Nat.lt_succ_self _, HT.out, HB0.out, HS0.out, PStep.refl _ _ _⟩
  case round =>
    obtain ⟨a', b', pts', ao', bo', ca', cb', f, v', xs', rfl, rfl, hca', hcb', hra, hrb, hfa, hfb, hn', hf, htot, hpb, hsg, hps⟩ := hrel
    have HRA := hid hra
    have HRB := hid hrb
    have HFA := hid hfa
    have HFB := hid hfb
    have HTt := hid htot
    have HPB := hid hpb
    have HSG := hid hsg
    have HPS := hid hps
    clear hra hrb hfa hfb htot hpb hsg hps HB0 HS0 HXA HYB HLA HLB HT
    rcases a' with _ | ⟨x, a2⟩
    · have HE : Hid (pts' = Tot) := by
        show _ = _
        rw [← HTt.out]
        obtain ⟨k, rfl⟩ : ∃ k, f = k + 1 := ⟨f - 1, by omega⟩
        simp [EV.prs]
      go_wp2_with fail
      go_end0
      exact ⟨rfl, v', xs', by rw [← HE.out]; exact HPB.out, HPS.out⟩
    rcases b' with _ | ⟨y, b2⟩
    · have HE : Hid (pts' = Tot) := by
        show _ = _
        rw [← HTt.out]
        obtain ⟨k, rfl⟩ : ∃ k, f = k + 1 := ⟨f - 1, by omega⟩
        simp [EV.prs]
      have hl1 : (x :: a2).length = a2.length + 1 := rfl
      rw [hl1] at hca' hn' hf ⊢
      have h0a : (0 : Int) < (a2.length : Int) + 1 := by omega
      go_wp2_with fail
      go_end0
      exact ⟨rfl, v', xs', by rw [← HE.out]; exact HPB.out, HPS.out⟩
    obtain ⟨b1, o1, Aa, rfl, hAa, hRa2⟩ := pts_tail HRA.out hca'
    obtain ⟨b3, o3, Ab, rfl, hAb, hRb2⟩ := pts_tail HRB.out hcb'
    obtain ⟨lo, lc, d0, d1, hl, hbw⟩ := pts_head HRA.out
    obtain ⟨lo2, lc2, f0, f1, hl2, hbw2⟩ := pts_head HRB.out
    have hl1 : (x :: a2).length = a2.length + 1 := rfl
    have hl2' : (y :: b2).length = b2.length + 1 := rfl
    rw [hl1] at hca' hn' hf ⊢
    rw [hl2'] at hcb' hf ⊢
    obtain ⟨k, rfl⟩ : ∃ k, f = k + 1 := ⟨f - 1, by omega⟩
    have HRa2 := hid hRa2
    have HRb2 := hid hRb2
    have hfx := HFA.out x (by simp)
    have hfy := HFB.out y (by simp)
    have HFA2 : Hid (∀ p ∈ a2, p.1.length ≤ 1000) := fun p hp => HFA.out p (by simp [hp])
    have HFB2 : Hid (∀ p ∈ b2, p.1.length ≤ 1000) := fun p hp => HFB.out p (by simp [hp])
    have HCa : Hid (∀ W, Below w0.heap.size w0 W → W.cell? ⟨b1, o1, none⟩ = some (.slice lo x.1.length lc) ∧ W.cell? ⟨b1, o1 + 1, none⟩ = some (.int .i64 x.2)) := fun W hW => ⟨(hW.cell (p := ⟨b1, o1, none⟩) hbw).trans d0, (hW.cell (p := ⟨b1, o1 + 1, none⟩) hbw).trans d1⟩
    have HCb : Hid (∀ W, Below w0.heap.size w0 W → W.cell? ⟨b3, o3, none⟩ = some (.slice lo2 y.1.length lc2) ∧ W.cell? ⟨b3, o3 + 1, none⟩ = some (.int .i64 y.2)) := fun W hW => ⟨(hW.cell (p := ⟨b3, o3, none⟩) hbw2).trans f0, (hW.cell (p := ⟨b3, o3 + 1, none⟩) hbw2).trans f1⟩
    have HCm : Hid (∀ W, Below w0.heap.size w0 W → Calls Tryz.prog 181 #[.agg #[.slice lo x.1.length lc, .int .i64 x.2], .agg #[.slice lo2 y.1.length lc2, .int .i64 y.2]] W fun e w' => e = .returned (.int .i64 (LB.cmp x.1 y.1)) ∧ Below W.heap.size W w') := fun W hW => pcmp_any lo lo2 x.1 y.1 lc lc2 x.2 y.2 W (hl.below hW) (hl2.below hW) hfx hfy
    have HLx := hid hl
    have HEq : Hid (LB.cmp x.1 y.1 = 0 → pts' ++ sg c x.1 x.2 y.2 ++ EV.prs c k a2 b2 = Tot) := fun h => by
      rw [← HTt.out, List.append_assoc]
      congr 1
      rw [EV.prs, if_pos h]; rfl
    have HLt : Hid (LB.cmp x.1 y.1 = -1 → pts' ++ EV.prs c k a2 (y :: b2) = Tot) := fun h => by
      rw [← HTt.out]
      congr 1
      rw [EV.prs, if_neg (by omega), if_pos h]
    have HGt : Hid (LB.cmp x.1 y.1 = 1 → pts' ++ EV.prs c k (x :: a2) b2 = Tot) := fun h => by
      rw [← HTt.out]
      congr 1
      rw [EV.prs, if_neg (by omega), if_neg (by omega)]
    have hrng := LB.cmp_ord.rng x.1 y.1
    clear hRa2 hRb2 hl hl2 d0 d1 f0 f1 hl1 hl2' hbw hbw2 HTt HFA HFB
    have h1a : (1 : Int) ≤ (a2.length : Int) + 1 := by omega
    have h1b : (1 : Int) ≤ (b2.length : Int) + 1 := by omega
    have h0a : (0 : Int) < (a2.length : Int) + 1 := by omega
    have h0b : (0 : Int) < (b2.length : Int) + 1 := by omega
    have hcc1 : 1 ≤ ca' := by omega
    have hcc2 : 1 ≤ cb' := by omega
    generalize LB.cmp x.1 y.1 = cm at *
    have HPBb := hid HPB.out.bel
    go_wp2_with fail
    refine wp_region_class (fun W => Below wr.heap.size wr W) (by kernel_rfl) (by kernel_rfl) (Below.refl _ wr).drew ?_
    refine q_run (.slice (some ⟨b1, o1, none⟩) (a2.length + 1) ca') (by kernel_rfl) (fun W _ => by kernel_rfl) ?_
    go_frame
    refine q_index (.pointer (some ⟨b1, o1, none⟩)) (by kernel_rfl) rfl (by kernel_rfl) (by kernel_rfl) (pt_index0 b1 o1 a2.length ca') ?_
    go_frame
    refine q_load (.agg #[.slice lo x.1.length lc, .int .i64 x.2]) (by kernel_rfl) rfl (by kernel_rfl) (fun W hW => pt_load2 b1 o1 lo x.1.length lc x.2 W (HCa.out W (bel2 HPBb.out hW)).1 (HCa.out W (bel2 HPBb.out hW)).2) ?_
    go_frame
    refine q_run (.slice (some ⟨b3, o3, none⟩) (b2.length + 1) cb') (by kernel_rfl) (fun W _ => by kernel_rfl) ?_
    go_frame
    refine q_index (.pointer (some ⟨b3, o3, none⟩)) (by kernel_rfl) rfl (by kernel_rfl) (by kernel_rfl) (pt_index0 b3 o3 b2.length cb') ?_
    go_frame
    refine q_load (.agg #[.slice lo2 y.1.length lc2, .int .i64 y.2]) (by kernel_rfl) rfl (by kernel_rfl) (fun W hW => pt_load2 b3 o3 lo2 y.1.length lc2 y.2 W (HCb.out W (bel2 HPBb.out hW)).1 (HCb.out W (bel2 HPBb.out hW)).2) ?_
    go_frame
    refine q_call (.int .i64 cm) (by kernel_rfl) (fun W => by kernel_rfl) (fun W hW => (HCm.out W (bel2 HPBb.out hW)).mono fun e w' h => ⟨h.1, bel2 hW h.2⟩) ?_
    go_frame
    refine q_run (.int .i64 cm) (by kernel_rfl) (fun W _ => by kernel_rfl) ?_
    go_frame
    refine wpQuiet_nil ?_
    intro w4 hb4
    have HB4 := hid (HPB.out.below hb4)
    have HG4 := hid (HSG.out.below hb4)
    have HP4 := hid (HPS.out.trans (PStep.below (br := br) (v := v') hb4))
    clear hb4 HPB HSG HPS HCm HPBb
    rcases hrng with rfl | rfl | rfl
    · go_wp2_with fail
      refine ⟨?rel, ?measure⟩
      case rel => exact ⟨a2, y :: b2, pts', Aa, some ⟨b3, o3, none⟩, ca' - 1, cb', k, v', xs', rfl, rfl, by omega, by simpa using hcb', HRa2.out, HRB.out, HFA2.out, few_cons hfy HFB2.out, by omega, by simp; omega, HLt.out rfl, HB4.out, HG4.out, HP4.out⟩
      case measure => simp [lenV]
    · have HSn := hid (fun W (hB : PB w0 W br v' al xs' pts') (hG : Sg W c bc ba pb br) => sign_any w0 W c bc ba br pb v' al xs' pts' lo x.1 lc x.2 y.2 hc hB hG (.inl ⟨lo, lc, rfl, HLx.out, fun _ _ _ h => h⟩) (by omega))
      have HBd := hid (show Below w0.heap.size w0 w4.drew from HB4.out.bel.drew)
      have HB5 := hid (HB4.out.below (show Below w4.heap.size w4 w4.drew from (Below.refl _ w4).drew))
      have HG5 := hid (HG4.out.below (show Below w4.heap.size w4 w4.drew from (Below.refl _ w4).drew))
      have HP5 := hid (HP4.out.trans (PStep.below (br := br) (v := v') (show Below w4.heap.size w4 w4.drew from (Below.refl _ w4).drew)))
      clear HB4 HG4 HP4
      go_wp2_with fail
      refine wp_region_take (fun W => Below w0.heap.size w0 W) [0, 1, 2, 3, 4, 5, 6, 7, 8, 9, 10, 11, 12] [13] (by kernel_rfl) (by kernel_rfl) ?_
      simp only [List.filterMap_cons, List.filterMap_nil, List.getElem?_toArray, List.getElem?_cons_zero, List.getElem?_cons_succ]
      refine takes.on (v := .func (.func 183) #[] #[.pointer (some ⟨bc, 0, none⟩), .pointer (some ⟨ba, 0, none⟩)]) (YC.move rfl (by kernel_rfl)) ?_
      refine takes.on (v := .slice (some ⟨b1, o1, none⟩) (a2.length + 1) ca') (YC.move rfl (by kernel_rfl)) ?_
      refine takes.on (YC.indexP rfl (by kernel_rfl) (by kernel_rfl) (pt_index0 b1 o1 a2.length ca')) ?_
      refine takes.on (YC.field rfl (by kernel_rfl) (fun W => pt_fa0 W b1 o1)) ?_
      refine takes.on (YC.load rfl (by kernel_rfl) fun W hW => pt_loadL b1 o1 lo x.1.length lc W (HCa.out W hW).1) ?_
      refine takes.on (v := .slice (some ⟨b1, o1, none⟩) (a2.length + 1) ca') (YC.move rfl (by kernel_rfl)) ?_
      refine takes.on (YC.indexP rfl (by kernel_rfl) (by kernel_rfl) (pt_index0 b1 o1 a2.length ca')) ?_
      refine takes.on (YC.field rfl (by kernel_rfl) (fun W => pt_fa1 W b1 o1)) ?_
      refine takes.on (YC.load rfl (by kernel_rfl) fun W hW => pt_loadV b1 (o1 + 1) x.2 W (HCa.out W hW).2) ?_
      refine takes.on (v := .slice (some ⟨b3, o3, none⟩) (b2.length + 1) cb') (YC.move rfl (by kernel_rfl)) ?_
      refine takes.on (YC.indexP rfl (by kernel_rfl) (by kernel_rfl) (pt_index0 b3 o3 b2.length cb')) ?_
      refine takes.on (YC.field rfl (by kernel_rfl) (fun W => pt_fa1 W b3 o3)) ?_
      refine takes.on (YC.load rfl (by kernel_rfl) fun W hW => pt_loadV b3 (o3 + 1) y.2 W (HCb.out W hW).2) ?_
      refine takes.off (C := fun W => Below w0.heap.size w0 W) HBd.out ?_
      go_frame
      go_wp2_with fail
      refine (HSn.out w4.drew HB5.out HG5.out).mono ?_
      rintro e w6 ⟨rfl, v6, xs6, hB6, hS6⟩
      have HB6 := hid hB6
      have HG6 := hid (HG5.out.step hS6 HB5.out.row HB5.out.box)
      have HP6 := hid (HP5.out.trans hS6)
      clear hB6 hS6 HSn HB5 HG5 HP5 HBd
      go_wp2_with fail
      refine SeqQ.done (C := fun W => Below w0.heap.size w0 W) HB6.out.bel ?_
      go_wp2_with fail
      refine ⟨?rel, ?measure⟩
      case rel => exact ⟨a2, b2, pts' ++ sg c x.1 x.2 y.2, Aa, Ab, ca' - 1, cb' - 1, k, v6, xs6, rfl, rfl, by omega, by omega, HRa2.out, HRb2.out, HFA2.out, HFB2.out, by rw [List.length_append]; have := sg_len c x.1 x.2 y.2; omega, by omega, HEq.out trivial, HB6.out, HG6.out, HP6.out⟩
      case measure => simp [lenV]; omega
    · go_wp2_with fail
      refine ⟨?rel, ?measure⟩
      case rel => exact ⟨x :: a2, b2, pts', some ⟨b1, o1, none⟩, Ab, ca', cb' - 1, k, v', xs', rfl, rfl, by simpa using hca', by omega, HRA.out, HRb2.out, few_cons hfx HFA2.out, HFB2.out, by simpa using hn', by simp; omega, HGt.out rfl, HB4.out, HG4.out, HP4.out⟩
      case measure => simp [lenV]

end Go.Proofs.YtdmnlmohfaafoaeGreatDoor

