/- A region that draws its order: three moves, two operations one behind the other, a call, and behind it operations that only read: one walk serves every order. -/
import Derived.BigQuiet
import Derived.RowKit
namespace Go.Proofs.YtdmnlmohfaafoacGreatDoor
open Go.RowKit

section
variable {P : Program} {ops : Array Oper} {Q Q' : Exit → Act → World → Prop}

theorem wp_exits {o : Oper} {a : Act} {w : World} {K : Act → World → Prop} (hp : ∀ c a w, Q' (.panic c) a w → Q (.panic c) a w) (hl : LetsOut Q' → LetsOut Q) (h : o.wp P a w K Q') : o.wp P a w K Q := by
  unfold Oper.wp at *
  generalize (execOp a.eval o).run P w = r at *
  cases r with
  | ok n w' =>
    cases n <;> simp only [Oper.upon] at h ⊢ <;>
      first
        | exact h
        | exact Calls.mono h (fun e w'' he => by cases e <;> first | exact he | exact hp _ _ _ he | exact hl he)
  | halt x w' => cases x <;> simp only [Oper.upon] at h ⊢ <;> first | exact h | exact hp _ _ _ h

/-- What is asked behind the call: the rest, read in its own order. -/
def MidQ (P : Program) (ops : Array Oper) (Q : Exit → Act → World → Prop) (rest : List Oper) : Exit → Act → World → Prop
  | .normal, a, w => wpQuiet P ops (fun W => ∃ n, W = w.drewN n) (fun a' => ∀ W, (∃ n, W = w.drewN n) → Q .normal a' W) rest a
  | .exit i, a, w => Q (.exit i) a w
  | .goto i, a, w => Q (.goto i) a w
  | .ret, a, w => Q .ret a w
  | .panic c, a, w => Q (.panic c) a w
  | .outgrown, a, w => Q .outgrown a w

theorem MidQ.on {rest : List Oper} {a : Act} {w : World} (h : wpQuiet P ops (fun W => ∃ n, W = w.drewN n) (fun a' => ∀ W, (∃ n, W = w.drewN n) → Q .normal a' W) rest a) : MidQ P ops Q rest .normal a w := h

theorem MidQ.outs {rest : List Oper} (h : LetsOut (MidQ P ops Q rest)) : LetsOut Q := by
  obtain ⟨a, w, h⟩ := h
  exact ⟨a, w, h⟩

theorem wanted_free {o : Oper} (hg : o.guard = none) (y : Nat → Option Bool) : Region.wanted o y = true := by
  unfold Region.wanted; rw [hg]

theorem asks_move {o : Oper} {x : Operand} (h : o.op = .move x) (a : Act) (w : World) : ¬ o.asks P a w := by
  have e : ((execOp a.eval o).runT P w #[]).2 = #[] := by
    obtain ⟨dst, op, ty, pos, after, guard⟩ := o
    cases h
    rfl
  intro hh
  have h1 := hh.1
  rw [e] at h1
  cases h1 with
  | mk h1 => cases h1

theorem mid_one {md : Region.Mode} {rest l : List Oper} {o : Oper} {i fuel : Nat} {listed : Array Bool} {a : Act} {w : World} (hi : ops[i]? = some o) (hg : o.guard = none) (hr : Region.ready md ops listed = [i])
    (hk : ∀ a w, wpList P ops (MidQ P ops Q rest) l a w → wpAny P md ops Q fuel (listed.setIfInBounds i true) a w) (h : wpList P ops (MidQ P ops Q rest) (o :: l) a w) : wpAny P md ops Q (fuel + 1) listed a w := by
  refine ⟨fun h1 => (by rw [hr] at h1; cases h1), fun j hj => ?_⟩
  rw [hr] at hj
  have hij : j = i := by simpa using hj
  subst hij
  unfold wpOp
  simp only [hi, wanted_free hg, if_true]
  simp only [wpList, wanted_free hg, if_true] at h
  exact h.imp (fun h => wp_exits (Q' := MidQ P ops Q rest) (fun _ _ _ h => h) MidQ.outs (Oper.wp_mono hk h)) (fun h => ⟨h.1, MidQ.outs h.2⟩)

theorem mid_move {md : Region.Mode} {rest l : List Oper} {o : Oper} {x : Operand} {i fuel : Nat} {listed : Array Bool} {a : Act} {w : World} (hi : ops[i]? = some o) (hg : o.guard = none) (ho : o.op = .move x) (hs : Region.noSelect ops = true)
    (hf : Region.free md ops listed i = true) (hr : (Region.ready md ops listed).contains i = true) (hQ : ∀ c a d v w, Q (.panic c) (Act.put a d v) w → Q (.panic c) a w)
    (hk : ∀ a w, wpList P ops (MidQ P ops Q rest) l a w → wpAny P md ops Q fuel (listed.setIfInBounds i true) a w) (h : wpList P ops (MidQ P ops Q rest) (o :: l) a w) : wpAny P md ops Q (fuel + 1) listed a w := by
  simp only [wpList, wanted_free hg, if_true] at h
  rcases h with h | ⟨h, _⟩
  · have hrun : ∀ w, (execOp a.eval o).run P w = .ok (.value (a.eval x)) w := fun w => BigFrame.run_move x ho w
    refine wpAny_take (i := i) (v := a.eval x) hi hs hf hr (fun c a w h => hQ c a _ _ w h) (Or.inl ⟨wanted_free hg _, hrun⟩) ?_
    unfold Oper.wp at h
    rw [hrun] at h
    exact hk _ _ h
  · exact absurd h (asks_move ho a w)

/-- What the kernel reckons of the region. -/
def midB (ops : Array Oper) : Bool :=
  let L0 := Array.replicate ops.size false
  let L1 := L0.setIfInBounds 0 true
  let L2 := L1.setIfInBounds 1 true
  let L3 := L2.setIfInBounds 2 true
  let L4 := L3.setIfInBounds 3 true
  let L5 := L4.setIfInBounds 4 true
  let L6 := L5.setIfInBounds 5 true
  Region.noSelect ops && (Region.free .any ops L0 0 && (Region.ready .any ops L0).contains 0) && (Region.free .any ops L1 1 && (Region.ready .any ops L1).contains 1) && (Region.free .any ops L2 2 && (Region.ready .any ops L2).contains 2) &&
    decide (Region.ready .any ops L3 = [3]) && decide (Region.ready .any ops L4 = [4]) && decide (Region.ready .any ops L5 = [5]) && Region.lexFrom .any ops (ops.size - 6) 6 L6

theorem wp_region_mid0 {id : Nat} {a : Act} {w : World} {o0 o1 o2 o3 o4 o5 : Oper} {rest : List Oper} {x0 x1 x2 : Operand} (hm : P.follows .mixedOrders = true)
    (hB : midB (o0 :: o1 :: o2 :: o3 :: o4 :: o5 :: rest).toArray = true)
    (e0 : o0.op = .move x0) (e1 : o1.op = .move x1) (e2 : o2.op = .move x2) (g0 : o0.guard = none) (g1 : o1.guard = none) (g2 : o2.guard = none) (g3 : o3.guard = none) (g4 : o4.guard = none) (g5 : o5.guard = none)
    (hQ : ∀ c a d v w, Q (.panic c) (Act.put a d v) w → Q (.panic c) a w)
    (h : wpList P (o0 :: o1 :: o2 :: o3 :: o4 :: o5 :: rest).toArray (MidQ P (o0 :: o1 :: o2 :: o3 :: o4 :: o5 :: rest).toArray Q rest) [o0, o1, o2, o3, o4, o5] a w.drew) :
    (Code.region id (o0 :: o1 :: o2 :: o3 :: o4 :: o5 :: rest).toArray true).wp P Q a w := by
  refine wp_region_any hm ?_
  change wpAny _ _ _ _ _ _ _ (World.drew _)
  generalize ho : (o0 :: o1 :: o2 :: o3 :: o4 :: o5 :: rest).toArray = ops at *
  have hz : ops.size = rest.length + 1 + 1 + 1 + 1 + 1 + 1 := by rw [← ho]; simp
  simp only [midB, Bool.and_eq_true, decide_eq_true_eq] at hB
  obtain ⟨⟨⟨⟨⟨⟨⟨hs, h0f, h0r⟩, h1f, h1r⟩, h2f, h2r⟩, h3⟩, h4⟩, h5⟩, h6⟩ := hB
  have key : ∀ a w, wpList P ops (MidQ P ops Q rest) [] a w → wpAny P .any ops Q rest.length (((((((Array.replicate ops.size false).setIfInBounds 0 true).setIfInBounds 1 true).setIfInBounds 2 true).setIfInBounds 3 true).setIfInBounds 4 true).setIfInBounds 5 true) a w := by
    intro a w h
    have h' : wpQuiet P ops (fun W => ∃ n, W = w.drewN n) (fun a' => ∀ W, (∃ n, W = w.drewN n) → Q .normal a' W) rest a := h
    refine wpAny_of_quiet (C := fun W => ∃ n, W = w.drewN n) (Q := fun a' => ∀ W, (∃ n, W = w.drewN n) → Q .normal a' W) (fun _ w' hw' h => h w' hw') _ _ _ _ ⟨0, rfl⟩ ?_
    refine wpAnyQ_lex hs rest 6 _ a (fun j => by rw [← ho]; simp [Nat.add_comm 6 j]) ?_ h'
    rw [hz] at h6
    simpa [hz] using h6
  rw [hz]
  rw [← hz]
  have i0 : ops[0]? = some o0 := by rw [← ho]; rfl
  have i1 : ops[1]? = some o1 := by rw [← ho]; rfl
  have i2 : ops[2]? = some o2 := by rw [← ho]; rfl
  have i3 : ops[3]? = some o3 := by rw [← ho]; rfl
  have i4 : ops[4]? = some o4 := by rw [← ho]; rfl
  have i5 : ops[5]? = some o5 := by rw [← ho]; rfl
  have go := mid_move (fuel := rest.length + 1 + 1 + 1 + 1 + 1) i0 g0 e0 hs h0f h0r hQ (fun a w => mid_move i1 g1 e1 hs h1f h1r hQ fun a w => mid_move i2 g2 e2 hs h2f h2r hQ fun a w => mid_one i3 g3 h3 fun a w => mid_one i4 g4 h4 fun a w => mid_one i5 g5 h5 key) h
  rw [← hz] at go
  exact go

/-- No exit but the plain one. -/
def OnlyN (Q : Exit → Act → World → Prop) (e : Exit) (a : Act) (w : World) : Prop := e = .normal ∧ Q .normal a w

theorem wp_region_mid {id : Nat} {a : Act} {w : World} {o0 o1 o2 o3 o4 o5 : Oper} {rest : List Oper} {x0 x1 x2 : Operand} (hm : P.follows .mixedOrders = true)
    (hB : midB (o0 :: o1 :: o2 :: o3 :: o4 :: o5 :: rest).toArray = true)
    (e0 : o0.op = .move x0) (e1 : o1.op = .move x1) (e2 : o2.op = .move x2) (g0 : o0.guard = none) (g1 : o1.guard = none) (g2 : o2.guard = none) (g3 : o3.guard = none) (g4 : o4.guard = none) (g5 : o5.guard = none)
    (h : wpList P (o0 :: o1 :: o2 :: o3 :: o4 :: o5 :: rest).toArray (MidQ P (o0 :: o1 :: o2 :: o3 :: o4 :: o5 :: rest).toArray (OnlyN Q) rest) [o0, o1, o2, o3, o4, o5] a w.drew) :
    (Code.region id (o0 :: o1 :: o2 :: o3 :: o4 :: o5 :: rest).toArray true).wp P Q a w :=
  Code.wp_mono (Q := OnlyN Q) (fun e a w h => by obtain ⟨rfl, h⟩ := h; exact h) (wp_region_mid0 hm hB e0 e1 e2 g0 g1 g2 g3 g4 g5 (fun _ _ _ _ _ h => nomatch h.1) h)

theorem OnlyN.on {a : Act} {w : World} (h : Q .normal a w) : OnlyN Q .normal a w := ⟨rfl, h⟩
end

end Go.Proofs.YtdmnlmohfaafoacGreatDoor
