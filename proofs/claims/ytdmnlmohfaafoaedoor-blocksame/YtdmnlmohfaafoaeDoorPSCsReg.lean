/- A region that draws its order, whose calls answer one value each and leave a world of a class: step by step, in the order of the text. -/
import Derived.BigQuiet
import Derived.RowKit
namespace Go.Proofs.YtdmnlmohfaafoaeDoor
open Go.RowKit

section
variable {P : Program} {ops : Array Oper} {C : World → Prop} {Q : Act → Prop} {o : Oper} {rest : List Oper} {a : Act}

theorem q_run (v : Value) (hw : Region.wanted o (yielded ops a.tmps) = true) (h : ∀ W, C W → (execOp a.eval o).run P W = .ok (.value v) W) (hk : wpQuiet P ops C Q rest (a.put o.dst v)) : wpQuiet P ops C Q (o :: rest) a :=
  BigFrame.wpQuiet_want hw fun K hK => ⟨v, fun W hW => by unfold Oper.quietAt; rw [h W hW]; exact ⟨rfl, rfl⟩, hK _ hk⟩

theorem q_index (v : Value) {t : TypeId} {x y : Operand} {u k : Value} (hw : Region.wanted o (yielded ops a.tmps) = true) (h : o.op = .indexAddr t x y) (hx : a.eval x = u) (hy : a.eval y = k) (hr : ∀ w, (Instr.indexAt t u k).run P w = .ok v w) (hk : wpQuiet P ops C Q rest (a.put o.dst v)) : wpQuiet P ops C Q (o :: rest) a :=
  q_run v hw (fun W _ => by unfold execOp; rw [h]; simp [hx, hy, hr]) hk

theorem q_load (v : Value) {t : TypeId} {x : Operand} {u : Value} (hw : Region.wanted o (yielded ops a.tmps) = true) (h : o.op = .load t x) (hx : a.eval x = u) (hr : ∀ w, C w → (Instr.loadAt t u).run P w = .ok v w) (hk : wpQuiet P ops C Q rest (a.put o.dst v)) : wpQuiet P ops C Q (o :: rest) a :=
  q_run v hw (fun W hW => by unfold execOp; rw [h]; simp [hx, hr W hW]) hk

theorem q_call (v : Value) {f : FuncId} {args : Array Value} (hw : Region.wanted o (yielded ops a.tmps) = true) (h : ∀ W, (execOp a.eval o).run P W = .ok (.enter f args) W) (hc : ∀ W, C W → Calls P f args W fun e w' => e = .returned v ∧ C w') (hk : wpQuiet P ops C Q rest (a.put o.dst v)) : wpQuiet P ops C Q (o :: rest) a :=
  BigFrame.wpQuiet_want hw fun K hK => ⟨v, fun W hW => by unfold Oper.quietAt; rw [h W]; exact ⟨rfl, hc W hW⟩, hK _ hk⟩

theorem wp_region_class {id : Nat} {Q : Exit → Act → World → Prop} {w : World} {l : List Oper} (C : World → Prop) (hm : P.follows .mixedOrders = true) (hB : Region.lexB .any l.toArray = true) (hC : C w.drew)
    (h : wpQuiet P l.toArray C (fun a' => ∀ w', C w' → Q .normal a' w') l a) : (Code.region id l.toArray true).wp P Q a w :=
  wp_region_quiet (C := C) hm hB hC (by simpa using h)

end

end Go.Proofs.YtdmnlmohfaafoaeDoor

