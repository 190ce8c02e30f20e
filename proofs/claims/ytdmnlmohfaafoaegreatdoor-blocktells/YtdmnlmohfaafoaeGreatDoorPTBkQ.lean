/- A region that draws its order, whose calls answer one value each and leave a world of a class: step by step, in the order of the text. Steps of a region that draws its order, and loads, for blocks. Names no function. -/
import Derived.BigQuiet
import Derived.RowKit
import Derived.Test.YtdmnlmohfaafoaeGreatDoorRows
namespace Go.Proofs.YtdmnlmohfaafoaeGreatDoor
open Go.RowKit

section
variable {P : Program} {ops : Array Oper} {C : World → Prop} {Q : Act → Prop} {o : Oper} {rest : List Oper} {a : Act}

theorem q_run (v : Value) (hw : Region.wanted o (yielded ops a.tmps) = true) (h : ∀ W, C W → (execOp a.eval o).run P W = .ok (.value v) W) (hk : wpQuiet P ops C Q rest (a.put o.dst v)) : wpQuiet P ops C Q (o :: rest) a :=
  BigFrame.wpQuiet_want hw fun K hK => ⟨v, fun W hW => by unfold Oper.quietAt; rw [h W hW]; exact ⟨rfl, rfl⟩, hK _ hk⟩

theorem q_index (v : Value) {t : TypeId} {x y : Operand} {u k : Value} (hw : Region.wanted o (yielded ops a.tmps) = true) (h : o.op = .indexAddr t x y) (hx : a.eval x = u) (hy : a.eval y = k) (hr : ∀ w, (Instr.indexAt t u k).run P w = .ok v w) (hk : wpQuiet P ops C Q rest (a.put o.dst v)) : wpQuiet P ops C Q (o :: rest) a :=
  q_run v hw (fun W _ => by unfold execOp; rw [h]; simp [hx, hy, hr]) hk

theorem q_load (v : Value) {t : TypeId} {x : Operand} {u : Value} (hw : Region.wanted o (yielded ops a.tmps) = true) (h : o.op = .load t x) (hx : a.eval x = u) (hr : ∀ w, C w → (Instr.loadAt t u).run P w = .ok v w) (hk : wpQuiet P ops C Q rest (a.put o.dst v)) : wpQuiet P ops C Q (o :: rest) a :=
  q_run v hw (fun W hW => by unfold execOp; rw [h]; simp [hx, hr W hW]) hk

theorem q_call (v : Value) {f : FuncId} {args : Array Value} (hw : Region.wanted o (yielded ops a.tmps) = true) (h : ∀ W, (execOp a.eval o).run P W = .ok (.enter f args) W) (hc : ∀ W, C W → Calls P f args W fun e w' => e = .returned v ∧ C w') (hk : wpQuiet P ops C Q rest (a.put o.dst v)) : wpQuiet P ops C Q (o :: rest) a :=
  BigFrame.wpQuiet_want hw fun K hK => ⟨v, fun W hW => by unfold Oper.quietAt; rw [h W]; exact ⟨rfl, hc W hW⟩, hK _ hk⟩

theorem wp_region_class {id : Nat} {Q : Exit → Act → World → Prop} {w : World} {l : List Oper} (C : World → Prop) (hm : P.follows .mixedOrders = true) (hB : Region.lexB .any l.toArray = true) (hC : C w.drew)
    (h : wpQuiet P l.toArray C (fun a' => ∀ w', C w' → Q .normal a' w') l a) : (Code.region id l.toArray true).wp P Q a w :=
  wp_region_quiet (C := C) hm hB hC (by simpa using h)

end

end Go.Proofs.YtdmnlmohfaafoaeGreatDoor

namespace Go.Proofs.YtdmnlmohfaafoaeGreatDoor
open Go.RowKit

/-- Operations that are not wanted, one behind the other. -/
def putU : List Oper → Act → Act
  | [], a => a
  | o :: os, a => putU os (a.put o.dst undef)

def skipsB (ops : Array Oper) : List Oper → Act → Bool
  | [], _ => true
  | o :: os, a => !Region.wanted o (yielded ops a.tmps) && skipsB ops os (a.put o.dst undef)

theorem q_skips {P : Program} {ops : Array Oper} {C : World → Prop} {Q : Act → Prop} : ∀ (os : List Oper) {rest : List Oper} {a : Act}, skipsB ops os a = true → wpQuiet P ops C Q rest (putU os a) → wpQuiet P ops C Q (os ++ rest) a
  | [], _, _, _, h => h
  | o :: os, rest, a, hs, h => by
    simp only [skipsB, Bool.and_eq_true, Bool.not_eq_true'] at hs
    exact BigFrame.wpQuiet_skip hs.1 (q_skips os hs.2 h)

theorem q_run_skip {P : Program} {ops : Array Oper} {C : World → Prop} {Q : Act → Prop} {o : Oper} {rest : List Oper} {a : Act} (v : Value) (n : Nat) (hw : Region.wanted o (yielded ops a.tmps) = true) (h : ∀ W, C W → (execOp a.eval o).run P W = .ok (.value v) W) (hs : skipsB ops (rest.take n) (a.put o.dst v) = true) (hk : wpQuiet P ops C Q (rest.drop n) (putU (rest.take n) (a.put o.dst v))) : wpQuiet P ops C Q (o :: rest) a :=
  q_run v hw h (by
    have := q_skips (P := P) (C := C) (Q := Q) (rest.take n) hs hk
    rwa [List.take_append_drop] at this)

theorem zcell1 (w : World) (b : Nat) (a : Array Value) (t : TypeId) (h : w.heap[b]? = some (.cells a t)) (i : Nat) (v : Value) (hv : a[i]? = some v) : w.cell? ⟨b, i, none⟩ = some v := by simp [World.cell?, h, hv]

theorem bk_ldL (b k : Nat) (ao : Option Addr) (n c : Nat) (w : World) (h : w.cell? ⟨b, k, none⟩ = some (.slice ao n c)) : (Instr.loadAt 53 (.pointer (some ⟨b, k, none⟩))).run Tryz.prog w = .ok (.slice ao n c) w := by
  have hs : (Tryz.prog.info? 53).map (·.size) = some 1 := by kernel_rfl
  go_simp
theorem bk_ldS (b k : Nat) (ao : Option Addr) (n c : Nat) (w : World) (h : w.cell? ⟨b, k, none⟩ = some (.slice ao n c)) : (Instr.loadAt 59 (.pointer (some ⟨b, k, none⟩))).run Tryz.prog w = .ok (.slice ao n c) w := by
  have hs : (Tryz.prog.info? 59).map (·.size) = some 1 := by kernel_rfl
  go_simp
theorem bk_ldR (b k : Nat) (ao : Option Addr) (n c : Nat) (w : World) (h : w.cell? ⟨b, k, none⟩ = some (.slice ao n c)) : (Instr.loadAt 22 (.pointer (some ⟨b, k, none⟩))).run Tryz.prog w = .ok (.slice ao n c) w := by
  have hs : (Tryz.prog.info? 22).map (·.size) = some 1 := by kernel_rfl
  go_simp
theorem bk_ld64 (b k : Nat) (n : Int) (w : World) (h : w.cell? ⟨b, k, none⟩ = some (.int .i64 n)) : (Instr.loadAt 2 (.pointer (some ⟨b, k, none⟩))).run Tryz.prog w = .ok (.int .i64 n) w := by
  have hs : (Tryz.prog.info? 2).map (·.size) = some 1 := by kernel_rfl
  go_simp

theorem bk_ix1 (b off n c : Nat) (h : 0 < n) (w : World) : (Instr.indexAt 59 (.slice (some ⟨b, off, none⟩) n c) (.int .i64 ((n : Int) - 1))).run Tryz.prog w = .ok (.pointer (some ⟨b, off + (n - 1) * 2, none⟩)) w := by
  have e : (n : Int) - 1 = ((n - 1 : Nat) : Int) := by omega
  have h1 : 0 ≤ ((n - 1 : Nat) : Int) ∧ ((n - 1 : Nat) : Int) < (n : Int) := by omega
  rw [e]
  go_simp

theorem bk_ixS1 (b off n c i : Nat) (h : i < n) (h0 : 0 < i) (w : World) : (Instr.indexAt 22 (.slice (some ⟨b, off, none⟩) n c) (.int .i64 ((i : Int) - 1))).run Tryz.prog w = .ok (.pointer (some ⟨b, off + (i - 1) * 2, none⟩)) w := by
  have e : (i : Int) - 1 = ((i - 1 : Nat) : Int) := by omega
  have h1 : 0 ≤ ((i - 1 : Nat) : Int) ∧ ((i - 1 : Nat) : Int) < (n : Int) := by omega
  rw [e]
  go_simp

end Go.Proofs.YtdmnlmohfaafoaeGreatDoor

