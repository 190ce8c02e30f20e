/- Steps of a region that draws its order, and loads, for blocks. Names no function. -/
import Derived.Test.YtdmnlmohfaafoaeDoorPSCsReg
import Derived.Test.YtdmnlmohfaafoaeDoorRows
namespace Go.Proofs.YtdmnlmohfaafoaeDoor
open Go.RowKit

/-- Operations that are not wanted, one behind the other. -/
def putU : List Oper → Act → Act
  | [], a => a
  | o :: os, a => putU os (a.put o.dst undef)

def skipsB (ops : Array Oper) : List Oper → Act → Bool
  | [], _ => true
  | o :: os, a => !Region.wanted o (yielded ops a.tmps) && skipsB ops os (a.put o.dst undef)

theorem q_skips {P : Program} {ops : Array Oper} {C : World → Prop} {Q : Act → Prop} : ∀ (os : List Oper) {rest : List Oper} {a : Act}, skipsB ops os a = true → wpQuiet P ops C Q rest (putU os a) → wpQuiet P ops C Q (os ++ rest) a
  | [], _, _, _, h => h
  | o :: os, rest, a, hs, h => by
    simp only [skipsB, Bool.and_eq_true, Bool.not_eq_true'] at hs
    exact BigFrame.wpQuiet_skip hs.1 (q_skips os hs.2 h)

theorem q_run_skip {P : Program} {ops : Array Oper} {C : World → Prop} {Q : Act → Prop} {o : Oper} {rest : List Oper} {a : Act} (v : Value) (n : Nat) (hw : Region.wanted o (yielded ops a.tmps) = true) (h : ∀ W, C W → (execOp a.eval o).run P W = .ok (.value v) W) (hs : skipsB ops (rest.take n) (a.put o.dst v) = true) (hk : wpQuiet P ops C Q (rest.drop n) (putU (rest.take n) (a.put o.dst v))) : wpQuiet P ops C Q (o :: rest) a :=
  q_run v hw h (by
    have := q_skips (P := P) (C := C) (Q := Q) (rest.take n) hs hk
    rwa [List.take_append_drop] at this)

theorem zcell1 (w : World) (b : Nat) (a : Array Value) (t : TypeId) (h : w.heap[b]? = some (.cells a t)) (i : Nat) (v : Value) (hv : a[i]? = some v) : w.cell? ⟨b, i, none⟩ = some v := by simp [World.cell?, h, hv]

theorem bk_ldL (b k : Nat) (ao : Option Addr) (n c : Nat) (w : World) (h : w.cell? ⟨b, k, none⟩ = some (.slice ao n c)) : (Instr.loadAt 35 (.pointer (some ⟨b, k, none⟩))).run Tryd.prog w = .ok (.slice ao n c) w := by
  have hs : (Tryd.prog.info? 35).map (·.size) = some 1 := by kernel_rfl
  go_simp
theorem bk_ldS (b k : Nat) (ao : Option Addr) (n c : Nat) (w : World) (h : w.cell? ⟨b, k, none⟩ = some (.slice ao n c)) : (Instr.loadAt 36 (.pointer (some ⟨b, k, none⟩))).run Tryd.prog w = .ok (.slice ao n c) w := by
  have hs : (Tryd.prog.info? 36).map (·.size) = some 1 := by kernel_rfl
  go_simp
theorem bk_ldR (b k : Nat) (ao : Option Addr) (n c : Nat) (w : World) (h : w.cell? ⟨b, k, none⟩ = some (.slice ao n c)) : (Instr.loadAt 27 (.pointer (some ⟨b, k, none⟩))).run Tryd.prog w = .ok (.slice ao n c) w := by
  have hs : (Tryd.prog.info? 27).map (·.size) = some 1 := by kernel_rfl
  go_simp
theorem bk_ld64 (b k : Nat) (n : Int) (w : World) (h : w.cell? ⟨b, k, none⟩ = some (.int .i64 n)) : (Instr.loadAt 2 (.pointer (some ⟨b, k, none⟩))).run Tryd.prog w = .ok (.int .i64 n) w := by
  have hs : (Tryd.prog.info? 2).map (·.size) = some 1 := by kernel_rfl
  go_simp

theorem bk_ix1 (b off n c : Nat) (h : 0 < n) (w : World) : (Instr.indexAt 36 (.slice (some ⟨b, off, none⟩) n c) (.int .i64 ((n : Int) - 1))).run Tryd.prog w = .ok (.pointer (some ⟨b, off + (n - 1) * 2, none⟩)) w := by
  have e : (n : Int) - 1 = ((n - 1 : Nat) : Int) := by omega
  have h1 : 0 ≤ ((n - 1 : Nat) : Int) ∧ ((n - 1 : Nat) : Int) < (n : Int) := by omega
  rw [e]
  go_simp

theorem bk_ixS1 (b off n c i : Nat) (h : i < n) (h0 : 0 < i) (w : World) : (Instr.indexAt 27 (.slice (some ⟨b, off, none⟩) n c) (.int .i64 ((i : Int) - 1))).run Tryd.prog w = .ok (.pointer (some ⟨b, off + (i - 1) * 2, none⟩)) w := by
  have e : (i : Int) - 1 = ((i - 1 : Nat) : Int) := by omega
  have h1 : 0 ≤ ((i - 1 : Nat) : Int) ∧ ((i - 1 : Nat) : Int) < (n : Int) := by omega
  rw [e]
  go_simp

end Go.Proofs.YtdmnlmohfaafoaeDoor

