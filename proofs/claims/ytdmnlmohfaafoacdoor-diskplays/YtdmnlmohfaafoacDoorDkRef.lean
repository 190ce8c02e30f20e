/- What the document's NewDisk and in answer, and how a change of its disk ends. -/
import Derived.Test.YtdmnlmohfaafoacDoorDkRefM
import Derived.Test.YtdmnlmohfaafoacDoorDkTxt
namespace Go.Proofs.YtdmnlmohfaafoacDoor
open Go.RowKit Go.Maps

abbrev RfA := RfI Tryd.prog

set_option maxRecDepth 100000 in
theorem dkin_any (n : ByteArray) (w : World) :
    Calls Tryd.prog 24 #[.int .i64 n.size, .int .i64 1, .int .i64 60] w fun e w' => e = .returned (.bool (DK.named n)) ∧ w' = w := by
  by_cases h1 : (1 : Int) ≤ (n.size : Int)
  · have HE : Hid (DK.named n = decide ((n.size : Int) ≤ 60)) := by
      show _ = _
      unfold DK.named
      rw [decide_eq_decide]
      omega
    generalize DK.named n = B at *
    go_enter Tryd.func24, Tryd.ntmps24
    go_wp2
    go_ret
    exact ⟨ret_bool HE.out.symm, rfl⟩
  · have HE : Hid (DK.named n = false) := DK.named_no.2 (by omega)
    generalize DK.named n = B at *
    go_enter Tryd.func24, Tryd.ntmps24
    go_wp2
    go_ret
    exact ⟨ret_bool HE.out.symm, rfl⟩

set_option maxRecDepth 100000 in
theorem rnew_any (w : World) :
    Calls Tryd.prog 4 #[] w fun e w' => e = .returned (.pointer (some ⟨w.heap.size + 1, 0, none⟩)) ∧ RfA w' (w.heap.size + 1) w.heap.size 0 (fun _ => none) (-1) ∧ Below w.heap.size w w' := by
  have hmm := @run_makeMap Tryd.prog
  have HM := hid (MapF.made w Tryd.prog 9)
  have HN := hid (heap_alloc_new (w.alloc (.map #[] 0)) (.cells #[.map (some w.heap.size), .int .i64 (-1)] 40))
  go_enter Tryd.func4, Tryd.ntmps4
  go_wp2
  go_ret
  refine ⟨rfl, ⟨?_, (HM.out.alloc _)⟩, ((Below.refl _ _).alloc (Nat.le_refl _) _).alloc (by simp) _⟩
  have := HN.out
  simpa using this

/-- What a change answers and leaves. -/
def RchEnd (a : Nat) (w : World) (br bm cnt : Nat) (D : DK.M) (p : Int) (n s : ByteArray) (en : Ending) (w' : World) : Prop :=
  en = .returned (.int .i64 (DK.code a D p n s)) ∧ RfA w' br bm (cnt + 1) (DK.aftD a D p n s) (DK.aftP a D p n s) ∧ RFr br bm w w'

section
variable {w w' : World} {br bm cnt : Nat} {D : DK.M} {p : Int}

theorem RchEnd.err {a : Nat} {n s : ByteArray} {c : Int} (hc : DK.code a D p n s = c) (h0 : c ≠ 0) (h : RfA w' br bm cnt D p) (hx : RFr br bm w w') : RchEnd a w br bm cnt D p n s (.returned (.int .i64 c)) w' := by
  refine ⟨by rw [hc], ?_, hx⟩
  unfold DK.aftD DK.aftP
  rw [if_neg (by rw [hc]; exact h0), if_neg (by rw [hc]; exact h0)]
  exact h.mono (Nat.le_succ _)

theorem RchEnd.ok {a : Nat} {n s : ByteArray} (hc : DK.code a D p n s = 0) (h : RfA w' br bm (cnt + 1) (DK.next a D n s) (DK.dec p)) (hx : RFr br bm w w') : RchEnd a w br bm cnt D p n s (.returned (.int .i64 0)) w' := by
  refine ⟨by rw [hc], ?_, hx⟩
  unfold DK.aftD DK.aftP
  rw [if_pos hc, if_pos hc]
  exact h

theorem zeroF (w : World) : (zeroValue 48).run Tryd.prog w = .ok (.agg #[.string ⟨#[]⟩, .int .i64 0]) w := by kernel_rfl

/-- What stands at a name, and whether anything does. -/
theorem RfI.look {W : World} (h : RfA w br bm cnt D p) (n : ByteArray) (hn : n.size ≤ maxLen) (hW : W.heap[bm]? = w.heap[bm]?) :
    (Instr.lookup 38 (.map (some bm)) (.string n) true).run Tryd.prog W = .ok (.tuple #[((D n).map rV).getD (.agg #[.string ⟨#[]⟩, .int .i64 0]), .bool (D n).isSome]) W :=
  MapF.look_ok (h.map.block hW) Tryd.underlying9 Tryd.underlying38 zeroF hn rfl (by unfold rF; cases D n <;> rfl)

/-- The power behind a change: a cell more or less. -/
theorem RfI.dec (h : RfA w br bm cnt D p) (hp : 0 < p) : RfA (w.setCell ⟨br, 1, none⟩ (.int .i64 (p - 1))) br bm cnt D (DK.dec p) := by
  have e1 : DK.dec p = p - 1 := by unfold DK.dec; rw [if_pos hp]
  rw [e1]; exact h.power _

theorem dec_neg (hp : ¬ 0 < p) : DK.dec p = p := by unfold DK.dec; rw [if_neg hp]

end

end Go.Proofs.YtdmnlmohfaafoacDoor
