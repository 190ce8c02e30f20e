/- follow: samples behind a series' own. -/
import Derived.Test.YtdmnlmohfaafoadGreatDoorPHdHead
import Derived.BigQuiet
namespace Go.Proofs.YtdmnlmohfaafoadGreatDoor
open Go.RowKit

theorem sm_info : ∃ i, Tryz.prog.info? 52 = some i ∧ i.zero = some (.agg #[.int .i64 0, .int .i64 0]) ∧ i.size = 2 ∧ i.bytes = 16 := by
  have h := Tryz.info52
  cases hq : Tryz.prog.info? 52 with
  | none => rw [hq] at h; cases h
  | some i =>
    rw [hq] at h
    simp only [Option.map_some, Option.some.injEq, Prod.mk.injEq] at h
    exact ⟨i, rfl, h⟩

theorem Tryz.uSms : Tryz.prog.underlying 53 = some (.slice 52) := by kernel_rfl

/-- What follow leaves: a code, and where it is 0 the row, longer. -/
def FolEnd (g o : Nat) (u : Value) (y l : List CL.Smp) (w : World) (e : Ending) (w' : World) : Prop :=
  if (CL.at' l 0).1 ≤ (CL.at' y (y.length - 1)).1 then e = .returned (.int .i64 10) ∧ Below w.heap.size w w'
  else if 2000 < y.length + l.length then e = .returned (.int .i64 12) ∧ Below w.heap.size w w'
  else e = .returned (.int .i64 0) ∧ ∃ u' W, OwnSm W 0 u' (y ++ l) ∧ OwnSm W 0 u y ∧ w.grownBy W u.ownBlock ∧ (u'.ownBlock = u.ownBlock ∨ u'.ownBlock = some w.heap.size) ∧ w' = W.setCell ⟨g, o, none⟩ u'

set_option maxRecDepth 100000 in
set_option maxHeartbeats 1600000 in
theorem follow_any (g k : Nat) (u : Value) (y l : List CL.Smp) (so : Option Addr) (sc : Nat) (cr : Array Value) (w : World) (hg : w.heap[g]? = some (.cells cr 55)) (hcr : cr[k * 2 + 1]? = some u) (hu : OwnSm w 0 u y) (hy : 0 < y.length) (hS : SRow w so l) (hl : 0 < l.length) (hyn : y.length ≤ 2000) (hln : l.length ≤ 2000) :
    Calls Tryz.prog 82 #[.pointer (some ⟨g, k * 2, none⟩), .slice so l.length sc] w fun e w' => FolEnd g (k * 2 + 1) u y l w e w' := by
  obtain ⟨b, off, hso, c0, _, hbs⟩ := hS 0 hl
  have hcell : w.cell? ⟨g, k * 2 + 1, none⟩ = some u := zcell' _ _ _ _ hg _ _ hcr
  have hfro := hfz hg (k * 2 + 1)
  obtain ⟨gu, cap, cur, hue, _, hgu, hcap, _⟩ : ∃ gu cap cur, u = .slice (some ⟨gu, 0, none⟩) y.length cap ∧ 0 ≤ gu ∧ w.heap[gu]? = some (.cells cur 52) ∧ y.length ≤ cap ∧ True := by
    rcases hu.2 with ⟨_, h0⟩ | ⟨gu, cap, cur, h0, h1, h2, h3, _⟩
    · omega
    · exact ⟨gu, cap, cur, h0, h1, h2, h3, trivial⟩
  have hlast : w.cell? ⟨gu, (y.length - 1) * 2, none⟩ = some (.int .i64 (CL.at' y (y.length - 1)).1) := by
    have := hu.cells (g := gu) (by rw [hue]; rfl) _ _ (sv_get y (y.length - 1) (by omega)).1
    rwa [Addr.add_lit, Nat.zero_add] at this
  have hgw : g < w.heap.size := heap_lt hg
  have hne : gu ≠ g := fun e => by
    rw [e, hg] at hgu
    simp only [Option.some.injEq, Obj.cells.injEq] at hgu
    exact absurd hgu.2.1 (by decide)
  have key : ∀ W : World, W.heap = w.heap → W.os = w.os → W.tape = w.tape → W.output = w.output → ∃ v' w', (Builtin.append_ #[53, 53] 53 #[u, .slice so l.length sc]).run Tryz.prog W = .ok v' w' ∧ OwnSm w' 0 v' (y ++ l) ∧ OwnSm w' 0 u y ∧ w.grownBy w' u.ownBlock ∧ (v'.ownBlock = u.ownBlock ∨ v'.ownBlock = some w.heap.size) := fun W h1 h2 h3 h4 => by
    obtain ⟨i, hi, hz, hs, hby⟩ := sm_info
    have hW : W.ownsRow 0 52 2 u y.length (sv y) := own_heap hu h1
    have hS' : SRow W so l := fun i hi => by
      obtain ⟨b, off, a1, a2, a3, a4⟩ := hS i hi
      exact ⟨b, off, a1, (by simpa [World.cell?, h1] using a2), (by simpa [World.cell?, h1] using a3), by rw [h1]; exact a4⟩
    have hh := append_both (P := Tryz.prog) W 0 53 53 52 i _ 2 16 Tryz.uSms hi hz hs hby rfl (by omega) u y.length (sv y) hW ⟨b, off, none⟩ l.length sc (sv l) hl (sv_length l) (smp_cells hS' _ hso) (sv_one l) (by unfold maxLen; omega) (by omega) (Nat.zero_le _)
    obtain ⟨v', w', a1, a2, a3, a4, a5⟩ := hh
    refine ⟨v', w', by rw [hso]; exact a1, ?_, a3, ⟨a4.os.trans h2, a4.tape.trans h3, a4.output.trans h4, by rw [← h1]; exact a4.size, fun k hk hn => by rw [a4.block k (by rw [h1]; exact hk) hn, h1]⟩, by rw [← h1]; exact a5⟩
    show World.ownsRow _ _ _ _ _ _ _
    rw [List.length_append, sv_append]
    exact a2
  have HK := hid key
  have HUE := hid hue
  have c0' : w.cell? ⟨b, off, none⟩ = some (.int .i64 (CL.at' l 0).1) := by simpa using c0
  have hb0 : 0 ≤ ((y.length : Int) - 1) ∧ ((y.length : Int) - 1) < (y.length : Int) := by omega
  have hw1 : IntKind.i64.wrap ((y.length : Int) - 1) = (y.length : Int) - 1 := by rw [IntKind.wrap_i64]; omega
  have htn : ((y.length : Int) - 1).toNat = y.length - 1 := by omega
  have hw2 : IntKind.i64.wrap ((y.length : Int) + (l.length : Int)) = (y.length : Int) + (l.length : Int) := by rw [IntKind.wrap_i64]; omega
  subst hso
  rw [hue] at hcell
  have h1l : (0 : Int) < (l.length : Int) := by omega
  clear key hu hS c0 hcr hgu hue hg
  unfold FolEnd
  generalize (CL.at' l 0).1 = t0 at *
  generalize (CL.at' y (y.length - 1)).1 = t1 at *
  go_enter Tryz.func82, Tryz.ntmps82
  go_wp2_with fail
  go_quiet (fail)
  by_cases h1 : t0 ≤ t1
  · go_wp2_with fail
    go_ret
    exact ⟨rfl, lbelow_drewN (Below.refl _ _) _⟩
  · by_cases h2 : 2000 < y.length + l.length
    · have h2' : (2000 : Int) < (y.length : Int) + (l.length : Int) := by omega
      go_wp2_with fail
      go_ret
      exact ⟨rfl, lbelow_drewN (Below.refl _ _) _⟩
    · have h2' : ¬ (2000 : Int) < (y.length : Int) + (l.length : Int) := by omega
      obtain ⟨v', W, hrun, k1, k2, k3, k4⟩ := HK.out (w.drewN nq) rfl rfl rfl rfl
      rw [HUE.out] at hrun k3
      have y1 : W.cell? ⟨g, k * 2 + 1, none⟩ = some (Value.slice (some ⟨gu, 0, none⟩) y.length cap) := k3.cell (a := ⟨g, k * 2 + 1, none⟩) hcell (fun e => hne (Option.some.inj e).symm)
      have y2 : W.frozen? ⟨g, k * 2 + 1, none⟩ = false := (World.frozen?_of_block (a := ⟨g, k * 2 + 1, none⟩) (k3.block g hgw (fun e => hne (Option.some.inj e).symm))).trans hfro
      have HQ := hid (And.intro k1 (And.intro k2 (And.intro k3 k4)))
      obtain ⟨ao', cap', rfl⟩ := own_slice k1
      clear k1 k2 k3 k4 HK
      go_wp2_with (at_builtin; refine Lib.wpList_append_run _ rfl _ _ _ _ rfl _ _ rfl rfl _ _ hrun ?_)
      go_ret
      refine ⟨rfl, _, W, HQ.out.1, HQ.out.2.1, ?_, HQ.out.2.2.2, by rw [List.length_append]⟩
      rw [HUE.out]
      exact HQ.out.2.2.1

def folC (y l : List CL.Smp) : Int := if (CL.at' l 0).1 ≤ (CL.at' y (y.length - 1)).1 then 10 else if 2000 < y.length + l.length then 12 else 0

theorem FolEnd.code {g o : Nat} {u : Value} {y l : List CL.Smp} {w w' : World} {e : Ending} (h : FolEnd g o u y l w e w') : e = .returned (.int .i64 (folC y l)) ∧ (folC y l ≠ 0 → Below w.heap.size w w') ∧ (folC y l = 0 → ∃ u' W, OwnSm W 0 u' (y ++ l) ∧ OwnSm W 0 u y ∧ w.grownBy W u.ownBlock ∧ (u'.ownBlock = u.ownBlock ∨ u'.ownBlock = some w.heap.size) ∧ w' = W.setCell ⟨g, o, none⟩ u') := by
  unfold FolEnd at h
  unfold folC
  split at h
  · rename_i h1
    simp only [if_pos h1]
    exact ⟨h.1, fun _ => h.2, fun e => by simp at e⟩
  · rename_i h1
    simp only [if_neg h1]
    split at h
    · rename_i h2
      simp only [if_pos h2]
      exact ⟨h.1, fun _ => h.2, fun e => by simp at e⟩
    · rename_i h2
      simp only [if_neg h2]
      exact ⟨h.1, fun e => absurd rfl e, fun _ => h.2⟩

end Go.Proofs.YtdmnlmohfaafoadGreatDoor

