/- What raingaugekeep's noted answers. -/
import Derived.Test.YtdmnlmohfaafoadDoorWlKeepM
namespace Go.Proofs.YtdmnlmohfaafoadDoor
open Go.RowKit Go.Maps

abbrev xTx : ByteArray := ⟨#[120]⟩

set_option maxRecDepth 100000 in
set_option maxHeartbeats 800000 in
theorem noted_any (w : World) : Calls Tryd.prog 14 #[] w fun e w' => e = .returned (.bool true) ∧ Below w.heap.size w w' := by
  have HO := hid (open_any (Z := fun j => j = w.heap.size) (N := 0) (Dk.zero w) (fun j hj => hj) (fun j hj => by simp; omega) rdy_zero (fun s hs => by cases hs) (DK.Fine.none 0) (by omega) (by omega))
  go_enter Tryd.func14, Tryd.ntmps14
  go_wp2_with fail
  refine HO.out.mono ?_
  rintro en w1 ⟨bw, v, D1, Z1, rfl, hS1, hW1, hO1, hn1, x1, z1⟩
  have hb0 : Below w.heap.size w (w.alloc (.cells #[.map none, .bool false, .int .i64 0] 26)) := (Below.refl _ w).alloc (Nat.le_refl _) _
  have hws1 : WS w w.heap.size 4 bw D1 (-1) false w1 (fun j => Z1 j ∧ j < w1.heap.size) := by
    refine ⟨hW1.narrow, fun j hj => ⟨?_, hj.2⟩, hb0.trans (x1.toBelow (fun j hj => by omega) (by simp))⟩
    rcases z1 j hj.1 with h | h
    · omega
    · have : (w.alloc (.cells #[.map none, .bool false, .int .i64 0] 26)).heap.size = w.heap.size + 1 := by simp
      omega
  have hF1 : DK.Fine 0 D1 := hS1.fine (by show 0 ≤ 0; omega)
  have HA := hid (add_any hws1.wl hF1 (by omega) xTx (by omega))
  obtain ⟨D2, p2, hD2, hS2, hp2⟩ : ∃ D' p', WL.addO kpt xTx D1 (-1) = (0, D', p') ∧ WL.Set kpt frs D' [xTx] ∧ (-1 = (-1 : Int) → p' = -1) := by
    rcases WL.add_out (p := -1) hS1 (s := xTx) (by decide) (by omega) with ⟨D', p', h1, h2, h3⟩ | ⟨h1, _⟩
    · exact ⟨D', p', h1, h2, h3⟩
    · exact absurd rfl h1
  obtain rfl := hp2 rfl
  have hbig : decide (60000 < xTx.size) = false := by decide
  rw [hD2, hbig] at HA
  have HWS1 := hid hws1
  have HS2 := hid hS2
  obtain ⟨av, cv, rfl, _, _⟩ := hO1.row
  clear hS1 hW1 hO1 hn1 x1 z1 hb0 hws1 hF1 hD2 hS2 HO hp2 hbig
  go_wp2_with fail
  refine HA.out.mono ?_
  intro en w2 hP
  obtain ⟨rfl, hE2⟩ := hP.ok
  obtain ⟨Z2, hws2, _⟩ := HWS1.out.end hE2
  have HST := hid (wstart_any hws2.wl 0 (by omega) (by omega) (HS2.out.fine (N := 1000000000) (by decide)))
  have HWS2 := hid hws2
  clear hP hE2 hws2 HA HWS1
  go_wp2_with fail
  refine HST.out.mono ?_
  rintro en w3 ⟨rfl, hE3⟩
  obtain ⟨Z3, hws3, _⟩ := HWS2.out.end hE3
  have hR3 := WL.start_rdy HS2.out 0
  have hF3 : DK.Fine 100 (DK.start D2 0) := (HS2.out.fine (N := 100) (by decide)).start 0
  have HOp := hid (wopen_any hws3.wl hR3 (WL.Sm.one (by decide)) hF3 (by omega) (by omega))
  have HWS3 := hid hws3
  clear hE3 hws3 HST HWS2 hR3 hF3
  go_wp2_with fail
  refine HOp.out.mono ?_
  rintro en w4 ⟨bw4, v4, D4, Z4, rfl, hS4, hW4, hO4, hn4, x4, z4⟩
  obtain ⟨hws4, _⟩ := HWS3.out.on hW4 x4 z4
  obtain ⟨a4, c4, rfl, hr4, _⟩ := hO4.row
  have hB4 : Below w4.heap.size w4 (w4.alloc (.cells #[.string xTx] 9)) := (Below.refl _ w4).alloc (Nat.le_refl _) _
  have hrow : NRow (w4.alloc (.cells #[.string xTx] 9)) (some ⟨w4.heap.size, 0, none⟩) [xTx] := by
    intro i hi
    have : i = 0 := by simpa using hi
    subst this
    exact ⟨_, _, rfl, by simp [LB.an], by simp⟩
  have hSa := sameKT_any a4 (some ⟨w4.heap.size, 0, none⟩) [xTx] [xTx] c4 1 _ (hr4.below hB4) hrow (by simp) (by simp)
  rw [decide_eq_true (rfl : [xTx] = [xTx])] at hSa
  have HSa := hid hSa
  clear hSa
  have HB := hid (hws4.bel.trans (hB4.mono hws4.bel.size))
  clear hS4 hW4 hO4 hn4 x4 z4 hws4 hr4 hB4 hrow HOp HWS3 HS2
  go_wp2_with fail
  refine HSa.out.mono ?_
  rintro en w5 ⟨rfl, n, rfl⟩
  clear HSa
  go_wp2
  go_ret
  exact ⟨rfl, below_drewN HB.out n⟩

end Go.Proofs.YtdmnlmohfaafoadDoor
