/- What wal.Open does. -/
import Derived.Test.YtdmnlmohfaafoadDoorWlMet
namespace Go.Proofs.YtdmnlmohfaafoadDoor
open Go.RowKit Go.Maps

theorem kf_ne : kpt ≠ frs := by decide

section
variable {w : World} {Z X : Nat → Prop} {bd cnt N : Nat} {D : DK.M} {ns : List ByteArray}

theorem open_nil (w : World) : Calls Tryd.prog 7 #[.pointer none] w fun en w' => en = .returned (.tuple #[.pointer none, .slice none 0 0, .iface 34 (.int .i64 7)]) ∧ w' = w := by
  go_enter Tryd.func7, Tryd.ntmps7
  go_wp2
  go_ret3
  exact ⟨rfl, rfl⟩

/-- What Open leaves: a wal over the disk, and its notes in a row of one's own. -/
def OpEnd (w : World) (Z : Nat → Prop) (bd cnt : Nat) (ns : List ByteArray) (en : Ending) (w' : World) : Prop :=
  ∃ bw v D' Z', en = .returned (.tuple #[.pointer (some ⟨bw, 0, none⟩), v, .nilIface]) ∧ WL.Set kpt frs D' ns ∧ Wl w' Z' bw bd cnt D' (-1) false ∧ OwnT w' w.heap.size v ns ∧ (∀ g, v.ownBlock = some g → ¬ Z' g) ∧ XFr Z w w' ∧ ∀ j, Z' j → Z j ∨ w.heap.size ≤ j

set_option maxRecDepth 100000 in
theorem open_any (h : Dk w X bd cnt D (-1)) (hxz : ∀ j, X j → Z j) (hxl : ∀ j, X j → j < w.heap.size) (hR : WL.Rdy kpt frs D ns) (hS : WL.Sm ns) (hF : DK.Fine N D) (hN : N ≤ 100000000) (hc : cnt + 4 ≤ 1000000) :
    Calls Tryd.prog 7 #[.pointer (some ⟨bd, 0, none⟩)] w fun en w' => OpEnd w Z bd (cnt + 4) ns en w' := by
  obtain ⟨mo, fp, fv, e, l, h⟩ := h
  have HI := hid h
  have HRd := hid (read_any h kpt kpt_len)
  have HXZ := hid hxz
  have HXL := hid hxl
  have HR := hid hR
  have HS := hid hS
  have HF := hid hF
  clear h hxz hxl hR hS hF
  go_enter Tryd.func7, Tryd.ntmps7
  go_wp2_with fail
  refine HRd.out.mono ?_
  intro en w1 hh
  obtain ⟨t, v1, hen, hw1, ht⟩ : ∃ t v1, en = .returned (.tuple #[.string t, v1]) ∧ w1 = w ∧ ((D kpt = none ∧ t = ByteArray.empty) ∨ ∃ f, D kpt = some f ∧ t = f.b) := by
    rcases hh with ⟨⟨h1, h2⟩ | ⟨f, h1, h2⟩, h3⟩
    · exact ⟨_, _, h2, h3, .inl ⟨h1, rfl⟩⟩
    · exact ⟨_, _, h2, h3, .inr ⟨f, h1, rfl⟩⟩
  subst hen hw1
  have HT := hid ht
  clear hh ht HRd
  have hts : t.size ≤ 100000000 := by
    rcases HT.out with ⟨_, h2⟩ | ⟨f, h1, h2⟩
    · rw [h2]; show 0 ≤ _; omega
    · rw [h2]
      have := (HF.out kpt f h1).2.1
      omega
  have hbox : BoxL (w1.alloc (.cells #[.slice none 0 0] 28)) w1.heap.size [] := ⟨_, heap_alloc_new w1 _, ⟨rfl, .inl ⟨rfl, rfl⟩⟩⟩
  have HL := hid (look_any t w1.heap.size _ hbox hts)
  clear hbox
  go_wp2_with fail
  refine HL.out.mono ?_
  rintro en w2 ⟨ns', r, h1, h2, h3, rfl, h4, h5⟩
  have hns : ns' = ns := by
    obtain ⟨r0, h6, h7⟩ : ∃ r0, t = WL.joined ns ++ r0 ∧ WL.Torn r0 := by
      rcases HR.out.kep with ⟨h6, h7⟩ | ⟨r0, f, h6, h7, h8⟩
      · rcases HT.out with ⟨_, h8⟩ | ⟨f, h8, _⟩
        · exact ⟨ByteArray.empty, by rw [h8, h7]; exact (WL.empty_append _).symm, WL.Torn.empty⟩
        · rw [h6] at h8; cases h8
      · rcases HT.out with ⟨h9, _⟩ | ⟨g, h9, h10⟩
        · rw [h6] at h9; cases h9
        · rw [h6] at h9; cases h9
          exact ⟨r0, by rw [h10, h7], h8⟩
    exact (WL.unique h2 HS.out h3 h7 (h1.symm.trans h6)).1
  subst hns
  have hle : (WL.joined ns').size ≤ t.size := by rw [h1, ByteArray.size_append]; omega
  have hB12 : Below w1.heap.size w1 w2 := ((Below.refl _ w1).alloc (Nat.le_refl _) (.cells #[.slice none 0 0] 28)).trans h5
  obtain ⟨D', hset, hSet⟩ := WL.settl_on HR.out HT.out
  have hst := settle_any (Dk.below ⟨mo, fp, fv, e, l, HI.out⟩ hB12) HF.out hN t (WL.joined ns').size hle hts hc
  rw [hset] at hst
  have HSt := hid hst
  have HBX := hid h4
  have HB12 := hid hB12
  have HSet := hid hSet
  clear h1 h2 h3 h4 h5 hst hset hSet hB12 HL HI HR HT
  go_wp2_with fail
  refine HSt.out.mono ?_
  rintro en w3 ⟨rfl, X3, hD3, x3, s3⟩
  rw [er_zero]
  obtain ⟨v, hb2, hO2⟩ := HBX.out
  have hbl := heap_lt hb2
  have hb3 := (x3.block _ hbl (fun hx => by have := HXL.out _ hx; omega)).trans hb2
  have hc3 : w3.cell? ⟨w1.heap.size, 0, none⟩ = some v := by simp [World.cell?, hb3]
  have hO3 : OwnT w3 w1.heap.size v ns' := by
    refine ⟨hO2.1, ?_⟩
    rcases hO2.2 with h0 | ⟨g, cap, cur, rfl, a1, a2, a3⟩
    · exact .inl h0
    · exact .inr ⟨g, cap, cur, rfl, by omega, (x3.block g (heap_lt a2) (fun hx => by have := HXL.out _ hx; omega)).trans a2, a3⟩
  have hOl : ∀ g, v.ownBlock = some g → g < w2.heap.size ∧ w1.heap.size < g := by
    intro g hg
    rcases hO2.2 with ⟨h0, _⟩ | ⟨g', cap, cur, h0, a1, a2, a3⟩
    · rw [h0] at hg; cases hg
    · rw [h0] at hg
      have : g' = g := Option.some.inj hg
      subst this
      exact ⟨heap_lt a2, by omega⟩
  have hx13 : XFr X w1 w3 := (XFr.below HB12.out).trans x3 (fun j hj => .inl hj)
  have HQ : ∀ W : World, W.heap = (w3.alloc (.cells #[.pointer (some ⟨bd, 0, none⟩), .bool false] 75)).heap → W.os = w3.os → W.tape = w3.tape → W.output = w3.output → Hid (OpEnd w1 Z bd (cnt + 4) ns' (.returned (.tuple #[.pointer (some ⟨w3.heap.size, 0, none⟩), v, .nilIface])) W) := by
    intro W e1 e2 e3 e4
    have hB3 : Below w3.heap.size w3 W := ⟨e2, e3, e4, by rw [e1]; simp, fun j hj => by rw [e1]; exact Below.heap_alloc _ _ j hj⟩
    refine ⟨w3.heap.size, v, D', fun j => (X3 j ∧ j < w3.heap.size) ∨ j = w3.heap.size, rfl, HSet.out, ⟨fun j => X3 j ∧ j < w3.heap.size, hD3.narrow.below hB3, ?_, fun hx => by omega, .inr rfl, fun j hj => .inl hj, fun j hj => Nat.lt_of_lt_of_le hj.2 hB3.size⟩, ?_, ?_, ?_, ?_⟩
    · rw [e1]; exact heap_alloc_new w3 _
    · exact OwnT.below hO3 hB3
    · intro g hg
      obtain ⟨g1, g2⟩ := hOl g hg
      rintro (hx | hx)
      · rcases s3 g hx.1 with h6 | h6
        · have := HXL.out g h6; omega
        · omega
      · have := x3.size; omega
    · exact (hx13.mono HXZ.out).trans (XFr.below (X := Z) hB3) (fun j hj => .inl hj)
    · intro j hj
      have q1 := HB12.out.size
      have q2 := x3.size
      rcases hj with hj | hj
      · rcases s3 j hj.1 with h6 | h6
        · exact .inl (HXZ.out j h6)
        · exact .inr (by omega)
      · exact .inr (by omega)
  have hc4 : (w3.alloc (.cells #[.pointer (some ⟨bd, 0, none⟩), .bool false] 75)).cell? ⟨w1.heap.size, 0, none⟩ = some v := (World.cell?_alloc_lt _ _ ⟨w1.heap.size, 0, none⟩ (heap_lt hb3)).trans hc3
  obtain ⟨av, cv, rfl, _, _⟩ := hO3.row
  clear hO3 hO2 hb2 hb3 hOl hx13 hD3 x3 s3 HSt HBX HB12 HSet HXZ HXL HS HF
  go_wp2_with fail
  go_region
  go_wp2
  go_ret3
  refine (HQ _ ?_ ?_ ?_ ?_).out <;> rfl

end

end Go.Proofs.YtdmnlmohfaafoadDoor
