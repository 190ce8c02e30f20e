/- Turns that come in, opened. -/
import Derived.Test.YtdmnlmohfaafoadGreatDoorPHdOpen
import Derived.Test.YtdmnlmohfaafoadGreatDoorPHpLaw
namespace Go.Proofs.YtdmnlmohfaafoadGreatDoor
open Go.ChangeShapes Go.WideShapes Go.ChangeAt Go.WideMaps Go.WideElems Go.RowKit

set_option maxRecDepth 100000 in
/-- A slice of matchers that comes in is a list of matchers. -/
theorem open_matchers {H : Type} {enc : TypeId × Value → H} {W : World} {a0 : Option Addr} {len cap : Nat} {d : DataW H} {p : List MemPlace}
    (h : DataW.Trod enc Tryz.prog W 0 (fun _ => true) true 59 (.slice a0 len cap) d p) :
    ∃ l : List LB.Mat, len = l.length ∧ MRow W a0 l ∧ (∀ x ∈ l, -9223372036854775808 ≤ x.op ∧ x.op ≤ 9223372036854775807) ∧ l.length ≤ cap ∧ (a0 = none → cap = 0) := by
  obtain ⟨fuel, hf⟩ := h
  rcases Deep.open_slice Tryz.underlying59 hf with ⟨hcs, hx⟩ | ⟨a, len', cap', m, nn, D, Pl, hcs, _, hl, hm, hmm, hx, hel⟩
  · simp [Value.cells] at hcs
    obtain ⟨rfl, rfl, rfl⟩ := hcs
    exact ⟨[], rfl, fun i hi => by simp at hi, fun x hx => by simp at hx, by simp, fun _ => rfl⟩
  · simp [Value.cells] at hcs
    obtain ⟨rfl, rfl, rfl⟩ := hcs
    simp only [if_true] at hmm
    have ce : Tryz.prog.cellsOf 111 = 3 := by kernel_rfl
    have c0 : Tryz.prog.cellsOf 9 = 1 := by kernel_rfl
    have c1 : Tryz.prog.cellsOf 3 = 1 := by kernel_rfl
    have heach : ∀ i, i < len → ∃ x : LB.Mat, W.cell? (a.add (i * 3)) = some (.string x.nm) ∧ W.cell? (a.add (i * 3 + 1)) = some (.int .i64 x.op) ∧ W.cell? (a.add (i * 3 + 2)) = some (.string x.vl) ∧ -9223372036854775808 ≤ x.op ∧ x.op ≤ 9223372036854775807 := fun i hi => by
      obtain ⟨cs', h1, h2⟩ := hel i (by omega)
      rw [ce] at h1
      obtain ⟨_, hlen, hcell⟩ := World.cells?_some h1
      obtain ⟨xs, k, hk, hxy, _, hxl, hf⟩ := DataW.trod_struct Tryz.underlying111 h2
      match xs, hxl, cs', hlen with
      | [y0, y1, y2], _, [v0, v1, v2], _ =>
        have g0 := hf 0 _ rfl
        have g1 := hf 1 _ rfl
        have g2 := hf 2 _ rfl
        simp [c0, c1] at g0 g1 g2
        obtain ⟨k0, e0, _⟩ := DataW.trod_string Tryz.underlying9 g0
        obtain ⟨k1, e1, _, w1⟩ := DataW.trod_int Tryz.underlying3 g1
        obtain ⟨k2, e2, _⟩ := DataW.trod_string Tryz.underlying9 g2
        simp only [List.cons.injEq, and_true] at e0 e1 e2
        have q0 := hcell 0 (by omega)
        have q1 := hcell 1 (by omega)
        have q2 := hcell 2 (by omega)
        rw [Deep.add_add] at q0 q1 q2
        refine ⟨⟨k0, k1, k2⟩, ?_, ?_, ?_, wf_i64 w1⟩
        · simpa [e0] using q0
        · simpa [e1] using q1
        · simpa [e2] using q2
    have : Inhabited LB.Mat := ⟨⟨ByteArray.empty, 0, ByteArray.empty⟩⟩
    obtain ⟨X, hX⟩ := Deep.choose_lt heach
    have hat : ∀ i, i < len → LB.am ((List.range len).map X) i = X i := fun i hi => by
      simp [LB.am, hi]
    refine ⟨(List.range len).map X, by simp, fun i hi => ?_, fun x hx => ?_, by simpa using hl, fun h => by cases h⟩
    · have hi : i < len := by simpa using hi
      rw [hat i hi]
      obtain ⟨c0, c1, c2, _⟩ := hX i hi
      obtain ⟨b, off, spot⟩ := a
      have hspot : spot = none := by
        have := World.cell?_spot (hX 0 (by omega)).1
        simpa [Addr.add] using this
      subst hspot
      rw [add_plain] at c0 c1 c2
      exact ⟨b, off, rfl, c0, c1, c2, World.block_lt_of_cell? _ _ c0⟩
    · rw [List.mem_map] at hx
      obtain ⟨i, hi, rfl⟩ := hx
      exact (hX i (by simpa using hi)).2.2.2

set_option maxRecDepth 100000 in
/-- A slice of turns that comes in is a list of turns. -/
theorem open_turns {H : Type} {enc : TypeId × Value → H} {W : World} {a0 : Option Addr} {len cap : Nat} {d : DataW H} {p : List MemPlace}
    (h : DataW.Trod enc Tryz.prog W 0 (fun _ => true) true 41 (.slice a0 len cap) d p) :
    ∃ l : List Trn, len = l.length ∧ TRow W a0 l := by
  obtain ⟨fuel, hf⟩ := h
  rcases Deep.open_slice Tryz.underlying41 hf with ⟨hcs, hx⟩ | ⟨a, len', cap', m, nn, D, Pl, hcs, _, hl, hm, hmm, hx, hel⟩
  · simp [Value.cells] at hcs
    obtain ⟨rfl, rfl, rfl⟩ := hcs
    exact ⟨[], rfl, fun i hi => by simp at hi⟩
  · simp [Value.cells] at hcs
    obtain ⟨rfl, rfl, rfl⟩ := hcs
    simp only [if_true] at hmm
    have ce : Tryz.prog.cellsOf 63 = 6 := by kernel_rfl
    have c0 : Tryz.prog.cellsOf 3 = 1 := by kernel_rfl
    have c1 : Tryz.prog.cellsOf 22 = 1 := by kernel_rfl
    have c2 : Tryz.prog.cellsOf 2 = 1 := by kernel_rfl
    have c3 : Tryz.prog.cellsOf 61 = 3 := by kernel_rfl
    have c4 : Tryz.prog.cellsOf 59 = 1 := by kernel_rfl
    have heach : ∀ i, i < len → ∃ x : ((Option Addr × Nat) × (Option Addr × Nat)) × Trn, W.cell? (a.add (i * 6)) = some (.int .i64 x.2.what) ∧ W.cell? (a.add (i * 6 + 1)) = some (.slice x.1.1.1 x.2.L.length x.1.1.2) ∧ W.cell? (a.add (i * 6 + 2)) = some (.int .i64 x.2.t) ∧ W.cell? (a.add (i * 6 + 3)) = some (.slice x.1.2.1 x.2.M.length x.1.2.2) ∧ W.cell? (a.add (i * 6 + 4)) = some (.int .i64 x.2.fr) ∧ W.cell? (a.add (i * 6 + 5)) = some (.int .i64 x.2.tt) ∧ SrRow W x.1.1.1 x.2.L ∧ (∀ k, k < x.2.L.length → ∀ s ∈ (atSr x.2.L k).2, CL.Rs s) ∧ MRow W x.1.2.1 x.2.M := fun i hi => by
      obtain ⟨cs', h1, h2⟩ := hel i (by omega)
      rw [ce] at h1
      obtain ⟨_, hlen, hcell⟩ := World.cells?_some h1
      obtain ⟨xs, k, hk, hxy, _, hxl, hf⟩ := DataW.trod_struct Tryz.underlying63 h2
      match xs, hxl, cs', hlen with
      | [y0, y1, y2, y3], _, [v0, v1, v2, v3, v4, v5], _ =>
        have g0 := hf 0 _ rfl
        have g1 := hf 1 _ rfl
        have g2 := hf 2 _ rfl
        have g3 := hf 3 _ rfl
        simp [c0, c1, c2, c3] at g0 g1 g2 g3
        obtain ⟨n0, e0, _, _⟩ := DataW.trod_int Tryz.underlying3 g0
        obtain ⟨n2, e2, _, _⟩ := DataW.trod_int Tryz.underlying2 g2
        obtain ⟨ys, k3, hk3, hxy3, _, hyl, hg⟩ := DataW.trod_struct Tryz.underlying61 g3
        match ys, hyl with
        | [z0, z1, z2], _ =>
          have s0 := hg 0 _ rfl
          have s1 := hg 1 _ rfl
          have s2 := hg 2 _ rfl
          simp [c2, c4] at s0 s1 s2
          obtain ⟨n4, e4, _, _⟩ := DataW.trod_int Tryz.underlying2 s1
          obtain ⟨n5, e5, _, _⟩ := DataW.trod_int Tryz.underlying2 s2
          have hv1 : ∃ a1 len1 cap1, v1 = .slice a1 len1 cap1 := by
            rcases Deep.open_slice Tryz.underlying22 g1 with ⟨hcs, _⟩ | ⟨a1, len1, cap1, _, _, _, _, hcs, _⟩
            · exact ⟨none, 0, 0, by simpa using hcs⟩
            · exact ⟨some a1, len1, cap1, by simpa using hcs⟩
          have hv3 : ∃ a1 len1 cap1, v3 = .slice a1 len1 cap1 := by
            rcases Deep.open_slice Tryz.underlying59 s0 with ⟨hcs, _⟩ | ⟨a1, len1, cap1, _, _, _, _, hcs, _⟩
            · exact ⟨none, 0, 0, by simpa using hcs⟩
            · exact ⟨some a1, len1, cap1, by simpa using hcs⟩
          obtain ⟨a1, len1, cap1, rfl⟩ := hv1
          obtain ⟨a2, len2, cap2, rfl⟩ := hv3
          obtain ⟨l1, hl1, hS1, hR1⟩ := open_series (enc := enc) (W := W) (a0 := a1) (len := len1) (cap := cap1) ⟨_, by simpa [Value.cells] using g1⟩
          obtain ⟨l2, hl2, hS2, _⟩ := open_matchers (enc := enc) (W := W) (a0 := a2) (len := len2) (cap := cap2) ⟨_, by simpa [Value.cells] using s0⟩
          subst hl1 hl2
          simp only [List.cons.injEq, and_true] at e0 e2 e4 e5
          have q0 := hcell 0 (by omega)
          have q1 := hcell 1 (by omega)
          have q2 := hcell 2 (by omega)
          have q3 := hcell 3 (by omega)
          have q4 := hcell 4 (by omega)
          have q5 := hcell 5 (by omega)
          rw [Deep.add_add] at q0 q1 q2 q3 q4 q5
          refine ⟨(((a1, cap1), (a2, cap2)), ⟨n0, l1, n2, l2, n4, n5⟩), ?_, ?_, ?_, ?_, ?_, ?_, hS1, hR1, hS2⟩
          · simpa [e0] using q0
          · simpa using q1
          · simpa [e2] using q2
          · simpa using q3
          · simpa [e4] using q4
          · simpa [e5] using q5
    have : Inhabited Trn := ⟨⟨0, [], 0, [], 0, 0⟩⟩
    obtain ⟨X, hX⟩ := Deep.choose_lt heach
    have hat : ∀ i, i < len → atT ((List.range len).map fun i => (X i).2) i = (X i).2 := fun i hi => by
      simp [atT, hi]
    refine ⟨(List.range len).map fun i => (X i).2, by simp, fun i hi => ?_⟩
    have hi : i < len := by simpa using hi
    rw [hat i hi]
    obtain ⟨c0, c1, c2, c3, c4, c5, hS1, hR1, hM⟩ := hX i hi
    obtain ⟨b, off, spot⟩ := a
    have hspot : spot = none := by
      have := World.cell?_spot (hX 0 (by omega)).1
      simpa [Addr.add] using this
    subst hspot
    rw [add_plain] at c0 c1 c2 c3 c4 c5
    exact ⟨b, off, rfl, World.block_lt_of_cell? _ _ c0, (X i).1.1.1, (X i).1.1.2, (X i).1.2.1, (X i).1.2.2, c0, c1, c2, c3, c4, c5, hS1, hR1, hM⟩

end Go.Proofs.YtdmnlmohfaafoadGreatDoor

