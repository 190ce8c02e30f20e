/- Series and what is gone that come in, opened, with their room. -/
import Derived.Test.YtdmnlmohfaafoaeDoorPSHdOpenC
import Derived.Test.YtdmnlmohfaafoaeDoorPSBkGnC
namespace Go.Proofs.YtdmnlmohfaafoaeDoor
open Go.ChangeShapes Go.WideShapes Go.ChangeAt Go.WideMaps Go.WideElems Go.RowKit

/-- A slice that comes in is no longer than its room. -/
theorem open_capV {H : Type} {enc : TypeId × Value → H} {W : World} {a0 : Option Addr} {len cap : Nat} {d : DataW H} {p : List MemPlace} {t e : TypeId} (hu : Tryd.prog.underlying t = some (.slice e))
    (h : DataW.Trod enc Tryd.prog W 0 (fun _ => true) true t (.slice a0 len cap) d p) : CapV (.slice a0 len cap) := by
  obtain ⟨fuel, hf⟩ := h
  rcases Deep.open_slice hu hf with ⟨hcs, hx⟩ | ⟨a, len', cap', m, nn, D, Pl, hcs, _, hl, _⟩
  · simp [Value.cells] at hcs
    obtain ⟨rfl, rfl, rfl⟩ := hcs
    intro so n sc e
    cases e
    exact ⟨Nat.le_refl _, fun _ => rfl⟩
  · simp [Value.cells] at hcs
    obtain ⟨rfl, rfl, rfl⟩ := hcs
    intro so n sc e
    cases e
    exact ⟨hl, fun e => by cases e⟩

set_option maxRecDepth 100000 in
/-- A slice of series that comes in is a list of series. -/
theorem open_seriesC {H : Type} {enc : TypeId × Value → H} {W : World} {a0 : Option Addr} {len cap : Nat} {d : DataW H} {p : List MemPlace}
    (h : DataW.Trod enc Tryd.prog W 0 (fun _ => true) true 27 (.slice a0 len cap) d p) :
    ∃ l : List Sr, len = l.length ∧ RowOk W (.slice a0 len cap) l ∧ ∀ i, i < l.length → ∀ s ∈ (atSr l i).2, CL.Rs s := by
  obtain ⟨fuel, hf⟩ := h
  rcases Deep.open_slice Tryd.underlying27 hf with ⟨hcs, hx⟩ | ⟨a, len', cap', m, nn, D, Pl, hcs, _, hl, hm, hmm, hx, hel⟩
  · simp [Value.cells] at hcs
    obtain ⟨rfl, rfl, rfl⟩ := hcs
    exact ⟨[], rfl, ⟨none, 0, rfl, fun i hi => by simp at hi, fun i hi => by simp at hi, Nat.le_refl _, fun _ => rfl⟩, fun i hi => by simp at hi⟩
  · simp [Value.cells] at hcs
    obtain ⟨rfl, rfl, rfl⟩ := hcs
    simp only [if_true] at hmm
    have ce : Tryd.prog.cellsOf 38 = 2 := by kernel_rfl
    have c0 : Tryd.prog.cellsOf 35 = 1 := by kernel_rfl
    have c1 : Tryd.prog.cellsOf 36 = 1 := by kernel_rfl
    have heach : ∀ i, i < len → ∃ x : ((Option Addr × Nat) × (Option Addr × Nat)) × Sr, W.cell? (a.add (i * 2)) = some (.slice x.1.1.1 x.2.1.length x.1.1.2) ∧ W.cell? (a.add (i * 2 + 1)) = some (.slice x.1.2.1 x.2.2.length x.1.2.2) ∧ LRow W x.1.1.1 x.2.1 ∧ SRow W x.1.2.1 x.2.2 ∧ (∀ s ∈ x.2.2, CL.Rs s) ∧ CapV (.slice x.1.2.1 x.2.2.length x.1.2.2) := fun i hi => by
      obtain ⟨cs', h1, h2⟩ := hel i (by omega)
      rw [ce] at h1
      obtain ⟨_, hlen, hcell⟩ := World.cells?_some h1
      obtain ⟨xs, k, hk, hxy, _, hxl, hf⟩ := DataW.trod_struct Tryd.underlying38 h2
      match xs, hxl, cs', hlen with
      | [y0, y1], _, [v0, v1], _ =>
        have g0 := hf 0 _ rfl
        have g1 := hf 1 _ rfl
        simp [c0, c1] at g0 g1
        have hv0 : ∃ a1 len1 cap1, v0 = .slice a1 len1 cap1 := by
          rcases Deep.open_slice Tryd.underlying35 g0 with ⟨hcs, _⟩ | ⟨a1, len1, cap1, _, _, _, _, hcs, _⟩
          · exact ⟨none, 0, 0, by simpa using hcs⟩
          · exact ⟨some a1, len1, cap1, by simpa using hcs⟩
        have hv1 : ∃ a1 len1 cap1, v1 = .slice a1 len1 cap1 := by
          rcases Deep.open_slice Tryd.underlying36 g1 with ⟨hcs, _⟩ | ⟨a1, len1, cap1, _, _, _, _, hcs, _⟩
          · exact ⟨none, 0, 0, by simpa using hcs⟩
          · exact ⟨some a1, len1, cap1, by simpa using hcs⟩
        obtain ⟨a1, len1, cap1, rfl⟩ := hv0
        obtain ⟨a2, len2, cap2, rfl⟩ := hv1
        obtain ⟨l1, hl1, hS1⟩ := open_labels (enc := enc) (W := W) (a0 := a1) (len := len1) (cap := cap1) ⟨_, by simpa [Value.cells] using g0⟩
        obtain ⟨l2, hl2, hS2, hR2⟩ := open_samples (enc := enc) (W := W) (a0 := a2) (len := len2) (cap := cap2) ⟨_, by simpa [Value.cells] using g1⟩
        have hC2 := open_capV (enc := enc) (W := W) (a0 := a2) (len := len2) (cap := cap2) Tryd.underlying36 ⟨_, by simpa [Value.cells] using g1⟩
        subst hl1 hl2
        have q0 := hcell 0 (by omega)
        have q1 := hcell 1 (by omega)
        rw [Deep.add_add] at q0 q1
        refine ⟨(((a1, cap1), (a2, cap2)), (l1, l2)), ?_, ?_, hS1, hS2, hR2, hC2⟩
        · simpa using q0
        · simpa using q1
    obtain ⟨X, hX⟩ := Deep.choose_lt heach
    have hat : ∀ i, i < len → atSr ((List.range len).map fun i => (X i).2) i = (X i).2 := fun i hi => by
      simp [atSr, hi]
    obtain ⟨b, off, spot⟩ := a
    have hspot : ∀ i, i < len → spot = none := fun i hi => by
      have := World.cell?_spot (hX 0 (by omega)).1
      simpa [Addr.add] using this
    have hlen : ((List.range len).map fun i => (X i).2).length = len := by simp
    refine ⟨(List.range len).map fun i => (X i).2, by simp, ⟨some ⟨b, off, spot⟩, cap, by rw [hlen], fun i hi => ?_, fun i hi b2 off2 e v hv => ?_, by rw [hlen]; exact hl, fun e => by cases e⟩, fun i hi => ?_⟩
    · have hi : i < len := by simpa using hi
      rw [hat i hi]
      obtain ⟨c0, c1, hS1, hS2, _⟩ := hX i hi
      obtain rfl := hspot i hi
      rw [add_plain] at c0 c1
      exact ⟨b, off, rfl, World.block_lt_of_cell? _ _ c0, (X i).1.1.1, (X i).1.1.2, (X i).1.2.1, (X i).1.2.2, c0, c1, hS1, hS2⟩
    · have hi : i < len := by simpa using hi
      obtain rfl := hspot i hi
      cases e
      obtain ⟨_, c1, _, _, _, hc⟩ := hX i hi
      rw [add_plain] at c1
      have e3 : off + (i * 2 + 1) = off + i * 2 + 1 := by omega
      first
        | rw [c1] at hv; cases hv; exact hc
        | rw [e3] at c1; rw [c1] at hv; cases hv; exact hc
    · have hi : i < len := by simpa using hi
      rw [hat i hi]
      exact (hX i hi).2.2.2.2.1

set_option maxRecDepth 100000 in
/-- A slice of matchers that comes in is a list of matchers. -/
theorem open_matchers {H : Type} {enc : TypeId × Value → H} {W : World} {a0 : Option Addr} {len cap : Nat} {d : DataW H} {p : List MemPlace}
    (h : DataW.Trod enc Tryd.prog W 0 (fun _ => true) true 51 (.slice a0 len cap) d p) :
    ∃ l : List LB.Mat, len = l.length ∧ MRow W a0 l ∧ (∀ x ∈ l, -9223372036854775808 ≤ x.op ∧ x.op ≤ 9223372036854775807) ∧ l.length ≤ cap ∧ (a0 = none → cap = 0) := by
  obtain ⟨fuel, hf⟩ := h
  rcases Deep.open_slice Tryd.underlying51 hf with ⟨hcs, hx⟩ | ⟨a, len', cap', m, nn, D, Pl, hcs, _, hl, hm, hmm, hx, hel⟩
  · simp [Value.cells] at hcs
    obtain ⟨rfl, rfl, rfl⟩ := hcs
    exact ⟨[], rfl, fun i hi => by simp at hi, fun x hx => by simp at hx, by simp, fun _ => rfl⟩
  · simp [Value.cells] at hcs
    obtain ⟨rfl, rfl, rfl⟩ := hcs
    simp only [if_true] at hmm
    have ce : Tryd.prog.cellsOf 93 = 3 := by kernel_rfl
    have c0 : Tryd.prog.cellsOf 9 = 1 := by kernel_rfl
    have c1 : Tryd.prog.cellsOf 3 = 1 := by kernel_rfl
    have heach : ∀ i, i < len → ∃ x : LB.Mat, W.cell? (a.add (i * 3)) = some (.string x.nm) ∧ W.cell? (a.add (i * 3 + 1)) = some (.int .i64 x.op) ∧ W.cell? (a.add (i * 3 + 2)) = some (.string x.vl) ∧ -9223372036854775808 ≤ x.op ∧ x.op ≤ 9223372036854775807 := fun i hi => by
      obtain ⟨cs', h1, h2⟩ := hel i (by omega)
      rw [ce] at h1
      obtain ⟨_, hlen, hcell⟩ := World.cells?_some h1
      obtain ⟨xs, k, hk, hxy, _, hxl, hf⟩ := DataW.trod_struct Tryd.underlying93 h2
      match xs, hxl, cs', hlen with
      | [y0, y1, y2], _, [v0, v1, v2], _ =>
        have g0 := hf 0 _ rfl
        have g1 := hf 1 _ rfl
        have g2 := hf 2 _ rfl
        simp [c0, c1] at g0 g1 g2
        obtain ⟨k0, e0, _⟩ := DataW.trod_string Tryd.underlying9 g0
        obtain ⟨k1, e1, _, w1⟩ := DataW.trod_int Tryd.underlying3 g1
        obtain ⟨k2, e2, _⟩ := DataW.trod_string Tryd.underlying9 g2
        simp only [List.cons.injEq, and_true] at e0 e1 e2
        have q0 := hcell 0 (by omega)
        have q1 := hcell 1 (by omega)
        have q2 := hcell 2 (by omega)
        rw [Deep.add_add] at q0 q1 q2
        refine ⟨⟨k0, k1, k2⟩, ?_, ?_, ?_, wf_i64 w1⟩
        · simpa [e0] using q0
        · simpa [e1] using q1
        · simpa [e2] using q2
    have : Inhabited LB.Mat := ⟨⟨ByteArray.empty, 0, ByteArray.empty⟩⟩
    obtain ⟨X, hX⟩ := Deep.choose_lt heach
    have hat : ∀ i, i < len → LB.am ((List.range len).map X) i = X i := fun i hi => by
      simp [LB.am, hi]
    refine ⟨(List.range len).map X, by simp, fun i hi => ?_, fun x hx => ?_, by simpa using hl, fun h => by cases h⟩
    · have hi : i < len := by simpa using hi
      rw [hat i hi]
      obtain ⟨c0, c1, c2, _⟩ := hX i hi
      obtain ⟨b, off, spot⟩ := a
      have hspot : spot = none := by
        have := World.cell?_spot (hX 0 (by omega)).1
        simpa [Addr.add] using this
      subst hspot
      rw [add_plain] at c0 c1 c2
      exact ⟨b, off, rfl, c0, c1, c2, World.block_lt_of_cell? _ _ c0⟩
    · rw [List.mem_map] at hx
      obtain ⟨i, hi, rfl⟩ := hx
      exact (hX i (by simpa using hi)).2.2.2

set_option maxRecDepth 100000 in
/-- A slice of what is gone that comes in. -/
theorem open_gones {H : Type} {enc : TypeId × Value → H} {W : World} {a0 : Option Addr} {len cap : Nat} {d : DataW H} {p : List MemPlace}
    (h : DataW.Trod enc Tryd.prog W 0 (fun _ => true) true 46 (.slice a0 len cap) d p) :
    ∃ l : List Gn, len = l.length ∧ GOk W (.slice a0 len cap) l := by
  have hcv := open_capV Tryd.underlying46 h _ _ _ rfl
  obtain ⟨fuel, hf⟩ := h
  rcases Deep.open_slice Tryd.underlying46 hf with ⟨hcs, hx⟩ | ⟨a, len', cap', m, nn, D, Pl, hcs, _, hl, hm, hmm, hx, hel⟩
  · simp [Value.cells] at hcs
    obtain ⟨rfl, rfl, rfl⟩ := hcs
    exact ⟨[], rfl, none, 0, rfl, fun i hi => by simp at hi, Nat.le_refl _, fun _ => rfl⟩
  · simp [Value.cells] at hcs
    obtain ⟨rfl, rfl, rfl⟩ := hcs
    simp only [if_true] at hmm
    have ce : Tryd.prog.cellsOf 53 = 3 := by kernel_rfl
    have c2 : Tryd.prog.cellsOf 2 = 1 := by kernel_rfl
    have c4 : Tryd.prog.cellsOf 51 = 1 := by kernel_rfl
    have heach : ∀ i, i < len → ∃ x : (Option Addr × Nat) × Gn, W.cell? (a.add (i * 3)) = some (.slice x.1.1 x.2.M.length x.1.2) ∧ W.cell? (a.add (i * 3 + 1)) = some (.int .i64 x.2.fr) ∧ W.cell? (a.add (i * 3 + 2)) = some (.int .i64 x.2.tt) ∧ MRow W x.1.1 x.2.M := fun i hi => by
      obtain ⟨cs', h1, h2⟩ := hel i (by omega)
      rw [ce] at h1
      obtain ⟨_, hlen, hcell⟩ := World.cells?_some h1
      obtain ⟨xs, k, hk, hxy, _, hxl, hg⟩ := DataW.trod_struct Tryd.underlying53 h2
      match xs, hxl, cs', hlen with
      | [z0, z1, z2], _, [v0, v1, v2], _ =>
        have s0 := hg 0 _ rfl
        have s1 := hg 1 _ rfl
        have s2 := hg 2 _ rfl
        simp [c2, c4] at s0 s1 s2
        obtain ⟨n4, e4, _, _⟩ := DataW.trod_int Tryd.underlying2 s1
        obtain ⟨n5, e5, _, _⟩ := DataW.trod_int Tryd.underlying2 s2
        have hv0 : ∃ a1 len1 cap1, v0 = .slice a1 len1 cap1 := by
          rcases Deep.open_slice Tryd.underlying51 s0 with ⟨hcs, _⟩ | ⟨a1, len1, cap1, _, _, _, _, hcs, _⟩
          · exact ⟨none, 0, 0, by simpa using hcs⟩
          · exact ⟨some a1, len1, cap1, by simpa using hcs⟩
        obtain ⟨a2, len2, cap2, rfl⟩ := hv0
        obtain ⟨l2, hl2, hS2, _⟩ := open_matchers (enc := enc) (W := W) (a0 := a2) (len := len2) (cap := cap2) ⟨_, by simpa [Value.cells] using s0⟩
        subst hl2
        simp only [List.cons.injEq, and_true] at e4 e5
        have q0 := hcell 0 (by omega)
        have q1 := hcell 1 (by omega)
        have q2 := hcell 2 (by omega)
        rw [Deep.add_add] at q0 q1 q2
        refine ⟨((a2, cap2), ⟨l2, n4, n5⟩), ?_, ?_, ?_, hS2⟩
        · simpa using q0
        · simpa [e4] using q1
        · simpa [e5] using q2
    have : Inhabited Gn := ⟨⟨[], 0, 0⟩⟩
    obtain ⟨X, hX⟩ := Deep.choose_lt heach
    have hat : ∀ i, i < len → atG ((List.range len).map fun i => (X i).2) i = (X i).2 := fun i hi => by
      simp [atG, hi]
    have hlen : ((List.range len).map fun i => (X i).2).length = len := by simp
    refine ⟨(List.range len).map fun i => (X i).2, by simp, some a, cap, by rw [hlen], fun i hi => ?_, by rw [hlen]; exact hcv.1, fun e => by cases e⟩
    have hi : i < len := by simpa using hi
    rw [hat i hi]
    obtain ⟨c0, c1, c2, hM⟩ := hX i hi
    obtain ⟨b, off, spot⟩ := a
    have hspot : spot = none := by
      have := World.cell?_spot (hX 0 (by omega)).1
      simpa [Addr.add] using this
    subst hspot
    rw [add_plain] at c0 c1 c2
    exact ⟨b, off, rfl, World.block_lt_of_cell? _ _ c0, (X i).1.1, (X i).1.2, c0, c1, c2, hM⟩

end Go.Proofs.YtdmnlmohfaafoaeDoor

