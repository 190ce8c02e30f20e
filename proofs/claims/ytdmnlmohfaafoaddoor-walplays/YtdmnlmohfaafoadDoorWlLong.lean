/- What the law's long answers: a text of so many bytes. -/
import Derived.Test.YtdmnlmohfaafoadDoorDkMem
import Derived.Laws.OwnMore
namespace Go.Proofs.YtdmnlmohfaafoadDoor
open Go.RowKit

theorem Tryd.linfo5 : (Tryd.prog.info? 5).map (fun i => (i.zero, i.size, i.bytes)) = some (some (.int .u8 0), 1, 1) := by kernel_rfl

/-- So many bytes of one's own, whatever they are. -/
def BytesN (w : World) (g n : Nat) : Prop := ∃ L : List UInt8, L.length = n ∧ w.ownsRow g 5 1 (.slice (some ⟨g, 0, none⟩) n n) n (Lib.byteCells L)

theorem BytesN.cell {w : World} {g n : Nat} (h : BytesN w g n) (i : Nat) (hi : i < n) : (∃ u, w.cell? ⟨g, i, none⟩ = some u) ∧ w.frozen? ⟨g, i, none⟩ = false := by
  obtain ⟨L, hL, h⟩ := h
  rcases h.2 with ⟨h0, _⟩ | ⟨g', cap, cur, h0, _, hc, _, _, h4, _⟩
  · cases h0
  · cases h0
    refine ⟨⟨cur[i]'(by omega), by simp [World.cell?, hc, show i < cur.size by omega]⟩, by simp [World.frozen?, hc]⟩

theorem BytesN.store {w : World} {g n : Nat} (h : BytesN w g n) (i : Nat) (_hi : i < n) (b : Nat) (hb : b < 256) : BytesN (w.setCell ⟨g, i, none⟩ (.int .u8 b)) g n := by
  obtain ⟨L, hL, h⟩ := h
  refine ⟨L.set i (UInt8.ofNat b), by simp [hL], ?_⟩
  rcases h.2 with ⟨h0, _⟩ | ⟨g', cap, cur, h0, h1, hc, h2, h3, h4, h5⟩
  · cases h0
  · cases h0
    refine ⟨by rw [Lib.byteCells_length, List.length_set, hL]; omega, .inr ⟨g, n, cur.setIfInBounds i (.int .u8 b), rfl, h1, ?_, h2, h3, by simp [h4], ?_⟩⟩
    · rw [heap_setCell_same w g i _ _ _ hc]
    · have e : Lib.byteCells (L.set i (UInt8.ofNat b)) = (Lib.byteCells L).set i (.int .u8 (b : Int)) := by
        unfold Lib.byteCells
        rw [List.map_set]
        congr 2
        rw [UInt8.toNat_ofNat']
        omega
      rw [e, ← h5, Array.toList_setIfInBounds, List.take_set]

set_option maxRecDepth 100000 in
theorem long_any (n : Nat) (w : World) (hn : n ≤ 1000000) :
    Calls Tryd.prog 9 #[.int .i64 n] w fun e w' => ∃ t : ByteArray, e = .returned (.string t) ∧ t.size = n ∧ Below w.heap.size w w' := by
  obtain ⟨ii, hii, hz0, hz1, hz2⟩ := info_parts Tryd.linfo5
  obtain ⟨wa, hmk, hown, hgr⟩ := run_makeSlice_full (P := Tryd.prog) w w.heap.size 80 5 ii (.int .u8 0) 1 Tryd.underlying80 hii hz0 hz1 .i64 .i64 n (by omega) (by rw [hz2]; omega) (by unfold maxLen; omega) (Nat.le_refl _)
  have HBy : Hid (BytesN wa w.heap.size n) := by
    refine ⟨List.replicate n 0, by simp, ?_⟩
    have e : (madeCells (Value.int .u8 0).cells (n * 1)).toList = Lib.byteCells (List.replicate n 0) := by
      unfold madeCells Lib.byteCells
      apply List.ext_getElem
      · simp
      · intro k h1 h2
        simp [Value.cells, Nat.mod_one]
    rw [← e]; exact hown
  have HB : Hid (Below w.heap.size w wa) := (Below.refl _ w).grown hgr (Nat.le_refl _) (fun j h => by cases h)
  clear hown hgr hii hz0 hz1 hz2
  go_enter Tryd.func9, Tryd.ntmps9
  go_wp2_with fail
  go_loopw [4] (fun ti wr => ∃ i : Nat, i ≤ n ∧ ti = .int .i64 i ∧ BytesN wr w.heap.size n ∧ Below w.heap.size w wr) (fun ti _ => n - (intOf ti).toNat)
  case atStart => exact ⟨0, by omega, rfl, HBy.out, HB.out⟩
  case round =>
    obtain ⟨i, hi, rfl, hby, hbel⟩ := hrel
    have HY := hid hby
    have HBl := hid hbel
    clear hbel hby HBy HB
    by_cases hlt : i < n
    · obtain ⟨⟨u, hu⟩, hf⟩ := HY.out.cell i hlt
      have HQ := HY.out.store i hlt (i % 256) (by omega)
      have e : ((i % 256 : Nat) : Int) = (i : Int) % 256 := by omega
      rw [e] at HQ
      have HQ := hid HQ
      clear e
      go_wp2_with fail
      go_roundw
      case rel => exact ⟨i + 1, by omega, by go_num, HQ.out, HBl.out.setCell (p := ⟨w.heap.size, i, none⟩) (Nat.le_refl _) _⟩
      case measure => simp [intOf]; omega
    · have he : i = n := by omega
      subst he
      obtain ⟨L, hL, hR⟩ := HY.out
      have hcv : (convert 80 9 (.slice (some ⟨w.heap.size, 0, none⟩) i i)).run Tryd.prog wr = .ok (.string ⟨L.toArray⟩) wr := by
        have : RowB wr (.slice (some ⟨w.heap.size, 0, none⟩) i i) ⟨L.toArray⟩ := by
          have e1 : (⟨L.toArray⟩ : ByteArray).size = i := by show L.toArray.size = i; simp [hL]
          have e2 : Lib.strCells ⟨L.toArray⟩ = Lib.byteCells L := by unfold Lib.strCells Lib.byteCells; simp
          show World.ownsRow _ _ _ _ _ _ _
          rw [e1, e2]
          refine ⟨hR.1, ?_⟩
          rcases hR.2 with h0 | ⟨g, cap, cur, h0, _, h2⟩
          · exact .inl h0
          · exact .inr ⟨g, cap, cur, h0, Nat.zero_le _, h2⟩
        exact this.text Tryd.underlying80 Tryd.underlying5 Tryd.underlying9
      clear hR
      go_wp2_with fail
      go_ret
      exact ⟨_, rfl, hL, HBl.out⟩

end Go.Proofs.YtdmnlmohfaafoadDoor
