/- What raingaugekeep's grown answers. -/
import Derived.Test.YtdmnlmohfaafoacDkDo
import Derived.Test.YtdmnlmohfaafoacDkStart
import Derived.Test.YtdmnlmohfaafoacDkList
namespace Go.Proofs.Ytdmnlmohfaafoac
open Go.RowKit Go.Maps

/-- A disk that is there, and nothing below B has turned. -/
def DkN (w : World) (bd cnt : Nat) (D : DK.M) (p : Int) (W : World) : Prop :=
  ∃ X, Dk W X bd cnt D p ∧ (∀ j, X j → w.heap.size ≤ j) ∧ Below w.heap.size w W

theorem DkN.on {w : World} {bd cnt' : Nat} {D' : DK.M} {p' : Int} {W W' : World} {X : Nat → Prop} (hx : ∀ j, X j → w.heap.size ≤ j) (hb : Below w.heap.size w W) (h : DkEnd W X bd cnt' D' p' W') : DkN w bd cnt' D' p' W' := by
  obtain ⟨X', h1, h2, h3⟩ := h
  refine ⟨X', h1, fun j hj => ?_, hb.trans (h2.toBelow hx hb.size)⟩
  rcases h3 j hj with h4 | h4
  · exact hx j h4
  · have := hb.size; omega

theorem Dk.below' {W W' : World} {X : Nat → Prop} {bd cnt : Nat} {D : DK.M} {p : Int} (h : Dk W X bd cnt D p) (hb : Below W.heap.size W W') : Dk W' X bd cnt D p := by
  obtain ⟨mo, fp, fv, e, l, h⟩ := h
  exact ⟨mo, fp, fv, e, l, h.below hb⟩

theorem DkN.below {w : World} {bd cnt : Nat} {D : DK.M} {p : Int} {W W' : World} (h : DkN w bd cnt D p W) (hb : Below W.heap.size W W') : DkN w bd cnt D p W' := by
  obtain ⟨X, h1, h2, h3⟩ := h
  exact ⟨X, h1.below' hb, h2, h3.trans (hb.mono h3.size)⟩

/-- The zero value. -/
theorem DkN.zero (w : World) : DkN w w.heap.size 0 (fun _ => none) (-1) (w.alloc (.cells #[.map none, .bool false, .int .i64 0] 53)) := by
  have hb0 := heap_alloc_new w (.cells #[.map none, .bool false, .int .i64 0] 53)
  refine ⟨fun j => j = w.heap.size, ⟨none, fun _ => none, fun _ => .slice none 0 0, false, 0, ?_⟩, fun j hj => by omega, (Below.refl w.heap.size w).alloc (Nat.le_refl _) _⟩
  exact { xd := rfl, dsk := hb0, pw := .inr ⟨rfl, rfl⟩, map := fun bm h => (by cases h), nomap := fun _ _ => rfl, files := { no := fun _ => ⟨fun _ => rfl, fun _ => rfl⟩, inj := fun _ _ _ h => (by cases h), body := fun _ _ _ h => (by cases h), sep := fun _ _ _ h => absurd rfl h } }

abbrev gA : ByteArray := ⟨#[97]⟩
abbrev gB : ByteArray := ⟨#[98]⟩
def g1 : DK.M := DK.put (fun _ => none) gA ⟨⟨#[120, 121]⟩, 0, false⟩
def g2 : DK.M := DK.put g1 gA ⟨⟨#[120, 121]⟩, 2, true⟩
def g3 : DK.M := DK.put g2 gA ⟨⟨#[120, 121, 122, 117]⟩, 2, true⟩
def g4 : DK.M := DK.put g3 gB ⟨⟨#[113]⟩, 0, false⟩

theorem g1_eq : DK.code 0 (fun _ => none) (-1) gA ⟨#[120, 121]⟩ = 0 ∧ DK.aftD 0 (fun _ => none) (-1) gA ⟨#[120, 121]⟩ = g1 := by
  have h : DK.code 0 (fun _ => none) (-1) gA ⟨#[120, 121]⟩ = 0 := by kernel_rfl
  refine ⟨h, ?_⟩
  unfold DK.aftD
  rw [if_pos h]
  have e : DK.gr (fun _ => none) gA ⟨#[120, 121]⟩ = ⟨⟨#[120, 121]⟩, 0, false⟩ := by kernel_rfl
  exact congrArg (DK.put (fun _ => none) gA) e

theorem g2_eq : DK.code 1 g1 (-1) gA ByteArray.empty = 0 ∧ DK.aftD 1 g1 (-1) gA ByteArray.empty = g2 := by
  have h : DK.code 1 g1 (-1) gA ByteArray.empty = 0 := by kernel_rfl
  refine ⟨h, ?_⟩
  unfold DK.aftD
  rw [if_pos h]
  have e : (⟨((g1 gA).getD DK.new).b, ((g1 gA).getD DK.new).b.size, true⟩ : DK.Fl) = ⟨⟨#[120, 121]⟩, 2, true⟩ := by kernel_rfl
  exact congrArg (DK.put g1 gA) e

theorem g3_eq : DK.code 0 g2 (-1) gA ⟨#[122, 117]⟩ = 0 ∧ DK.aftD 0 g2 (-1) gA ⟨#[122, 117]⟩ = g3 := by
  have h : DK.code 0 g2 (-1) gA ⟨#[122, 117]⟩ = 0 := by kernel_rfl
  refine ⟨h, ?_⟩
  unfold DK.aftD
  rw [if_pos h]
  have e : DK.gr g2 gA ⟨#[122, 117]⟩ = ⟨⟨#[120, 121, 122, 117]⟩, 2, true⟩ := by kernel_rfl
  exact congrArg (DK.put g2 gA) e

theorem g4_eq : DK.code 0 g3 (-1) gB ⟨#[113]⟩ = 0 ∧ DK.aftD 0 g3 (-1) gB ⟨#[113]⟩ = g4 := by
  have h : DK.code 0 g3 (-1) gB ⟨#[113]⟩ = 0 := by kernel_rfl
  refine ⟨h, ?_⟩
  unfold DK.aftD
  rw [if_pos h]
  have e : DK.gr g3 gB ⟨#[113]⟩ = ⟨⟨#[113]⟩, 0, false⟩ := by kernel_rfl
  exact congrArg (DK.put g3 gB) e

theorem g_pw (a : Nat) (D : DK.M) (n s : ByteArray) : DK.aftP a D (-1) n s = -1 := by
  unfold DK.aftP
  split
  · rfl
  · rfl

theorem g5_a : DK.start g4 1 gA = some ⟨⟨#[120, 121, 122]⟩, 3, true⟩ := by kernel_rfl

theorem g5_two (T : List (List UInt8)) (h : ST T fun n => DK.start g4 1 n ≠ none) : T.length = 2 := by
  have h2 : ST [[97], [98]] fun n => DK.start g4 1 n ≠ none := by
    refine ⟨by decide, by decide, fun s => ?_⟩
    have hb : DK.start g4 1 gB ≠ none := by
      have : DK.start g4 1 gB = some ⟨⟨#[113]⟩, 1, true⟩ := by kernel_rfl
      rw [this]; simp
    have ha : DK.start g4 1 gA ≠ none := by rw [g5_a]; simp
    constructor
    · intro hs
      have hs' : s = gA ∨ s = gB := by
        simp only [List.mem_cons, List.not_mem_nil, or_false] at hs
        rcases hs with hs | hs
        · left
          cases s
          simp only [gA, ByteArray.mk.injEq]
          exact Array.toList_inj.1 hs
        · right
          cases s
          simp only [gB, ByteArray.mk.injEq]
          exact Array.toList_inj.1 hs
      rcases hs' with rfl | rfl
      · exact ha
      · exact hb
    · intro hs
      by_cases h1 : s = gA
      · rw [h1]; simp
      · by_cases h2 : s = gB
        · rw [h2]; simp
        · exfalso
          apply hs
          refine DK.start_none ?_
          unfold g4 g3 g2 g1
          rw [DK.put_other _ _ _ _ h2, DK.put_other _ _ _ _ h1, DK.put_other _ _ _ _ h1, DK.put_other _ _ _ _ h1]
  rw [h.unique h2]; rfl

theorem g_fine {D : DK.M} (h : D = g1 ∨ D = g2 ∨ D = g3 ∨ D = g4) : DK.Fine 100 D := by
  have f0 : DK.Fine 100 fun _ => none := DK.Fine.none _
  have f1 : DK.Fine 100 g1 := f0.put (by decide) (by decide) (by decide) (fun _ => rfl)
  have f2 : DK.Fine 100 g2 := f1.put (by decide) (by decide) (by decide) (fun h => by cases h)
  have f3 : DK.Fine 100 g3 := f2.put (by decide) (by decide) (by decide) (fun h => by cases h)
  have f4 : DK.Fine 100 g4 := f3.put (by decide) (by decide) (by decide) (fun _ => rfl)
  rcases h with rfl | rfl | rfl | rfl
  · exact f1
  · exact f2
  · exact f3
  · exact f4

set_option maxRecDepth 100000 in
set_option maxHeartbeats 800000 in
theorem grown_any (w : World) : Calls Try.prog 25 #[] w fun e w' => e = .returned (.bool true) ∧ Below w.heap.size w w' := by
  have HZ := hid (DkN.zero w)
  have step : ∀ (cnt : Nat) (D : DK.M) (W : World), DkN w w.heap.size cnt D (-1) W → DK.Fine 100 D → cnt < 10 → ∀ (n s : ByteArray), n.size ≤ 10 → s.size ≤ 10 → DK.code 0 D (-1) n s = 0 →
      Calls Try.prog 29 #[.pointer (some ⟨w.heap.size, 0, none⟩), .string n, .string s] W fun en w' => en = .returned .nilIface ∧ DkN w w.heap.size (cnt + 1) (DK.aftD 0 D (-1) n s) (-1) w' := by
    intro cnt D W hN hF hc n s hn hs hcode
    obtain ⟨X, ⟨mo, fp, fv, e, l, hd⟩, hx, hb⟩ := hN
    refine (append_any hd n s (by unfold maxLen; omega) (by omega) (hF.mono (by omega)) (by omega)).mono ?_
    rintro en w' ⟨rfl, hend⟩
    rw [hcode]
    rw [g_pw] at hend
    exact ⟨rfl, DkN.on hx hb hend⟩
  have HStep := hid step
  clear step
  go_enter Try.func25, Try.ntmps25
  go_wp2_with fail
  refine (HStep.out _ _ _ HZ.out (DK.Fine.none _) (by omega) gA ⟨#[120, 121]⟩ (by decide) (by decide) g1_eq.1).mono ?_
  rintro en w1 ⟨rfl, h1⟩
  rw [g1_eq.2] at h1
  obtain ⟨X1, ⟨mo1, fp1, fv1, e1, l1, hd1⟩, hx1, hb1⟩ := h1
  have HSy := hid (sync_any hd1 gA (by unfold maxLen; decide))
  have HX1 := hid hx1
  have HB1 := hid hb1
  clear hd1 hx1 hb1
  go_wp2_with fail
  refine HSy.out.mono ?_
  rintro en w2 ⟨rfl, hend⟩
  rw [g2_eq.1, show er 0 = Value.nilIface from rfl]
  rw [g2_eq.2, g_pw] at hend
  have H2 := hid (DkN.on HX1.out HB1.out hend)
  clear hend HSy HX1 HB1
  go_wp2_with fail
  refine (HStep.out _ _ _ H2.out (g_fine (.inr (.inl rfl))) (by omega) gA ⟨#[122, 117]⟩ (by decide) (by decide) g3_eq.1).mono ?_
  rintro en w3 ⟨rfl, h3⟩
  rw [g3_eq.2] at h3
  have H3 := hid h3
  clear h3 H2
  go_wp2_with fail
  refine (HStep.out _ _ _ H3.out (g_fine (.inr (.inr (.inl rfl)))) (by omega) gB ⟨#[113]⟩ (by decide) (by decide) g4_eq.1).mono ?_
  rintro en w4 ⟨rfl, h4⟩
  rw [g4_eq.2] at h4
  obtain ⟨X4, ⟨mo4, fp4, fv4, e4, l4, hd4⟩, hx4, hb4⟩ := h4
  have HSt := hid (start_any hd4 1 (by omega) (by omega) ((g_fine (.inr (.inr (.inr rfl)))).mono (by omega)))
  have HX4 := hid hx4
  have HB4 := hid hb4
  clear hd4 hx4 hb4 H3
  go_wp2_with fail
  refine HSt.out.mono ?_
  rintro en w5 ⟨rfl, hend⟩
  have h5 := DkN.on HX4.out HB4.out hend
  obtain ⟨X5, ⟨mo5, fp5, fv5, e5, l5, hd5⟩, hx5, hb5⟩ := h5
  have HRd := hid (read_any hd5 gA (by unfold maxLen; decide))
  have HLs := hid (list_any hd5 (by omega))
  have HB5 := hid hb5
  clear hd5 hx5 hb5 hend HSt HX4 HB4
  go_wp2_with fail
  refine HRd.out.mono ?_
  rintro en w6 ⟨⟨hn, _⟩ | ⟨f, hf, rfl⟩, rfl⟩
  · rw [g5_a] at hn; cases hn
  · rw [g5_a] at hf
    cases hf
    go_wp2_with fail
    refine HLs.out.mono ?_
    rintro en w7 ⟨v7, T7, rfl, hT7, _, ho7, hb7⟩
    obtain ⟨ao7, cap7, rfl, hr7⟩ := TRow.of_own ho7
    have hlen := g5_two T7 hT7
    rw [hlen]
    have HB7 := hid (HB5.out.trans (hb7.mono HB5.out.size))
    clear hT7 ho7 hb7 hr7
    go_wp2_with fail
    go_ret
    exact ⟨rfl, HB7.out⟩

end Go.Proofs.Ytdmnlmohfaafoac
