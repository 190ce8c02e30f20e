/- Series that are written and read again, plain. Names no function. -/
import Derived.Test.YtdmnlmohfaafoadDoorCwAll
import Derived.Test.YtdmnlmohfaafoadDoorCrPln
namespace Go.Proofs.YtdmnlmohfaafoadDoor
open Go.RowKit

theorem toSr_srOf (l : List Sr) : (l.map srOf).map toSr = l := by
  rw [List.map_map]
  conv => rhs; rw [← List.map_id l]
  apply List.map_congr_left
  intro p _
  show (toLab (lbOf p.1), p.2) = p
  rw [toLab_lbOf]

theorem srOf_toSr (l : List (List CD.Lb × List CL.Smp)) : (l.map toSr).map srOf = l := by
  rw [List.map_map]
  conv => rhs; rw [← List.map_id l]
  apply List.map_congr_left
  intro p _
  show (lbOf (toLab p.1), p.2) = p
  rw [lbOf_toLab]

theorem right_small {l : List LB.Lab} (h : LB.right l = true) : l.length ≤ 8 ∧ ∀ i, i < l.length → (LB.at' l i).1.size ≤ 24 ∧ (LB.at' l i).2.size ≤ 24 := by
  have h1 := of_decide_eq_true h
  refine ⟨h1.2.1, fun i hi => ?_⟩
  obtain ⟨h2, h3, _⟩ := h1.2.2 i hi
  exact ⟨(of_decide_eq_true h2).2.1, (of_decide_eq_true h3).1⟩

theorem mem_atSr {l : List Sr} {x : Sr} (h : x ∈ l) : ∃ i, i < l.length ∧ atSr l i = x := by
  obtain ⟨i, hi, e⟩ := List.getElem_of_mem h
  refine ⟨i, hi, ?_⟩
  unfold atSr
  rw [List.getD_eq_getElem?_getD, List.getElem?_eq_getElem hi, e]
  rfl

theorem lb_mem {l : List LB.Lab} {x : CD.Lb} (h : x ∈ lbOf l) : ∃ i, i < l.length ∧ x = ((LB.at' l i).1.data.toList, (LB.at' l i).2.data.toList) := by
  unfold lbOf at h
  obtain ⟨p, hp, rfl⟩ := List.mem_map.1 h
  obtain ⟨i, hi, e⟩ := List.getElem_of_mem hp
  refine ⟨i, hi, ?_⟩
  have e3 : LB.at' l i = p := by
    unfold LB.at'
    rw [List.getD_eq_getElem?_getD, List.getElem?_eq_getElem hi, e]
    rfl
  rw [e3]

theorem chE_data (l : List CL.Smp) : sb (chE l) = strOf (BL.pk (CL.chB l)) := by unfold chE; rw [sb_of]

/-- What may be written. -/
theorem ok_of {l : List Sr} (hs : SrSh l) (h : ∀ i, i < l.length → okS (atSr l i) = true) : CD.Ok chE chD lbK (l.map srOf) := by
  intro x hx
  obtain ⟨y, hy, rfl⟩ := List.mem_map.1 hx
  obtain ⟨i, hi, rfl⟩ := mem_atSr hy
  obtain ⟨_, _, h3, h4⟩ := hs.2 i hi
  have h5 := h i hi
  unfold okS at h5
  rw [Bool.and_eq_true] at h5
  obtain ⟨h6, h7⟩ := right_small h5.2
  have hln : (lbOf (atSr l i).1).length = (atSr l i).1.length := by simp [lbOf]
  refine ⟨by show lbK (lbOf (atSr l i).1) = true; rw [lbK_of]; exact h5.2, by show (lbOf (atSr l i).1).length ≤ 8; omega, fun z hz => ?_, ?_, ?_⟩
  · obtain ⟨j, hj, rfl⟩ := lb_mem hz
    have := h7 j hj
    have e1 : (LB.at' (atSr l i).1 j).1.data.toList.length = (LB.at' (atSr l i).1 j).1.size := by rw [Array.length_toList]; rfl
    have e2 : (LB.at' (atSr l i).1 j).2.data.toList.length = (LB.at' (atSr l i).1 j).2.size := by rw [Array.length_toList]; rfl
    show (LB.at' (atSr l i).1 j).1.data.toList.length ≤ _ ∧ (LB.at' (atSr l i).1 j).2.data.toList.length ≤ _
    omega
  · show (chE (atSr l i).2).length ≤ _
    have e1 : (chE (atSr l i).2).length = (strOf (BL.pk (CL.chB (atSr l i).2))).size := by unfold chE; rw [Array.length_toList]; rfl
    have := chE_len (atSr l i).2 (by omega)
    omega
  · show chD (chE (atSr l i).2) = some (atSr l i).2
    unfold chD
    rw [chE_data]
    exact tx_read_of_write (atSr l i).2 h5.1 h4

/-- How many bytes they are. -/
theorem wAll_len {l : List Sr} (hs : SrSh l) (hl : l.length ≤ 20) : 8 ≤ (CD.wAll chE (l.map srOf)).length ∧ (CD.wAll chE (l.map srOf)).length ≤ 2500000 := by
  have h := wS_len l hs l.length (Nat.le_refl _)
  rw [List.take_of_length_le (by simp)] at h
  unfold CD.wAll
  rw [List.length_append, CD.wN_length]
  omega

/-- What is read may be written, and is written just so. -/
theorem read_sh {S : List UInt8} {l : List (List CD.Lb × List CL.Smp)} (h : CD.rAll chD lbK S = some (l, [])) (hS : S.length ≤ 1500) : SrSh (l.map toSr) ∧ (∀ i, i < (l.map toSr).length → okS (atSr (l.map toSr) i) = true) ∧ CD.wAll chE ((l.map toSr).map srOf) = S := by
  obtain ⟨h1, h2⟩ := rAll_few h
  have h3 := (CD.rAll_inv chDE h).1
  refine ⟨⟨by rw [List.length_map]; omega, fun i hi => ?_⟩, fun i hi => ?_, ?_⟩
  · rw [List.length_map] at hi
    obtain ⟨x, hx, e⟩ := atSr_map l i hi
    obtain ⟨h4, h5, h6⟩ := h2 x hx
    obtain ⟨k1, k2, k3⟩ := chD_rs h6
    obtain ⟨k4, k5⟩ := right_small (show LB.right (toLab x.1) = true from h4)
    rw [e]
    refine ⟨fun j hj => ?_, by show (toLab x.1).length ≤ 20; omega, k2, k3⟩
    have := k5 j hj
    show (LB.at' (toLab x.1) j).1.size ≤ _ ∧ (LB.at' (toLab x.1) j).2.size ≤ _
    omega
  · rw [List.length_map] at hi
    obtain ⟨x, hx, e⟩ := atSr_map l i hi
    obtain ⟨h4, h5, h6⟩ := h2 x hx
    rw [e]
    show (CL.right x.2 && LB.right (toLab x.1)) = true
    rw [(chD_rs h6).1, show LB.right (toLab x.1) = true from h4]
    rfl
  · rw [srOf_toSr, h3, List.append_nil]

/-- What is written is read. -/
theorem write_back {l : List Sr} (hs : SrSh l) (h : ∀ i, i < l.length → okS (atSr l i) = true) : CD.rAll chD lbK (CD.wAll chE (l.map srOf)) = some (l.map srOf, []) := by
  have hl := hs.1
  have := CD.rAll_w (l.map srOf) (ok_of hs h) (by rw [List.length_map]; omega) []
  rw [List.append_nil] at this
  exact this

/-- No beginning of it is any. -/
theorem write_part {l : List Sr} (hs : SrSh l) (hl : l.length ≤ 20) (h : ∀ i, i < l.length → okS (atSr l i) = true) {k : Nat} (hk : k < (CD.wAll chE (l.map srOf)).length) (m : List (List CD.Lb × List CL.Smp)) : CD.rAll chD lbK ((CD.wAll chE (l.map srOf)).take k) ≠ some (m, []) := fun hm =>
  CD.no_part chDE (l.map srOf) (ok_of hs h) (by rw [List.length_map]; omega) (by have := (wAll_len hs hl).2; omega) hk hm

end Go.Proofs.YtdmnlmohfaafoadDoor
