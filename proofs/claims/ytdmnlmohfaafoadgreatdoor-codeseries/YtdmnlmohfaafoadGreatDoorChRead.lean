/- What chunk.Read answers. -/
import Derived.Test.YtdmnlmohfaafoadGreatDoorChSam
namespace Go.Proofs.YtdmnlmohfaafoadGreatDoor
open Go.RowKit

theorem samL_rs (b : List Bool) (l : List CL.Smp) (t : List Bool) (h : samL b = some (l, t)) : (∀ s ∈ l, CL.Rs s) ∧ l.length ≤ 2000 := by
  unfold samL at h
  rcases hg : BL.getL b with _ | ⟨u, r⟩
  · rw [hg] at h; simp at h
  · rw [hg] at h
    simp only [] at h
    split at h
    · next hc =>
      obtain ⟨_, h2, _, h4⟩ := CL.unn_inv _ _ _ _ _ h (by simp)
      simp only [List.length_nil, Nat.zero_add] at h2
      exact ⟨h4, by omega⟩
    · simp at h

theorem Only.ext_size {R : Nat} {w w' : World} (h : Only R w w') : w'.heap.size ≤ w.heap.size := Nat.le_of_eq h.size

/-- What chunk.Read tells. -/
def ReadEnd (w : World) (e : Ending) (w' : World) : Option (List CL.Smp) → Prop
  | none => e = .returned (.tuple #[.slice none 0 0, .iface 24 (.int .i64 3)]) ∧ Below w.heap.size w w'
  | some l => ∃ v, e = .returned (.tuple #[v, .nilIface]) ∧ w'.ownsRow w.heap.size 52 2 v l.length (sv l) ∧ Below w.heap.size w w'

set_option maxRecDepth 100000 in
set_option maxHeartbeats 1600000 in
theorem read_c (s : ByteArray) (w : World) (hs : s.size ≤ 140737488351232) (hW : Wids w) (hG : 1 < w.heap.size) :
    Calls Tryz.prog 112 #[.string s] w fun e w' => ReadEnd w e w' (CL.readL (bitsS s)) := by
  have hrd := readL_sam (bitsS s)
  have HB0 := hid ((Below.refl w.heap.size w).alloc (Nat.le_refl _) (.cells #[.string s, .int .i64 0] 240))
  have HC := hid (samples_any w.heap.size s 0 _ (RInv.new s w) hs (hW.alloc hG _) hG)
  rw [List.drop_zero] at HC
  clear hW
  rcases hsm : samL (bitsS s) with _ | ⟨l, t⟩
  · rw [hsm] at HC hrd
    rw [hrd]
    clear hrd hsm
    go_enter Tryz.func112, Tryz.ntmps112
    go_wp2_with fail
    refine (from_any s _).mono ?_
    rintro e w1 ⟨rfl, rfl⟩
    go_wp2_with fail
    refine Calls.mono HC.out ?_
    rintro e w2 ⟨rfl, he2⟩
    have HB2 := hid (HB0.out.trans (he2.below (Nat.le_refl _) (by simp)))
    clear he2
    go_wp2_with fail
    go_ret2
    exact ⟨rfl, HB2.out⟩
  · obtain ⟨hR, hll⟩ := samL_rs _ _ _ hsm
    have HR := hid hR
    rw [hsm] at HC hrd
    simp only [] at hrd
    rw [hrd]
    clear hrd hsm hR
    by_cases hsp : t.length < 8 ∧ BL.val t = 0
    · have HSP : Hid (decide (t.length < 8 ∧ BL.val t = 0) = true) := decide_eq_true hsp
      by_cases hr : CL.right l = true
      · have HRt := hid hr
        rw [if_pos ⟨hsp.1, hsp.2, hr⟩]
        clear hsp hr
        go_enter Tryz.func112, Tryz.ntmps112
        go_wp2_with fail
        refine (from_any s _).mono ?_
        rintro e w1 ⟨rfl, rfl⟩
        go_wp2_with fail
        refine Calls.mono HC.out ?_
        rintro e w2 ⟨v, p2, rfl, ho2, hi2, hd2, he2⟩
        have HB2 := hid (HB0.out.trans (he2.below (Nat.le_refl _) (by simp)))
        have HOw2 := hid ho2
        have HI2 := hid hi2
        have HD2 := hid hd2
        clear he2 ho2 hi2 hd2
        go_wp2_with fail
        refine (spent_any w.heap.size s p2 t _ HI2.out hs HD2.out).mono ?_
        rintro e w3 ⟨rfl, ho3⟩
        rw [HSP.out]
        have hsz : w.heap.size ≤ w2.heap.size := HB2.out.size
        have HOw3 := hid (ownsRow_kept_all' HOw2.out (w' := w3) fun k hk => ho3.block k (by have := HOw2.out.lt k hk; simp at this; omega))
        have HB3 := hid (HB2.out.trans (ho3.below (Nat.le_refl _)))
        clear ho3
        obtain ⟨ao, cap, hv, hS⟩ := SRow.of_own HOw3.out
        subst hv
        have HS := hid hS
        clear hS
        go_wp2_with fail
        refine (right_any ao l cap _ HS.out HR.out (by omega)).mono ?_
        rintro e w4 ⟨rfl, hb4⟩
        rw [HRt.out]
        have HOw4 := hid (ownsRow_kept_all' HOw3.out (w' := w4) fun k hk => hb4.block k (HOw3.out.lt k hk).2)
        have HB4 := hid (HB3.out.trans (hb4.mono HB3.out.size))
        clear hb4
        go_wp2_with fail
        go_ret2
        exact ⟨_, rfl, HOw4.out.mono (by simp), HB4.out⟩
      · have HRt : Hid (CL.right l = false) := by show _ = _; simpa using hr
        rw [if_neg (fun h => hr h.2.2)]
        clear hsp hr
        go_enter Tryz.func112, Tryz.ntmps112
        go_wp2_with fail
        refine (from_any s _).mono ?_
        rintro e w1 ⟨rfl, rfl⟩
        go_wp2_with fail
        refine Calls.mono HC.out ?_
        rintro e w2 ⟨v, p2, rfl, ho2, hi2, hd2, he2⟩
        have HB2 := hid (HB0.out.trans (he2.below (Nat.le_refl _) (by simp)))
        have HOw2 := hid ho2
        have HI2 := hid hi2
        have HD2 := hid hd2
        clear he2 ho2 hi2 hd2
        go_wp2_with fail
        refine (spent_any w.heap.size s p2 t _ HI2.out hs HD2.out).mono ?_
        rintro e w3 ⟨rfl, ho3⟩
        rw [HSP.out]
        have HOw3 := hid (ownsRow_kept_all' HOw2.out (w' := w3) fun k hk => ho3.block k (by have := HOw2.out.lt k hk; simp at this; omega))
        have HB3 := hid (HB2.out.trans (ho3.below (Nat.le_refl _)))
        clear ho3
        obtain ⟨ao, cap, hv, hS⟩ := SRow.of_own HOw3.out
        subst hv
        have HS := hid hS
        clear hS
        go_wp2_with fail
        refine (right_any ao l cap _ HS.out HR.out (by omega)).mono ?_
        rintro e w4 ⟨rfl, hb4⟩
        rw [HRt.out]
        have HB4 := hid (HB3.out.trans (hb4.mono HB3.out.size))
        clear hb4
        go_wp2_with fail
        go_ret2
        exact ⟨rfl, HB4.out⟩
    · have HSP : Hid (decide (t.length < 8 ∧ BL.val t = 0) = false) := decide_eq_false hsp
      rw [if_neg (fun h => hsp ⟨h.1, h.2.1⟩)]
      clear hsp
      go_enter Tryz.func112, Tryz.ntmps112
      go_wp2_with fail
      refine (from_any s _).mono ?_
      rintro e w1 ⟨rfl, rfl⟩
      go_wp2_with fail
      refine Calls.mono HC.out ?_
      rintro e w2 ⟨v, p2, rfl, ho2, hi2, hd2, he2⟩
      have HB2 := hid (HB0.out.trans (he2.below (Nat.le_refl _) (by simp)))
      have HI2 := hid hi2
      have HD2 := hid hd2
      clear he2 ho2 hi2 hd2
      go_wp2_with fail
      refine (spent_any w.heap.size s p2 t _ HI2.out hs HD2.out).mono ?_
      rintro e w3 ⟨rfl, ho3⟩
      rw [HSP.out]
      have HB3 := hid (HB2.out.trans (ho3.below (Nat.le_refl _)))
      clear ho3
      go_wp2_with fail
      go_ret2
      exact ⟨rfl, HB3.out⟩

end Go.Proofs.YtdmnlmohfaafoadGreatDoor
