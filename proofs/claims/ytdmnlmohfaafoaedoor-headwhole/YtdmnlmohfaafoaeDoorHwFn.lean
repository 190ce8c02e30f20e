/- What HeadWhole's own helpers do: one, count, headed. -/
import Derived.Test.YtdmnlmohfaafoaeDoorHdCut
import Derived.Test.YtdmnlmohfaafoaeDoorHdSt
import Derived.Test.YtdmnlmohfaafoaeDoorHAs
import Derived.Test.YtdmnlmohfaafoaeDoorHwNum
namespace Go.Proofs.YtdmnlmohfaafoaeDoor
open Go.RowKit

/-- A series of one sample. -/
abbrev oneS (name : ByteArray) (t v : Int) : List Sr := [([(⟨#[110]⟩, name)], [(t, v)])]

theorem kone_any (name : ByteArray) (t v : Int) (w : World) :
    Calls Tryd.prog 32 #[.string name, .int .i64 t, .int .i64 v] w fun e w' => ∃ u, e = .returned u ∧ SrOwn w' w.heap.size u (oneS name t v) ∧ Below w.heap.size w w' := by
  go_enter Tryd.func32, Tryd.ntmps32
  go_wp2_with fail
  go_ret
  obtain ⟨h1, h2, h3⟩ := three_new w (.cells #[.string ⟨#[110]⟩, .string name] 84) (.cells #[.int .i64 t, .int .i64 v] 42) (.cells #[.slice (some ⟨w.heap.size, 0, none⟩) 1 1, .slice (some ⟨w.heap.size + 1, 0, none⟩) 1 1] 38)
  exact ⟨_, rfl, lit_own h1 h2 h3 (Nat.le_refl _) (Nat.le_succ _) (by omega), (((Below.refl _ w).alloc (Nat.le_refl _) _).alloc (by simp) _).alloc (by simp; omega) _⟩

set_option maxRecDepth 100000 in
theorem count_any (ao : Option Addr) (l : List Sr) (cap : Nat) (w : World) (hL : SrRow w ao l) (hl : l.length ≤ 1000) (hs : ∀ i, i < l.length → (atSr l i).2.length ≤ 2000) :
    Calls Tryd.prog 12 #[.slice ao l.length cap] w fun e w' => e = .returned (.int .i64 (HD.total l : Int)) ∧ w' = w := by
  have HL := hid hL
  have HSm := hid hs
  clear hL hs
  go_enter Tryd.func12, Tryd.ntmps12
  go_wp2
  go_loop [3, 4] (fun tc ti => ∃ i : Nat, i ≤ l.length ∧ ti = .int .i64 i ∧ tc = .int .i64 (HD.total (l.take i)) ∧ HD.total (l.take i) ≤ i * 2000) (fun _ ti => l.length - (intOf ti).toNat)
  case atStart => exact ⟨0, by omega, rfl, rfl, Nat.le_refl _⟩
  case round =>
    obtain ⟨i, hi, rfl, rfl, hle⟩ := hrel
    by_cases hlt : i < l.length
    · obtain ⟨b, off, hao, hbs, lo, lc, so, sc, hc0, hc1, _, _⟩ := HL.out i hlt
      subst hao
      have HT := hid (HD.total_take l i hlt)
      have hsm := HSm.out i hlt
      generalize (atSr l i).2.length = n at *
      generalize (atSr l i).1.length = m at *
      generalize HD.total (l.take i) = t at *
      have hil : 0 ≤ (i : Int) ∧ (i : Int) < (l.length : Int) := by omega
      go_wp2_with fail
      go_round
      case rel => exact ⟨i + 1, by omega, by go_num, by rw [HT.out]; go_num, by rw [HT.out]; omega⟩
      case measure => simp [intOf]; omega
    · have he : i = l.length := by omega
      subst he
      rw [List.take_length] at hle ⊢
      generalize hT : HD.total l = t at *
      have HT := hid hT
      clear hT
      go_wp2_with fail
      go_ret
      exact ⟨by rw [HT.out]; rfl, rfl⟩

theorem hd_app1 : HD.app 10 [] (oneS ⟨#[97]⟩ 11 1) = ((0, -1), oneS ⟨#[97]⟩ 11 1) := by decide
theorem hd_app2 : HD.app 10 (oneS ⟨#[97]⟩ 11 1) (oneS ⟨#[97]⟩ 11 1) = ((10, 0), oneS ⟨#[97]⟩ 11 1) := by
  have hc : LB.cmp [((⟨#[110]⟩ : ByteArray), (⟨#[97]⟩ : ByteArray))] [(⟨#[110]⟩, ⟨#[97]⟩)] = 0 := HD.cmp_refl _
  have hp : HD.pos (oneS ⟨#[97]⟩ 11 1) [(⟨#[110]⟩, ⟨#[97]⟩)] = 0 := by
    show (if LB.cmp [((⟨#[110]⟩ : ByteArray), (⟨#[97]⟩ : ByteArray))] [(⟨#[110]⟩, ⟨#[97]⟩)] = -1 then _ else 0) = 0
    rw [hc]; rfl
  have ht : HD.there (oneS ⟨#[97]⟩ 11 1) [(⟨#[110]⟩, ⟨#[97]⟩)] = true := by
    unfold HD.there
    rw [hp]
    exact decide_eq_true ⟨by decide, hc⟩
  have he : HD.err 10 (oneS ⟨#[97]⟩ 11 1) ([(⟨#[110]⟩, ⟨#[97]⟩)], [(11, 1)]) = 10 := by
    unfold HD.err
    rw [if_neg (by decide), if_neg (by decide), if_pos ht, hp, if_pos (by decide)]
  have hr : HD.run 10 (oneS ⟨#[97]⟩ 11 1) (oneS ⟨#[97]⟩ 11 1) 0 = (some (10, 0), oneS ⟨#[97]⟩ 11 1) := by
    show (if HD.err 10 (oneS ⟨#[97]⟩ 11 1) ([(⟨#[110]⟩, ⟨#[97]⟩)], [(11, 1)]) = 0 then _ else (some (HD.err 10 (oneS ⟨#[97]⟩ 11 1) ([(⟨#[110]⟩, ⟨#[97]⟩)], [(11, 1)]), 0), _)) = _
    rw [he]; rfl
  unfold HD.app
  rw [if_neg (by decide), hr]
  rfl
theorem hd_app3 : HD.app 10 (oneS ⟨#[97]⟩ 11 1) (oneS ⟨#[98]⟩ 10 1) = ((10, 0), oneS ⟨#[97]⟩ 11 1) := by decide
theorem hd_cut : HD.kp (fun _ s => decide (s ≤ 11)) (oneS ⟨#[97]⟩ 11 1) = oneS ⟨#[97]⟩ 11 1 := by decide
theorem hd_rs (s : ByteArray) (t v : Int) (ht : -1000 ≤ t ∧ t ≤ 1000) (hv : -1000 ≤ v ∧ v ≤ 1000) : ∀ i, i < (oneS s t v).length → ∀ x ∈ (atSr (oneS s t v) i).2, CL.Rs x := by
  intro i hi x hx
  have hi0 : i = 0 := by simp at hi; omega
  subst hi0
  have : x = (t, v) := by simpa [atSr] using hx
  subst this
  unfold CL.Rs
  simp only
  omega

theorem hd_good : HD.Good (oneS ⟨#[97]⟩ 11 1) := ⟨List.pairwise_singleton _ _, by decide, fun x hx => by
  have : x = ([(⟨#[110]⟩, ⟨#[97]⟩)], [(11, 1)]) := by simpa using hx
  subst this
  exact ⟨by decide, by decide, by decide, hd_rs _ 11 1 (by omega) (by omega) 0 (by decide)⟩⟩

theorem hd_few (s : ByteArray) (t v : Int) : ∀ i, i < (oneS s t v).length → (atSr (oneS s t v) i).1.length ≤ 1000 ∧ (atSr (oneS s t v) i).2.length ≤ 1000 := by
  intro i hi
  have hi0 : i = 0 := by simp at hi; omega
  subst hi0
  exact ⟨Nat.succ_le_of_lt (by show 0 < 1000; omega), Nat.succ_le_of_lt (by show 0 < 1000; omega)⟩

set_option maxRecDepth 100000 in
set_option maxHeartbeats 1600000 in
theorem headed_any (w : World) (hE : ErrT w) :
    Calls Tryd.prog 6 #[] w fun e w' => e = .returned (.bool true) ∧ Below w.heap.size w w' := by
  have HE := hid hE
  clear hE
  go_enter Tryd.func6, Tryd.ntmps6
  go_wp2_with fail
  refine (hnew_any 10 w).mono ?_
  rintro e w1 ⟨rfl, rfl⟩
  have hI1 := HSt.new 10 w
  generalize w.alloc (.cells #[.int .i64 10, .slice none 0 0] 73) = w1 at *
  generalize (fun j => w.heap.size ≤ j ∧ j < w.heap.size + 1) = Z1 at *
  generalize hhb : w.heap.size = hb at hI1 ⊢
  have HI1 := hid hI1
  clear hI1 hhb
  go_wp2_with fail
  refine (kone_any _ 11 1 w1).mono ?_
  rintro e w2 ⟨u2, rfl, ho2, hb2⟩
  obtain ⟨ao2, cap2, e2, hs2⟩ := SrOut.of_own (Z := Z1) ho2 HI1.out.zlt
  subst e2
  have HI2 := hid (HI1.out.below hb2)
  have HS2 := hid hs2
  clear ho2 hb2 hs2 HI1
  go_wp2_with fail
  refine (happend_any hb Z1 10 [] (oneS ⟨#[97]⟩ 11 1) ao2 cap2 w2 HI2.out.hd HD.Good.nil HS2.out (by decide) (hd_few _ _ _) (hd_rs _ 11 1 (by omega) (by omega))).mono ?_
  rintro e w3 ⟨⟨ev, rfl, herr⟩, hd3, hf3⟩
  rw [hd_app1] at herr hd3
  have hev : ev = .nilIface := by
    rcases herr with h | h | h
    · exact h.2
    · simp at h
    · simp at h
  subst hev
  have hI3 := HI2.out.step hd3 hf3
  generalize wid Z1 w2 w3 = Z3 at *
  have HI3 := hid hI3
  clear hI3 hd3 hf3 herr HI2 HS2
  go_wp2_with fail
  refine (kone_any _ 11 1 w3).mono ?_
  rintro e w4 ⟨u4, rfl, ho4, hb4⟩
  obtain ⟨ao4, cap4, e4, hs4⟩ := SrOut.of_own (Z := Z3) ho4 HI3.out.zlt
  subst e4
  have HI4 := hid (HI3.out.below hb4)
  have HS4 := hid hs4
  clear ho4 hb4 hs4 HI3
  go_wp2_with fail
  refine (happend_any hb Z3 10 (oneS ⟨#[97]⟩ 11 1) (oneS ⟨#[97]⟩ 11 1) ao4 cap4 w4 HI4.out.hd hd_good HS4.out (by decide) (hd_few _ _ _) (hd_rs _ 11 1 (by omega) (by omega))).mono ?_
  rintro e w5 ⟨⟨ev, rfl, herr⟩, hd5, hf5⟩
  rw [hd_app2] at herr hd5
  obtain ⟨p5, rfl, hp5⟩ : ∃ p, ev = .iface 78 (.pointer (some ⟨p, 0, none⟩)) ∧ w5.heap[p]? = some (.cells #[.int .i64 10, .int .i64 0] 80) := by
    rcases herr with h | h | h
    · simp at h
    · simp at h
    · exact h.2.2
  have hI5 := HI4.out.step hd5 hf5
  generalize wid Z3 w4 w5 = Z5 at *
  have HI5 := hid hI5
  have HP5 := hid hp5
  clear hI5 hd5 hf5 herr HI4 HS4 hp5
  go_wp2_with fail
  refine (tell_at 10 ⟨p5, 0, none⟩ w5 (HE.out.below HI5.out.bel HE.out.lt) (zcell' _ _ _ _ HP5.out 0 _ rfl)).mono ?_
  rintro e w6 ⟨rfl, hb6⟩
  have HI6 := hid (HI5.out.below hb6)
  clear hb6 HI5 HP5
  go_wp2_with fail
  refine (kone_any _ 10 1 w6).mono ?_
  rintro e w7 ⟨u7, rfl, ho7, hb7⟩
  obtain ⟨ao7, cap7, e7, hs7⟩ := SrOut.of_own (Z := Z5) ho7 HI6.out.zlt
  subst e7
  have HI7 := hid (HI6.out.below hb7)
  have HS7 := hid hs7
  clear ho7 hb7 hs7 HI6
  go_wp2_with fail
  refine (happend_any hb Z5 10 (oneS ⟨#[97]⟩ 11 1) (oneS ⟨#[98]⟩ 10 1) ao7 cap7 w7 HI7.out.hd hd_good HS7.out (by decide) (hd_few _ _ _) (hd_rs _ 10 1 (by omega) (by omega))).mono ?_
  rintro e w8 ⟨⟨ev, rfl, herr⟩, hd8, hf8⟩
  rw [hd_app3] at herr hd8
  obtain ⟨p8, rfl, hp8⟩ : ∃ p, ev = .iface 78 (.pointer (some ⟨p, 0, none⟩)) ∧ w8.heap[p]? = some (.cells #[.int .i64 10, .int .i64 0] 80) := by
    rcases herr with h | h | h
    · simp at h
    · simp at h
    · exact h.2.2
  have hI8 := HI7.out.step hd8 hf8
  generalize wid Z5 w7 w8 = Z8 at *
  have HI8 := hid hI8
  have HP8 := hid hp8
  clear hI8 hd8 hf8 herr HI7 HS7 hp8
  go_wp2_with fail
  refine (tell_at 10 ⟨p8, 0, none⟩ w8 (HE.out.below HI8.out.bel HE.out.lt) (zcell' _ _ _ _ HP8.out 0 _ rfl)).mono ?_
  rintro e w9 ⟨rfl, hb9⟩
  have HI9 := hid (HI8.out.below hb9)
  clear hb9 HI8 HP8
  go_wp2_with fail
  refine (cut_any hb Z8 10 11 (oneS ⟨#[97]⟩ 11 1) w9 HI9.out.hd hd_good).mono ?_
  rintro e wa ⟨⟨va, xsa, rfl, hsb⟩, hda, hfa⟩
  rw [hd_cut] at hsb
  obtain ⟨aoa, capa, ea⟩ := own_slice hsb.row
  subst ea
  have HIa := hid (HI9.out.step hda hfa)
  have HM : Hid (max (10 : Int) 11 = 11) := by show _ = _; decide
  obtain ⟨vb, hbx⟩ := HIa.out.box
  rw [HM.out] at hbx
  have HBx := hid hbx
  clear hsb hda hfa HI9 hbx
  go_wp2_with fail
  refine (hmark_any hb 11 vb wa HBx.out).mono ?_
  rintro e wb ⟨rfl, rfl⟩
  go_wp2_with fail
  go_ret
  exact ⟨rfl, HIa.out.bel⟩

end Go.Proofs.YtdmnlmohfaafoaeDoor
