/- What the small functions of package head do: New, Mark, tooMany, copied, follow, and the search among series. -/
import Derived.Test.YtdmnlmohfaafoadGreatDoorPHdHead
import Derived.Test.YtdmnlmohfaafoadGreatDoorPHdClone
import Derived.Test.YtdmnlmohfaafoadGreatDoorPHxCmp
import Derived.Deep.RegionWith
namespace Go.Proofs.YtdmnlmohfaafoadGreatDoor
open Go.RowKit

theorem hnew_any (mark : Int) (w : World) :
    Calls Tryz.prog 13 #[.int .i64 mark] w fun e w' => e = .returned (.pointer (some ⟨w.heap.size, 0, none⟩)) ∧ w' = w.alloc (.cells #[.int .i64 mark, .slice none 0 0] 105) := by
  go_enter Tryz.func13, Tryz.ntmps13
  go_wp2
  go_ret
  exact ⟨rfl, rfl⟩

theorem HdI.new (mark : Int) (w : World) : HdI (w.alloc (.cells #[.int .i64 mark, .slice none 0 0] 105)) w.heap.size (fun j => w.heap.size ≤ j ∧ j < w.heap.size + 1) mark [] := by
  refine ⟨⟨.slice none 0 0, [], ⟨heap_alloc_new w _, rfl, ⟨rfl, .inl ⟨rfl, rfl⟩⟩, fun i hi => by simp at hi, fun i hi => by simp at hi, fun i j hi => by simp at hi⟩, fun i hi => by simp at hi⟩, ⟨Nat.le_refl _, Nat.lt_succ_self _⟩, fun j hj => ?_⟩
  simp; omega

theorem hmark_any (hb : Nat) (mark : Int) (v : Value) (w : World) (h : w.heap[hb]? = some (.cells #[.int .i64 mark, v] 105)) :
    Calls Tryz.prog 23 #[.pointer (some ⟨hb, 0, none⟩)] w fun e w' => e = .returned (.int .i64 mark) ∧ w' = w := by
  have hc : w.cell? ⟨hb, 0, none⟩ = some (.int .i64 mark) := by simp [World.cell?, h]
  clear h
  go_enter Tryz.func23, Tryz.ntmps23
  go_wp2
  go_ret
  exact ⟨rfl, rfl⟩

set_option maxRecDepth 100000 in
/-- Whether there are more samples than may come at once. -/
theorem tooMany_any (ao : Option Addr) (l : List Sr) (cap : Nat) (w : World) (hL : SrRow w ao l) (hl : l.length ≤ 1000) (hs : ∀ i, i < l.length → (atSr l i).2.length ≤ 1000) :
    Calls Tryz.prog 46 #[.slice ao l.length cap] w fun e w' => e = .returned (.bool (decide (40 < HD.total l))) ∧ Below w.heap.size w w' := by
  have HL := hid hL
  have HSm := hid hs
  clear hL hs
  go_enter Tryz.func46, Tryz.ntmps46
  go_wp2
  go_loopw [3, 5, 8] (fun tc _ ti wr => ∃ i : Nat, i ≤ l.length ∧ ti = .int .i64 i ∧ tc = .int .i64 (HD.total (l.take i)) ∧ HD.total (l.take i) ≤ i * 1000 ∧ Below w.heap.size w wr) (fun _ _ ti _ => l.length - (intOf ti).toNat)
  case atStart => exact ⟨0, by omega, rfl, rfl, Nat.le_refl _, Below.refl _ _⟩
  case round =>
    obtain ⟨i, hi, rfl, rfl, hle, hbel⟩ := hrel
    have HBe := hid hbel
    clear hbel
    by_cases hlt : i < l.length
    · obtain ⟨b, off, hao, hbs, lo, lc, so, sc, hc0, hc1, _, _⟩ := HL.out i hlt
      subst hao
      have e0 : wr.cell? ⟨b, off + i * 2, none⟩ = some (.slice lo (atSr l i).1.length lc) := (HBe.out.cell (p := ⟨b, _, none⟩) hbs).trans hc0
      have e1 : wr.cell? ⟨b, off + i * 2 + 1, none⟩ = some (.slice so (atSr l i).2.length sc) := (HBe.out.cell (p := ⟨b, _, none⟩) hbs).trans hc1
      have HT := hid (HD.total_take l i hlt)
      have hsm := HSm.out i hlt
      clear hc0 hc1
      generalize (atSr l i).2.length = n at *
      generalize (atSr l i).1.length = m at *
      generalize HD.total (l.take i) = t at *
      have hil : 0 ≤ (i : Int) ∧ (i : Int) < (l.length : Int) := by omega
      go_wp2_with fail
      go_roundw
      case rel => exact ⟨i + 1, by omega, by go_num, by rw [HT.out]; go_num, by rw [HT.out]; omega, HBe.out.alloc (Nat.le_trans HBe.out.size (Nat.le_refl _)) _⟩
      case measure => simp [intOf]; omega
    · have he : i = l.length := by omega
      subst he
      rw [List.take_length] at hle ⊢
      generalize hT : HD.total l = t at *
      have HT := hid hT
      clear hT
      go_wp2_with fail
      go_ret
      exact ⟨by rw [HT.out]; exact ret_bool (by simp only [decide_eq_decide]; omega), HBe.out⟩

abbrev srV (lo : Option Addr) (ln lc : Nat) (so : Option Addr) (sn sc : Nat) : Value := .agg #[.slice lo ln lc, .slice so sn sc]

theorem cloneL_row (ao : Option Addr) (l : List LB.Lab) (c : Nat) (w : World) (h : LRow w ao l) (h0 : 0 < l.length) (hl : l.length ≤ 1000000) :
    Calls Tryz.prog 93 #[.slice ao l.length c] w fun en w' => ∃ v', en = .returned v' ∧ OwnLb w' w.heap.size v' l ∧ Below w.heap.size w w' := by
  obtain ⟨b, off, e, _, _, hb⟩ := h 0 h0
  subst e
  exact cloneL ⟨b, off, none⟩ l.length c (lv l) w (lv_length l) (lrow_cells h _ rfl) hb (lv_one l) hl

theorem cloneS_row (ao : Option Addr) (l : List CL.Smp) (c : Nat) (w : World) (h : SRow w ao l) (h0 : 0 < l.length) (hl : l.length ≤ 1000000) :
    Calls Tryz.prog 94 #[.slice ao l.length c] w fun en w' => ∃ v', en = .returned v' ∧ OwnSm w' w.heap.size v' l ∧ Below w.heap.size w w' := by
  obtain ⟨b, off, e, _, _, hb⟩ := h 0 h0
  subst e
  exact cloneS ⟨b, off, none⟩ l.length c (sv l) w (sv_length l) (smp_cells h _ rfl) hb (sv_one l) hl

set_option maxRecDepth 100000 in
set_option maxHeartbeats 1600000 in
/-- A series of its own. -/
theorem copied_any (x : Sr) (lo so : Option Addr) (lc sc : Nat) (w : World) (hL : LRow w lo x.1) (hS : SRow w so x.2) (h1 : 0 < x.1.length) (h2 : 0 < x.2.length) (h3 : x.1.length ≤ 1000000) (h4 : x.2.length ≤ 1000000) :
    Calls Tryz.prog 60 #[srV lo x.1.length lc so x.2.length sc] w fun e w' => ∃ vl vs, e = .returned (.agg #[vl, vs]) ∧ OwnLb w' w.heap.size vl x.1 ∧ OwnSm w' w.heap.size vs x.2 ∧ Below w.heap.size w w' := by
  have hbel0 : Below w.heap.size w ((w.alloc (.cells #[.slice lo x.1.length lc, .slice so x.2.length sc] 55)).alloc (.cells #[.slice none 0 0, .slice none 0 0] 55)) := ((Below.refl _ w).alloc (Nat.le_refl _) _).alloc (by simp) _
  have hbox : ((w.alloc (.cells #[.slice lo x.1.length lc, .slice so x.2.length sc] 55)).alloc (.cells #[.slice none 0 0, .slice none 0 0] 55)).heap[w.heap.size]? = some (.cells #[.slice lo x.1.length lc, .slice so x.2.length sc] 55) := (Below.heap_alloc _ _ _ (by simp)).trans (heap_alloc_new w _)
  have hres : ((w.alloc (.cells #[.slice lo x.1.length lc, .slice so x.2.length sc] 55)).alloc (.cells #[.slice none 0 0, .slice none 0 0] 55)).heap[w.heap.size + 1]? = some (.cells #[.slice none 0 0, .slice none 0 0] 55) := by
    have := heap_alloc_new (w.alloc (.cells #[.slice lo x.1.length lc, .slice so x.2.length sc] 55)) (.cells #[.slice none 0 0, .slice none 0 0] 55)
    simpa using this
  have HCL : Hid (∀ W, Below w.heap.size w W → Calls Tryz.prog 93 #[.slice lo x.1.length lc] W fun en w' => ∃ v', en = .returned v' ∧ OwnLb w' W.heap.size v' x.1 ∧ Below W.heap.size W w') := fun W hW => cloneL_row lo x.1 lc W (hL.below hW) h1 h3
  have HCS : Hid (∀ W, Below w.heap.size w W → Calls Tryz.prog 94 #[.slice so x.2.length sc] W fun en w' => ∃ v', en = .returned v' ∧ OwnSm w' W.heap.size v' x.2 ∧ Below W.heap.size W w') := fun W hW => cloneS_row so x.2 sc W (hS.below hW) h2 h4
  clear hL hS h1 h2 h3 h4
  go_enter Tryz.func60, Tryz.ntmps60
  go_wp2_with fail
  generalize hW0 : ((w.alloc (.cells #[.slice lo x.1.length lc, .slice so x.2.length sc] 55)).alloc (.cells #[.slice none 0 0, .slice none 0 0] 55)) = W0 at *
  have c0 : W0.cell? ⟨w.heap.size, 0, none⟩ = some (.slice lo x.1.length lc) := zcell' _ _ _ _ hbox 0 _ rfl
  have c1 : W0.cell? ⟨w.heap.size, 1, none⟩ = some (.slice so x.2.length sc) := zcell' _ _ _ _ hbox 1 _ rfl
  have HB0 := hid hbel0
  have HX := hid hbox
  have HR := hid hres
  clear hbel0 hbox hres hW0
  go_region_with (first
    | (go_at_call 93; refine (HCL.out _ (by exact HB0.out.drew)).mono ?_; rintro en w2 ⟨v2, rfl, ho2, hb2⟩; have y0 := (World.cell?_of_block (a := ⟨w.heap.size, 1, none⟩) (hb2.block w.heap.size (heap_lt HX.out))).trans c1; have HO2 := hid ho2; have HB2 := hid hb2; obtain ⟨ao2, cap2, e2⟩ := own_slice ho2; clear ho2 hb2)
    | (go_at_call 94; refine (HCS.out _ (by exact bel2 HB0.out.drew HB2.out)).mono ?_; rintro en w3 ⟨v3, rfl, ho3, hb3⟩; have hr3 := (hb3.block (w.heap.size + 1) (Nat.lt_of_lt_of_le (heap_lt HR.out) HB2.out.size)).trans ((HB2.out.block (w.heap.size + 1) (heap_lt HR.out)).trans HR.out); have z0 := zcell' _ _ _ _ hr3 0 _ rfl; have z1 := zcell' _ _ _ _ hr3 1 _ rfl; have f0 := hfz hr3 0; have f1 := hfz hr3 1; have HR3 := hid hr3; clear hr3; have HO3 := hid ho3; have HB3 := hid hb3; obtain ⟨ao3, cap3, e3⟩ := own_slice ho3; clear ho3 hb3))
  all_goals go_wp2_with fail
  all_goals refine bodyPost_ret (results_cell_row (P := Tryz.prog) rfl _ _ (w.heap.size + 1) 55 _ (0, 0) _ rfl (heap_setCell_same _ _ 1 _ _ _ (heap_setCell_same _ _ 0 _ _ _ HR3.out)) Tryz.underlying55 rfl (by kernel_rfl)) rfl ?_
  all_goals
    subst e2
    subst e3
    have hsz : w.heap.size + 1 < W0.drew.heap.size := heap_lt HR.out
    have hs2 := HB2.out.size
    have k2 : OwnLb w3 W0.drew.heap.size _ x.1 := row_kept HO2.out fun g _ hg => HB3.out.block g (heap_lt hg)
    have k3 : OwnSm w3 w2.heap.size _ x.2 := HO3.out
    have hs3 : w.heap.size + 1 < w2.heap.size := Nat.lt_of_lt_of_le hsz hs2
    have n2 := own_far (r := w.heap.size + 1) k2 hsz
    have n3 := own_far (r := w.heap.size + 1) k3 hs3
    exact ⟨_, _, rfl, row_low (own_set (own_set k2 n2 0 _) n2 1 _) (Nat.le_of_lt (Nat.lt_of_succ_lt hsz)), row_low (own_set (own_set k3 n3 0 _) n3 1 _) (Nat.le_of_lt (Nat.lt_of_succ_lt hs3)), ((bel2 (bel2 HB0.out.drew HB2.out) HB3.out).setCell (p := ⟨w.heap.size + 1, 0, none⟩) (Nat.le_succ _) _).setCell (p := ⟨w.heap.size + 1, 1, none⟩) (Nat.le_succ _) _⟩

end Go.Proofs.YtdmnlmohfaafoadGreatDoor

