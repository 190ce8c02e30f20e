/- What roll.Up and roll.Wider answer. -/
import Derived.Test.YtdmnlmohfaafoabDoorRlFn
import Derived.Test.YtdmnlmohfaafoabDoorRlGath
namespace Go.Proofs.YtdmnlmohfaafoabDoor
open Go.RowKit

theorem mayBe_new (span m : Int) (w : World) (hm : 1 ≤ m ∧ m ≤ 1099511627776) :
    Calls Tryd.prog 45 #[.int .i64 span, .pointer (some ⟨w.heap.size, 0, none⟩)] (w.alloc (.cells #[.int .i64 m] 2)) fun e w' => e = .returned (.bool (decide (1 ≤ span ∧ span ≤ 1099511627776 ∧ span % m = 0))) ∧ w' = w.alloc (.cells #[.int .i64 m] 2) :=
  mayBe_any span m w.heap.size _ hm (by simp)

set_option maxHeartbeats 400000 in
theorem up_bad (ao : Option Addr) (n cap : Nat) (span : Int) (w : World) (hs : ¬ (1 ≤ span ∧ span ≤ 1099511627776)) :
    Calls Tryd.prog 14 #[.slice ao n cap, .int .i64 span] w fun e w' => e = .returned (.tuple #[.slice none 0 0, .iface 38 (.int .i64 1)]) ∧ Below w.heap.size w w' := by
  have HD := hid (mayBe_new span 1 w (by omega))
  have hd : decide (1 ≤ span ∧ span ≤ 1099511627776 ∧ span % 1 = 0) = false := by
    rw [decide_eq_false_iff_not]; intro h; exact hs ⟨h.1, h.2.1⟩
  rw [hd] at HD
  clear hd hs
  go_enter Tryd.func14, Tryd.ntmps14
  go_wp2_with fail
  refine (multiples_any 1 w).mono ?_
  rintro e w1 ⟨rfl, rfl⟩
  go_wp2_with fail
  refine Calls.mono HD.out ?_
  rintro e w2 ⟨rfl, rfl⟩
  go_wp2_with fail
  go_ret2
  exact ⟨rfl, (Below.refl _ _).alloc (Nat.le_refl _) _⟩

theorem gathL_take (l : List CL.Smp) (span : Int) (k : Nat) (h : k < l.length) : CL.gathL [] ((l.take (k + 1)).map (CL.bk span)) = CL.gath (CL.gathL [] ((l.take k).map (CL.bk span))) ⟨CL.flr (CL.at' l k).1 span, 1, (CL.at' l k).2, (CL.at' l k).2, (CL.at' l k).2⟩ := by
  rw [← CL.take_nxt l k h, List.map_append, List.map_singleton, CL.gathL_snoc]; rfl

set_option maxRecDepth 100000 in
set_option maxHeartbeats 1600000 in
theorem up_ok (ao : Option Addr) (l : List CL.Smp) (cap : Nat) (span : Int) (w : World) (hS : SRow w ao l) (hR : ∀ s ∈ l, -1099511627776 ≤ s.1 ∧ s.1 ≤ 1099511627776) (hl : l.length ≤ 1000) (hs : 1 ≤ span ∧ span ≤ 1099511627776) :
    Calls Tryd.prog 14 #[.slice ao l.length cap, .int .i64 span] w fun e w' => ∃ v, e = .returned (.tuple #[v, .nilIface]) ∧ w'.ownsRow w.heap.size 72 5 v (CL.up span l).length (bv (CL.up span l)) ∧ Below w.heap.size w w' := by
  have HD := hid (mayBe_new span 1 w (by omega))
  have hd : decide (1 ≤ span ∧ span ≤ 1099511627776 ∧ span % 1 = 0) = true := decide_eq_true ⟨hs.1, hs.2, by omega⟩
  rw [hd] at HD
  have HS := hid hS
  have HR := hid hR
  clear hd hS hR
  go_enter Tryd.func14, Tryd.ntmps14
  go_wp2_with fail
  refine (multiples_any 1 w).mono ?_
  rintro e w1 ⟨rfl, rfl⟩
  go_wp2_with fail
  refine Calls.mono HD.out ?_
  rintro e w2 ⟨rfl, rfl⟩
  have HB0 : Hid (Below w.heap.size w (w.alloc (.cells #[.int .i64 1] 2))) := (Below.refl _ _).alloc (Nat.le_refl _) _
  generalize w.alloc (.cells #[.int .i64 1] 2) = w2 at *
  go_wp2_with fail
  go_loopw [7, 18] (fun tv ti wr => ∃ k : Nat, k ≤ l.length ∧ ti = .int .i64 k ∧ wr.ownsRow w.heap.size 72 5 tv (CL.gathL [] ((l.take k).map (CL.bk span))).length (bv (CL.gathL [] ((l.take k).map (CL.bk span)))) ∧ Below w.heap.size w wr) (fun _ ti _ => l.length - (intOf ti).toNat)
  case atStart => exact ⟨0, by omega, rfl, World.ownsRow_nil _ _ _ _, HB0.out⟩
  case round =>
    obtain ⟨k, hk, rfl, hown, hbel⟩ := hrel
    have HO := hid hown
    have HBl := hid hbel
    have hsz := hbel.size
    have hgl : (CL.gathL [] ((l.take k).map (CL.bk span))).length ≤ 1000 := by
      have := CL.gathL_len ((l.take k).map (CL.bk span)) []
      rw [List.length_map, List.length_take, List.length_nil] at this; omega
    clear hown hbel
    by_cases hlt : k < l.length
    · obtain ⟨b, off, hao, hc0, hc1, hbs⟩ := HS.out k hlt
      subst hao
      have c0 := (HBl.out.cell (p := ⟨b, off + k * 2, none⟩) hbs).trans hc0
      have c1 := (HBl.out.cell (p := ⟨b, off + k * 2 + 1, none⟩) hbs).trans hc1
      have HT := hid (gathL_take l span k hlt)
      have hr1 := HR.out _ (CL.at_mem l k hlt)
      clear hc0 hc1
      generalize CL.gathL [] ((l.take k).map (CL.bk span)) = G at *
      generalize (CL.at' l k).1 = T at *
      generalize (CL.at' l k).2 = V at *
      have d0 : (wr.alloc (boxS T V)).cell? ⟨wr.heap.size, 0, none⟩ = some (.int .i64 T) := by simp
      have d1 : (wr.alloc (boxS T V)).cell? ⟨wr.heap.size, 1, none⟩ = some (.int .i64 V) := by simp
      have HO1 := hid (HO.out.alloc (boxS T V))
      have HB1 := hid (HBl.out.alloc hsz (boxS T V))
      go_wp2_with fail
      generalize wr.alloc (.cells #[.int .i64 T, .int .i64 V] 35) = w3 at *
      refine wp_region_still_tail 12 (by kernel_rfl) (by kernel_rfl) ?_
      simp only [List.take_succ_cons, List.take_zero, List.drop_succ_cons, List.drop_zero]
      iterate 4 still_step
      still_call (floor_any _ _ _ (by omega) (by omega))
      iterate 7 still_step
      refine wpStill_nil ?_
      go_wp2_with fail
      have hs3 := HB1.out.size
      refine (gather_any u7 w.heap.size G ⟨CL.flr T span, 1, V, V, V⟩ w3.drew HO1.out.drew hgl hs3).mono ?_
      rintro e w4 ⟨v4, rfl, ho4, hg4⟩
      have HO4 := hid ho4
      have HB4 := hid ((below_drewN HB1.out 1).grown hg4 hs3 (fun j hj => (HO1.out.lt j hj).1))
      clear ho4 hg4
      go_wp2_with fail
      refine ⟨⟨k + 1, by omega, by go_num, ?_, HB4.out⟩, ?_⟩
      · rw [HT.out]; exact HO4.out
      · simp [intOf]; omega
    · have he : k = l.length := by omega
      subst he
      have HO2 : Hid (wr.ownsRow w.heap.size 72 5 u7 (CL.up span l).length (bv (CL.up span l))) := by
        have := HO.out
        rw [List.take_of_length_le (Nat.le_refl _)] at this
        exact this
      clear HO hgl
      go_wp2_with fail
      go_ret2
      exact ⟨_, rfl, HO2.out, HBl.out⟩

set_option maxHeartbeats 400000 in
theorem wider_bad1 (ao : Option Addr) (n cap : Nat) (span wide : Int) (w : World) (hs : ¬ (1 ≤ span ∧ span ≤ 1099511627776)) :
    Calls Tryd.prog 21 #[.slice ao n cap, .int .i64 span, .int .i64 wide] w fun e w' => e = .returned (.tuple #[.slice none 0 0, .iface 38 (.int .i64 1)]) ∧ Below w.heap.size w w' := by
  have HD := hid (mayBe_new span 1 w (by omega))
  have hd : decide (1 ≤ span ∧ span ≤ 1099511627776 ∧ span % 1 = 0) = false := by
    rw [decide_eq_false_iff_not]; intro h; exact hs ⟨h.1, h.2.1⟩
  rw [hd] at HD
  clear hd hs
  go_enter Tryd.func21, Tryd.ntmps21
  go_wp2_with fail
  refine (multiples_any 1 w).mono ?_
  rintro e w1 ⟨rfl, rfl⟩
  go_wp2_with fail
  refine Calls.mono HD.out ?_
  rintro e w2 ⟨rfl, rfl⟩
  go_wp2_with fail
  go_ret2
  exact ⟨rfl, (Below.refl _ _).alloc (Nat.le_refl _) _⟩

set_option maxHeartbeats 400000 in
theorem wider_bad2 (ao : Option Addr) (n cap : Nat) (span wide : Int) (w : World) (hs : 1 ≤ span ∧ span ≤ 1099511627776) (hw : ¬ (1 ≤ wide ∧ wide ≤ 1099511627776 ∧ wide % span = 0)) :
    Calls Tryd.prog 21 #[.slice ao n cap, .int .i64 span, .int .i64 wide] w fun e w' => e = .returned (.tuple #[.slice none 0 0, .iface 38 (.int .i64 1)]) ∧ Below w.heap.size w w' := by
  have HD := hid (mayBe_new span 1 w (by omega))
  have hd : decide (1 ≤ span ∧ span ≤ 1099511627776 ∧ span % 1 = 0) = true := decide_eq_true ⟨hs.1, hs.2, by omega⟩
  rw [hd] at HD
  clear hd
  go_enter Tryd.func21, Tryd.ntmps21
  go_wp2_with fail
  refine (multiples_any 1 w).mono ?_
  rintro e w1 ⟨rfl, rfl⟩
  go_wp2_with fail
  refine Calls.mono HD.out ?_
  rintro e w2 ⟨rfl, rfl⟩
  have HB0 : Hid (Below w.heap.size w (w.alloc (.cells #[.int .i64 1] 2))) := (Below.refl _ _).alloc (Nat.le_refl _) _
  generalize w.alloc (.cells #[.int .i64 1] 2) = w2 at *
  have hs2 := HB0.out.size
  have HE := hid (mayBe_new wide span w2 hs)
  rw [decide_eq_false hw] at HE
  clear hw
  go_wp2_with fail
  refine (multiples_any span w2).mono ?_
  rintro e w3 ⟨rfl, rfl⟩
  go_wp2_with fail
  refine Calls.mono HE.out ?_
  rintro e w4 ⟨rfl, rfl⟩
  go_wp2_with fail
  go_ret2
  exact ⟨rfl, HB0.out.alloc hs2 _⟩

theorem widL_take (l : List CL.Bkt) (wide : Int) (k : Nat) (h : k < l.length) : CL.gathL [] ((l.take (k + 1)).map (CL.toSt fun t => CL.flr t wide)) = CL.gath (CL.gathL [] ((l.take k).map (CL.toSt fun t => CL.flr t wide))) ⟨CL.flr (atB l k).st wide, (atB l k).ct, (atB l k).sm, (atB l k).mn, (atB l k).mx⟩ := by
  have e : l.take (k + 1) = l.take k ++ [atB l k] := by
    rw [List.take_succ_eq_append_getElem h, atB_eq l k h]
  rw [e, List.map_append, List.map_singleton, CL.gathL_snoc]; rfl

set_option maxRecDepth 100000 in
set_option maxHeartbeats 1600000 in
theorem wider_ok (ao : Option Addr) (l : List CL.Bkt) (cap : Nat) (span wide : Int) (w : World) (hS : BRow w ao l) (hR : ∀ s ∈ l, -9007199254740992 ≤ s.st ∧ s.st ≤ 9007199254740992) (hl : l.length ≤ 1000) (hs : 1 ≤ span ∧ span ≤ 1099511627776) (hw : 1 ≤ wide ∧ wide ≤ 1099511627776 ∧ wide % span = 0) :
    Calls Tryd.prog 21 #[.slice ao l.length cap, .int .i64 span, .int .i64 wide] w fun e w' => ∃ v, e = .returned (.tuple #[v, .nilIface]) ∧ w'.ownsRow w.heap.size 72 5 v (CL.wid' wide l).length (bv (CL.wid' wide l)) ∧ Below w.heap.size w w' := by
  have HD := hid (mayBe_new span 1 w (by omega))
  have hd : decide (1 ≤ span ∧ span ≤ 1099511627776 ∧ span % 1 = 0) = true := decide_eq_true ⟨hs.1, hs.2, by omega⟩
  rw [hd] at HD
  have HS := hid hS
  have HR := hid hR
  clear hd hS hR
  go_enter Tryd.func21, Tryd.ntmps21
  go_wp2_with fail
  refine (multiples_any 1 w).mono ?_
  rintro e w1 ⟨rfl, rfl⟩
  go_wp2_with fail
  refine Calls.mono HD.out ?_
  rintro e w2 ⟨rfl, rfl⟩
  have HB0 : Hid (Below w.heap.size w (w.alloc (.cells #[.int .i64 1] 2))) := (Below.refl _ _).alloc (Nat.le_refl _) _
  generalize w.alloc (.cells #[.int .i64 1] 2) = w2 at *
  have hs2 := HB0.out.size
  have HE := hid (mayBe_new wide span w2 hs)
  rw [decide_eq_true hw] at HE
  have hw1 := hw.1
  have hw2 := hw.2.1
  clear hw
  go_wp2_with fail
  refine (multiples_any span w2).mono ?_
  rintro e w3 ⟨rfl, rfl⟩
  go_wp2_with fail
  refine Calls.mono HE.out ?_
  rintro e w4 ⟨rfl, rfl⟩
  have HB1 := hid (HB0.out.alloc hs2 (.cells #[.int .i64 span] 2))
  generalize w2.alloc (.cells #[.int .i64 span] 2) = w4 at *
  go_wp2_with fail
  go_loopw [9, 27] (fun tv ti wr => ∃ k : Nat, k ≤ l.length ∧ ti = .int .i64 k ∧ wr.ownsRow w.heap.size 72 5 tv (CL.gathL [] ((l.take k).map (CL.toSt fun t => CL.flr t wide))).length (bv (CL.gathL [] ((l.take k).map (CL.toSt fun t => CL.flr t wide)))) ∧ Below w.heap.size w wr) (fun _ ti _ => l.length - (intOf ti).toNat)
  case atStart => exact ⟨0, by omega, rfl, World.ownsRow_nil _ _ _ _, HB1.out⟩
  case round =>
    obtain ⟨k, hk, rfl, hown, hbel⟩ := hrel
    have HO := hid hown
    have HBl := hid hbel
    have hsz := hbel.size
    have hgl : (CL.gathL [] ((l.take k).map (CL.toSt fun t => CL.flr t wide))).length ≤ 1000 := by
      have := CL.gathL_len ((l.take k).map (CL.toSt fun t => CL.flr t wide)) []
      rw [List.length_map, List.length_take, List.length_nil] at this; omega
    clear hown hbel
    by_cases hlt : k < l.length
    · obtain ⟨b, off, hao, hc, hbs⟩ := HS.out k hlt
      subst hao
      obtain ⟨c0, c1, c2, c3, c4⟩ := hc.kept (HBl.out.block b hbs)
      have HT := hid (widL_take l wide k hlt)
      have hr1 := HR.out _ (atB_mem l k hlt)
      clear hc
      generalize CL.gathL [] ((l.take k).map (CL.toSt fun t => CL.flr t wide)) = G at *
      generalize atB l k = x at *
      obtain ⟨x0, x1, x2, x3, x4⟩ := x
      simp only at c0 c1 c2 c3 c4 hr1
      have HF := hid (floor_any x0 wide (wr.alloc (boxB ⟨x0, x1, x2, x3, x4⟩)) (by omega) hr1)
      go_wp2_with fail
      refine Calls.mono HF.out ?_
      rintro e w5 ⟨rfl, rfl⟩
      go_wp2_with fail
      refine (gather_any u9 w.heap.size G ⟨CL.flr x0 wide, x1, x2, x3, x4⟩ _ (HO.out.alloc _) hgl (by simp; omega)).mono ?_
      rintro e w6 ⟨v6, rfl, ho6, hg6⟩
      have HO6 := hid ho6
      have HB6 := hid ((HBl.out.alloc hsz _).grown hg6 (by simp; omega) (fun j hj => (HO.out.lt j hj).1))
      clear ho6 hg6
      go_wp2_with fail
      refine ⟨⟨k + 1, by omega, by go_num, ?_, HB6.out⟩, ?_⟩
      · rw [HT.out]; exact HO6.out
      · simp [intOf]; omega
    · have he : k = l.length := by omega
      subst he
      have HO2 : Hid (wr.ownsRow w.heap.size 72 5 u9 (CL.wid' wide l).length (bv (CL.wid' wide l))) := by
        have := HO.out
        rw [List.take_of_length_le (Nat.le_refl _)] at this
        exact this
      clear HO hgl
      go_wp2_with fail
      go_ret2
      exact ⟨_, rfl, HO2.out, HBl.out⟩

end Go.Proofs.YtdmnlmohfaafoabDoor
