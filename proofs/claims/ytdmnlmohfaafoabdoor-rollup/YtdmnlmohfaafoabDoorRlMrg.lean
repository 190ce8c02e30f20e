/- What roll.Merge answers. -/
import Derived.Test.YtdmnlmohfaafoabDoorRlGath
import Derived.Deep.RegionWith
namespace Go.Proofs.YtdmnlmohfaafoabDoor
open Go.RowKit

/-- Buckets behind the first one. -/
theorem brow_tail {w : World} {ao : Option Addr} {x : CL.Bkt} {l : List CL.Bkt} {cap : Nat} (h : BRow w ao (x :: l)) (hc : (x :: l).length ≤ cap) :
    ∃ b off A, ao = some ⟨b, off, none⟩ ∧ (if cap = 1 then some ⟨b, off, none⟩ else some ⟨b, off + 5, none⟩) = A ∧ BRow w A l := by
  obtain ⟨b, off, e, _⟩ := h 0 (by simp)
  refine ⟨b, off, _, e, rfl, fun i hi => ?_⟩
  obtain ⟨b', off', e', c, hb⟩ := h (i + 1) (by simpa using hi)
  rw [e] at e'
  simp only [Option.some.injEq, Addr.mk.injEq, and_true] at e'
  obtain ⟨rfl, rfl⟩ := e'
  have hn : cap ≠ 1 := by simp at hc; omega
  refine ⟨b, off + 5, by rw [if_neg hn], ?_, hb⟩
  have : off + 5 + i * 5 = off + (i + 1) * 5 := by omega
  rw [this]; exact c

theorem ne_noneB {p : Prop} [Decidable p] {x y : Addr} {A : Option Addr} (h : (if p then some x else some y) = A) : A ≠ none := by
  subst h; split <;> simp

def lenVB : Value → Nat
  | .slice _ n _ => n
  | _ => 0

set_option maxRecDepth 100000 in
set_option maxHeartbeats 1600000 in
theorem mergeB_any (ao bo : Option Addr) (a b : List CL.Bkt) (ca cb' : Nat) (w : World) (hA : BRow w ao a) (hB : BRow w bo b) (hca : a.length ≤ ca) (hcb : b.length ≤ cb') (hla : a.length ≤ 120) (hlb : b.length ≤ 120) :
    Calls Tryd.prog 17 #[.slice ao a.length ca, .slice bo b.length cb'] w fun e w' => ∃ v, e = .returned v ∧ w'.ownsRow w.heap.size 72 5 v (CL.mrgB a b).length (bv (CL.mrgB a b)) ∧ Below w.heap.size w w' := by
  have HA := hid hA
  have HB := hid hB
  clear hA hB
  go_enter Tryd.func17, Tryd.ntmps17
  go_wp2_with fail
  go_loopw [0, 1, 5] (fun ta tb tl wr => ∃ (a' b' d : List CL.Bkt) (ao' bo' : Option Addr) (ca' cb2 : Nat), ta = .slice ao' a'.length ca' ∧ tb = .slice bo' b'.length cb2 ∧ a'.length ≤ ca' ∧ b'.length ≤ cb2 ∧ d.length + a'.length + b'.length ≤ 240 ∧ CL.omrg a b = d ++ CL.omrg a' b' ∧ BRow w ao' a' ∧ BRow w bo' b' ∧ wr.ownsRow w.heap.size 72 5 tl (CL.gathL [] d).length (bv (CL.gathL [] d)) ∧ Below w.heap.size w wr) (fun ta tb _ _ => lenVB ta + lenVB tb)
  case atStart => exact ⟨a, b, [], ao, bo, ca, cb', rfl, rfl, hca, hcb, by simp; omega, rfl, HA.out, HB.out, World.ownsRow_nil _ _ _ _, Below.refl _ _⟩
  case round =>
    obtain ⟨a', b', d, ao', bo', ca', cb2, rfl, rfl, hca', hcb', hdl, hm, hSa, hSb, hown, hbel⟩ := hrel
    have HM := hid hm
    have HSa := hid hSa
    have HSb := hid hSb
    have HO := hid hown
    have HBl := hid hbel
    have hsz := hbel.size
    have hgl : (CL.gathL [] d).length ≤ 1000 := by
      have := CL.gathL_len d []
      rw [List.length_nil] at this; omega
    clear hm hSa hSb hown hbel
    rcases a' with _ | ⟨x, a2⟩
    · rcases b' with _ | ⟨y, b2⟩
      · simp only [List.length_nil] at hca' hcb' hdl ⊢
        go_wp2_with fail
        go_ret
        refine ⟨_, rfl, ?_, HBl.out⟩
        unfold CL.mrgB
        rw [HM.out, CL.nil_omrg, List.append_nil]
        exact HO.out
      · obtain ⟨bb, ob, Ab, rfl, hAb, hSb2⟩ := brow_tail HSb.out hcb'
        have HSb2 := hid hSb2
        obtain ⟨e0, e1, e2, e3, e4⟩ := HSb.out.at HBl.out 0 (by simp)
        have eb : atB (y :: b2) 0 = y := rfl
        rw [eb] at e0 e1 e2 e3 e4
        simp only [Nat.zero_mul, Nat.add_zero] at e0 e1 e2 e3 e4
        have hl2 : (y :: b2).length = b2.length + 1 := rfl
        rw [hl2] at hcb' hdl ⊢
        simp only [List.length_nil] at hca' hdl ⊢
        clear hSb2 eb hl2
        have h1b : (1 : Int) ≤ (b2.length : Int) + 1 := by omega
        have hcc2 : 1 ≤ cb2 := by omega
        have hz : ((b2.length : Int) + 1 == 0) = false := by simp; omega
        go_wp2_with fail
        go_quiet (fail)
        go_wp2_with fail
        have HO2 := hid (own_drewN HO.out nq)
        have HB2 := hid (below_drewN HBl.out nq)
        have hs2 : w.heap.size ≤ (wr.drewN nq).heap.size := hsz
        have e0 : (wr.drewN nq).cell? ⟨bb, ob, none⟩ = some (.int .i64 y.st) := e0
        have e1 : (wr.drewN nq).cell? ⟨bb, ob + 1, none⟩ = some (.int .i64 y.ct) := e1
        have e2 : (wr.drewN nq).cell? ⟨bb, ob + 2, none⟩ = some (.int .i64 y.sm) := e2
        have e3 : (wr.drewN nq).cell? ⟨bb, ob + 3, none⟩ = some (.int .i64 y.mn) := e3
        have e4 : (wr.drewN nq).cell? ⟨bb, ob + 4, none⟩ = some (.int .i64 y.mx) := e4
        generalize wr.drewN nq = w2 at *
        go_region_with (go_at_call 32; refine (gather_any u5 w.heap.size (CL.gathL [] d) y w2.drew HO2.out.drew hgl hs2).mono ?_; rintro e w4 ⟨v4, rfl, ho4, hg4⟩; have HO4 := hid ho4; have HB4 := hid ((below_drewN HB2.out 1).grown hg4 hs2 (fun j hj => (HO2.out.lt j hj).1)); clear ho4 hg4)
        simp only [List.getElem_toArray, List.getElem_cons_succ, List.getElem_cons_zero]
        go_frame
        go_wp2_with fail
        refine ⟨?rel, ?measure⟩
        case rel =>
          refine ⟨[], b2, d ++ [y], ao', Ab, ca', cb2 - 1, rfl, rfl, hca', by omega, by simp; omega, ?_, HSa.out, HSb2.out, ?_, HB4.out⟩
          · rw [HM.out, CL.nil_omrg, CL.nil_omrg]; simp
          · rw [CL.gathL_snoc]; exact HO4.out
        case measure => simp [lenVB]
    · obtain ⟨ba, oa, Aa, rfl, hAa, hSa2⟩ := brow_tail HSa.out hca'
      have HSa2 := hid hSa2
      obtain ⟨c0, c1, c2, c3, c4⟩ := HSa.out.at HBl.out 0 (by simp)
      have ea : atB (x :: a2) 0 = x := rfl
      rw [ea] at c0 c1 c2 c3 c4
      simp only [Nat.zero_mul, Nat.add_zero] at c0 c1 c2 c3 c4
      have hl1 : (x :: a2).length = a2.length + 1 := rfl
      rw [hl1] at hca' hdl ⊢
      clear hSa2 ea hl1
      have h1a : (1 : Int) ≤ (a2.length : Int) + 1 := by omega
      have hcc1 : 1 ≤ ca' := by omega
      have hza : ((a2.length : Int) + 1 == 0) = false := by simp; omega
      rcases b' with _ | ⟨y, b2⟩
      · simp only [List.length_nil] at hcb' hdl ⊢
        go_wp2_with fail
        go_quiet (fail)
        go_wp2_with fail
        have HO2 := hid (own_drewN HO.out nq)
        have HB2 := hid (below_drewN HBl.out nq)
        have hs2 : w.heap.size ≤ (wr.drewN nq).heap.size := hsz
        have c0 : (wr.drewN nq).cell? ⟨ba, oa, none⟩ = some (.int .i64 x.st) := c0
        have c1 : (wr.drewN nq).cell? ⟨ba, oa + 1, none⟩ = some (.int .i64 x.ct) := c1
        have c2 : (wr.drewN nq).cell? ⟨ba, oa + 2, none⟩ = some (.int .i64 x.sm) := c2
        have c3 : (wr.drewN nq).cell? ⟨ba, oa + 3, none⟩ = some (.int .i64 x.mn) := c3
        have c4 : (wr.drewN nq).cell? ⟨ba, oa + 4, none⟩ = some (.int .i64 x.mx) := c4
        generalize wr.drewN nq = w2 at *
        go_region_with (go_at_call 32; refine (gather_any u5 w.heap.size (CL.gathL [] d) x w2.drew HO2.out.drew hgl hs2).mono ?_; rintro e w4 ⟨v4, rfl, ho4, hg4⟩; have HO4 := hid ho4; have HB4 := hid ((below_drewN HB2.out 1).grown hg4 hs2 (fun j hj => (HO2.out.lt j hj).1)); clear ho4 hg4)
        simp only [List.getElem_toArray, List.getElem_cons_succ, List.getElem_cons_zero]
        go_frame
        go_wp2_with fail
        refine ⟨?rel, ?measure⟩
        case rel =>
          refine ⟨a2, [], d ++ [x], Aa, bo', ca' - 1, cb2, rfl, rfl, by omega, hcb', by simp; omega, ?_, HSa2.out, HSb.out, ?_, HB4.out⟩
          · rw [HM.out, CL.omrg_nil, CL.omrg_nil]; simp
          · rw [CL.gathL_snoc]; exact HO4.out
        case measure => simp [lenVB]
      · obtain ⟨bb, ob, Ab, rfl, hAb, hSb2⟩ := brow_tail HSb.out hcb'
        have HSb2 := hid hSb2
        obtain ⟨e0, e1, e2, e3, e4⟩ := HSb.out.at HBl.out 0 (by simp)
        have eb : atB (y :: b2) 0 = y := rfl
        rw [eb] at e0 e1 e2 e3 e4
        simp only [Nat.zero_mul, Nat.add_zero] at e0 e1 e2 e3 e4
        have hl2 : (y :: b2).length = b2.length + 1 := rfl
        rw [hl2] at hcb' hdl ⊢
        clear hSb2 eb hl2
        have h1b : (1 : Int) ≤ (b2.length : Int) + 1 := by omega
        have hcc2 : 1 ≤ cb2 := by omega
        have hzb : ((b2.length : Int) + 1 == 0) = false := by simp; omega
        have hgt : decide (0 < (a2.length : Int) + 1) = true := decide_eq_true (by omega)
        by_cases hle : x.st ≤ y.st
        · go_wp2_with fail
          go_quiet (fail)
          go_wp2_with fail
          have HO2 := hid (own_drewN HO.out nq)
          have HB2 := hid (below_drewN HBl.out nq)
          have hs2 : w.heap.size ≤ (wr.drewN nq).heap.size := hsz
          have c0 : (wr.drewN nq).cell? ⟨ba, oa, none⟩ = some (.int .i64 x.st) := c0
          have c1 : (wr.drewN nq).cell? ⟨ba, oa + 1, none⟩ = some (.int .i64 x.ct) := c1
          have c2 : (wr.drewN nq).cell? ⟨ba, oa + 2, none⟩ = some (.int .i64 x.sm) := c2
          have c3 : (wr.drewN nq).cell? ⟨ba, oa + 3, none⟩ = some (.int .i64 x.mn) := c3
          have c4 : (wr.drewN nq).cell? ⟨ba, oa + 4, none⟩ = some (.int .i64 x.mx) := c4
          generalize wr.drewN nq = w2 at *
          go_region_with (go_at_call 32; refine (gather_any u5 w.heap.size (CL.gathL [] d) x w2.drew HO2.out.drew hgl hs2).mono ?_; rintro e w4 ⟨v4, rfl, ho4, hg4⟩; have HO4 := hid ho4; have HB4 := hid ((below_drewN HB2.out 1).grown hg4 hs2 (fun j hj => (HO2.out.lt j hj).1)); clear ho4 hg4)
          simp only [List.getElem_toArray, List.getElem_cons_succ, List.getElem_cons_zero]
          go_frame
          go_wp2_with fail
          refine ⟨?rel, ?measure⟩
          case rel =>
            refine ⟨a2, y :: b2, d ++ [x], Aa, some ⟨bb, ob, none⟩, ca' - 1, cb2, rfl, rfl, by omega, by simpa using hcb', by simp; omega, ?_, HSa2.out, HSb.out, ?_, HB4.out⟩
            · rw [HM.out, CL.omrg_cons, if_pos hle]; simp
            · rw [CL.gathL_snoc]; exact HO4.out
          case measure => simp [lenVB]
        · have hlf : decide (x.st ≤ y.st) = false := decide_eq_false hle
          go_wp2_with fail
          go_quiet (fail)
          go_wp2_with fail
          have HO2 := hid (own_drewN HO.out nq)
          have HB2 := hid (below_drewN HBl.out nq)
          have hs2 : w.heap.size ≤ (wr.drewN nq).heap.size := hsz
          have e0 : (wr.drewN nq).cell? ⟨bb, ob, none⟩ = some (.int .i64 y.st) := e0
          have e1 : (wr.drewN nq).cell? ⟨bb, ob + 1, none⟩ = some (.int .i64 y.ct) := e1
          have e2 : (wr.drewN nq).cell? ⟨bb, ob + 2, none⟩ = some (.int .i64 y.sm) := e2
          have e3 : (wr.drewN nq).cell? ⟨bb, ob + 3, none⟩ = some (.int .i64 y.mn) := e3
          have e4 : (wr.drewN nq).cell? ⟨bb, ob + 4, none⟩ = some (.int .i64 y.mx) := e4
          generalize wr.drewN nq = w2 at *
          go_region_with (go_at_call 32; refine (gather_any u5 w.heap.size (CL.gathL [] d) y w2.drew HO2.out.drew hgl hs2).mono ?_; rintro e w4 ⟨v4, rfl, ho4, hg4⟩; have HO4 := hid ho4; have HB4 := hid ((below_drewN HB2.out 1).grown hg4 hs2 (fun j hj => (HO2.out.lt j hj).1)); clear ho4 hg4)
          simp only [List.getElem_toArray, List.getElem_cons_succ, List.getElem_cons_zero]
          go_frame
          go_wp2_with fail
          refine ⟨?rel, ?measure⟩
          case rel =>
            refine ⟨x :: a2, b2, d ++ [y], some ⟨ba, oa, none⟩, Ab, ca', cb2 - 1, rfl, rfl, by simpa using hca', by omega, by simp; omega, ?_, HSa.out, HSb2.out, ?_, HB4.out⟩
            · rw [HM.out, CL.omrg_cons, if_neg (by omega)]; simp
            · rw [CL.gathL_snoc]; exact HO4.out
          case measure => simp [lenVB]

end Go.Proofs.YtdmnlmohfaafoabDoor
