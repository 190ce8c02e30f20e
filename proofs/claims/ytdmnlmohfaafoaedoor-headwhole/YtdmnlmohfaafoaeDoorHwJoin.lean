/- What HeadWhole's joined does (made by mkhj.py). -/
import Derived.Test.YtdmnlmohfaafoaeDoorHrMem
import Derived.Test.YtdmnlmohfaafoaeDoorHcMerge
import Derived.Test.YtdmnlmohfaafoaeDoorHxCmp
import Derived.Test.YtdmnlmohfaafoaeDoorHwNum
import Derived.Test.YtdmnlmohfaafoaeDoorHdCome
import Derived.Test.YtdmnlmohfaafoaeDoorDkReg
namespace Go.Proofs.YtdmnlmohfaafoaeDoor
open Go.RowKit

theorem srs_tail {w : World} {Z : Nat → Prop} {ao : Option Addr} {x : Sr} {l : List Sr} {cap : Nat} (h : SrOut w Z ao (x :: l)) (hc : (x :: l).length ≤ cap) :
    ∃ b off A, ao = some ⟨b, off, none⟩ ∧ (if cap = 1 then some ⟨b, off, none⟩ else some ⟨b, off + 2, none⟩) = A ∧ SrOut w Z A l := by
  obtain ⟨b, off, e, _⟩ := h 0 (by simp)
  refine ⟨b, off, _, e, rfl, fun i hi => ?_⟩
  obtain ⟨b', off', e', hb, hz, lo, lc, so, sc, c0, c1, hl, hs⟩ := h (i + 1) (by simpa using hi)
  rw [e] at e'
  simp only [Option.some.injEq, Addr.mk.injEq, and_true] at e'
  obtain ⟨rfl, rfl⟩ := e'
  have hn : cap ≠ 1 := by simp at hc; omega
  rw [HD.at_cons] at c0 c1 hl hs
  refine ⟨b, off + 2, by rw [if_neg hn], hb, hz, lo, lc, so, sc, ?_, ?_, hl, hs⟩
  · have : off + 2 + i * 2 = off + (i + 1) * 2 := by omega
    rw [this]; exact c0
  · have : off + 2 + i * 2 + 1 = off + (i + 1) * 2 + 1 := by omega
    rw [this]; exact c1

theorem srs_head {w : World} {Z : Nat → Prop} {b off : Nat} {x : Sr} {l : List Sr} (h : SrOut w Z (some ⟨b, off, none⟩) (x :: l)) : ∃ lo lc so sc, w.cell? ⟨b, off, none⟩ = some (.slice lo x.1.length lc) ∧ w.cell? ⟨b, off + 1, none⟩ = some (.slice so x.2.length sc) ∧ LOut w Z lo x.1 ∧ SOut w Z so x.2 ∧ b < w.heap.size := by
  obtain ⟨b', off', e, hb, hz, lo, lc, so, sc, c0, c1, hl, hs⟩ := h 0 (by simp)
  cases e
  exact ⟨lo, lc, so, sc, by simpa [HD.at_zero] using c0, by simpa [HD.at_zero] using c1, by simpa [HD.at_zero] using hl, by simpa [HD.at_zero] using hs, hb⟩

theorem ne_noneS {c : Nat} {b off : Nat} {A : Option Addr} (h : (if c = 1 then some (⟨b, off, none⟩ : Addr) else some ⟨b, off + 2, none⟩) = A) : A ≠ none := by
  rw [← h]; split <;> simp

abbrev noZ : Nat → Prop := fun _ => False

/-- The samples' capacities are as they should be. -/
def CapOk (w : World) (ao : Option Addr) (l : List Sr) : Prop := ∀ i, i < l.length → ∀ b off so n sc, ao = some ⟨b, off, none⟩ → w.cell? ⟨b, off + i * 2 + 1, none⟩ = some (.slice so n sc) → n ≤ sc ∧ (so = none → sc = 0)

theorem CapOk.tail {w : World} {b off : Nat} {x : Sr} {l : List Sr} {cap : Nat} {A : Option Addr} (h : CapOk w (some ⟨b, off, none⟩) (x :: l)) (hc : (x :: l).length ≤ cap) (hA : (if cap = 1 then some (⟨b, off, none⟩ : Addr) else some ⟨b, off + 2, none⟩) = A) : CapOk w A l := by
  intro i hi b' off' so n sc e hcell
  have hn : cap ≠ 1 := by simp at hc; omega
  rw [← hA, if_neg hn] at e
  simp only [Option.some.injEq, Addr.mk.injEq, and_true] at e
  obtain ⟨rfl, rfl⟩ := e
  have : off + 2 + i * 2 + 1 = off + (i + 1) * 2 + 1 := by omega
  rw [this] at hcell
  exact h (i + 1) (by simpa using hi) b off so n sc rfl hcell

theorem CapOk.head {w : World} {b off : Nat} {x : Sr} {l : List Sr} (h : CapOk w (some ⟨b, off, none⟩) (x :: l)) {so : Option Addr} {n sc : Nat} (hc : w.cell? ⟨b, off + 1, none⟩ = some (.slice so n sc)) : n ≤ sc ∧ (so = none → sc = 0) := h 0 (by simp) b off so n sc rfl (by simpa using hc)

theorem cap_own {w : World} {base n size : Nat} {e : TypeId} {so : Option Addr} {k sc : Nat} {xs : List Value} (h : w.ownsRow base e size (.slice so k sc) n xs) : k ≤ sc ∧ (so = none → sc = 0) := by
  rcases h.2 with ⟨h0, _⟩ | ⟨g, cap, cur, h0, _, _, h3, _⟩
  · cases h0; exact ⟨Nat.le_refl _, fun _ => rfl⟩
  · cases h0; exact ⟨h3, fun h => by cases h⟩

/-- .. of rows of one's own. -/
theorem CapOk.of_own {w : World} {base : Nat} {v : Value} {l : List Sr} (h : SrOwn w base v l) {ao : Option Addr} {k cap : Nat} (hv : v = .slice ao k cap) : CapOk w ao l ∧ l.length ≤ cap ∧ (ao = none → cap = 0) := by
  obtain ⟨xs, h1, h2, h3⟩ := h
  have hc := cap_own (hv ▸ h2)
  have hk : k = l.length := by
    obtain ⟨ao', cap', e⟩ := own_slice h2
    rw [hv] at e; cases e; rfl
  refine ⟨fun i hi b off so n sc e hcell => ?_, by omega, hc.2⟩
  subst e
  rcases h2.2 with ⟨h0, _⟩ | ⟨g, cap', cur, h0, _, _⟩
  · rw [hv] at h0; cases h0
  · rw [hv] at h0; cases h0
    have c := h2.cells (g := b) (by rw [hv]; rfl) _ _ (flat_get xs i (by omega)).2
    rw [Addr.add_lit] at c
    have hce : some (Value.slice so n sc) = some (atX xs i).2 := by rw [← hcell, ← c, Nat.add_assoc]
    have := (h3 i hi).2
    rw [show (xs.getD i (.nilIface, .nilIface)).2 = .slice so n sc from (Option.some.inj hce).symm] at this
    exact cap_own this

theorem srv_index0 (b off n c : Nat) (w : World) : (Instr.indexAt 27 (.slice (some ⟨b, off, none⟩) (n + 1) c) (.int .i64 0)).run Tryd.prog w = .ok (.pointer (some ⟨b, off, none⟩)) w := by
  have h0 : (0 : Int) < (n : Int) + 1 := by omega
  go_simp

theorem YC.index {P : Program} {C : World → Prop} {o : Oper} {a : Act} {t : TypeId} {x y : Operand} {v u k : Value} (h : o.op = .indexAddr t x y) (hx : a.eval x = u) (hy : a.eval y = k) (hr : ∀ w, (Instr.indexAt t u k).run P w = .ok v w) : YC P C o v a := fun w _ => .inl (by
  unfold execOp
  rw [h]
  simp [hx, hy, hr])

theorem ld_samples (b k : Nat) (ao : Option Addr) (n c : Nat) (w : World) (h : w.cell? ⟨b, k, none⟩ = some (.slice ao n c)) : (Instr.loadAt 36 (.pointer (some ⟨b, k, none⟩))).run Tryd.prog w = .ok (.slice ao n c) w := by
  have hs : (Tryd.prog.info? 36).map (·.size) = some 1 := by kernel_rfl
  go_simp

def Few (l : List Sr) : Prop := ∀ x ∈ l, x.1.length ≤ 1000 ∧ x.2.length ≤ 2000

set_option maxRecDepth 100000 in
set_option maxHeartbeats 6400000 in
theorem joined_any (ao bo : Option Addr) (a b : List Sr) (ca cb : Nat) (w : World) (hA : SrOut w noZ ao a) (hB : SrOut w noZ bo b) (hca : a.length ≤ ca) (hcb : b.length ≤ cb) (hla : a.length + b.length ≤ 1000) (hna : ao = none → ca = 0) (hnb : bo = none → cb = 0) (hfa : Few a) (hfb : Few b) (hka : CapOk w ao a) (hkb : CapOk w bo b) :
    Calls Tryd.prog 16 #[.slice ao a.length ca, .slice bo b.length cb] w fun e w' => ∃ v, e = .returned v ∧ ∃ xs, RB w w' noZ v xs (HD.jn a b) := by
  have HA := hid hA
  have HB := hid hB
  have HFa := hid hfa
  have HFb := hid hfb
  have HKa0 := hid hka
  have HKb0 := hid hkb
  clear hA hB hfa hfb hka hkb
  go_enter Tryd.func16, Tryd.ntmps16
  go_wp2_with fail
  go_loopw [0, 1, 5] (fun ta tb tl wr => ∃ (a' b' d : List Sr) (ao' bo' : Option Addr) (ca' cb' : Nat) (xs : List (Value × Value)), ta = .slice ao' a'.length ca' ∧ tb = .slice bo' b'.length cb' ∧ a'.length ≤ ca' ∧ b'.length ≤ cb' ∧ d.length + a'.length + b'.length ≤ 1000 ∧ HD.jn a b = d ++ HD.jn a' b' ∧ SrOut w noZ ao' a' ∧ SrOut w noZ bo' b' ∧ (ao' = none → ca' = 0) ∧ (bo' = none → cb' = 0) ∧ Few a' ∧ Few b' ∧ CapOk w ao' a' ∧ CapOk w bo' b' ∧ RB w wr noZ tl xs d) (fun ta tb _ _ => lenV ta + lenV tb)
  case atStart => exact ⟨a, b, [], ao, bo, ca, cb, [], rfl, rfl, hca, hcb, by simp; omega, rfl, HA.out, HB.out, hna, hnb, HFa.out, HFb.out, HKa0.out, HKb0.out, RB.nil _ _⟩
  case round =>
    obtain ⟨a', b', d, ao', bo', ca', cb', xs, rfl, rfl, hca', hcb', hdl, hm, hSa, hSb, hna', hnb', hfa', hfb', hka', hkb', hrb⟩ := hrel
    have HM := hid hm
    have HNa := hid hna'
    have HNb := hid hnb'
    have HSa := hid hSa
    have HSb := hid hSb
    have HFa' := hid hfa'
    have HFb' := hid hfb'
    have HKa := hid hka'
    have HKb := hid hkb'
    have HRB := hid hrb
    obtain ⟨a5, c5, e5⟩ := own_slice hrb.row
    have HE5 := hid e5
    clear hm hna' hnb' hSa hSb hfa' hfb' hrb hka' hkb' HFa HFb HKa0 HKb0
    subst e5
    rcases a' with _ | ⟨x, a2⟩
    · rcases b' with _ | ⟨y, b2⟩
      · simp only [List.length_nil] at hca' hcb' hdl ⊢
        go_wp2_with fail
        go_ret
        have h1 := HRB.out
        have h2 := HM.out
        rw [HD.jn_nil, List.append_nil] at h2
        exact ⟨_, rfl, xs, by rw [h2]; exact h1⟩
      · obtain ⟨bb, ob, Ab, rfl, hAb, hSb2⟩ := srs_tail HSb.out hcb'
        obtain ⟨lo2, lc2, so2, sc2, f0, f1, hl2, hs2, hbw2⟩ := srs_head HSb.out
        have e0 : wr.cell? ⟨bb, ob, none⟩ = some (.slice lo2 y.1.length lc2) := (HRB.out.bel.cell (p := ⟨bb, ob, none⟩) hbw2).trans f0
        have e1 : wr.cell? ⟨bb, ob + 1, none⟩ = some (.slice so2 y.2.length sc2) := (HRB.out.bel.cell (p := ⟨bb, ob + 1, none⟩) hbw2).trans f1
        have hl2' : (y :: b2).length = b2.length + 1 := rfl
        simp only [List.length_nil] at hca' hdl ⊢
        rw [hl2'] at hcb' hdl ⊢
        have HSb2 := hid hSb2
        have HKb2 := hid (HKb.out.tail hcb' hAb)
        have HLy := hid hl2
        have HSy := hid hs2
        clear hSb2 hl2 hs2 f0 f1 hl2'
        have h1b : (1 : Int) ≤ (b2.length : Int) + 1 := by omega
        have hcc2 : 1 ≤ cb' := by omega
        obtain ⟨v7, w7, hrun, k1, k2, k3⟩ := app_ser (wr.alloc (.cells #[.slice lo2 y.1.length lc2, .slice so2 y.2.length sc2] 38)).drew w.heap.size wr.heap.size (.slice a5 d.length c5) (.slice lo2 y.1.length lc2) (.slice so2 y.2.length sc2) d.length (flat xs) (heap_alloc_new wr _) rfl rfl (own_heap (HRB.out.row.alloc _) rfl) (by omega) (Nat.le_trans HRB.out.bel.size (World.grownBy_alloc wr (.cells #[.slice lo2 y.1.length lc2, .slice so2 y.2.length sc2] 38) none).size)
        have H7 := hid ((HRB.out.below ((Below.refl _ wr).alloc (Nat.le_refl _) (.cells #[.slice lo2 y.1.length lc2, .slice so2 y.2.length sc2] 38)).drew).push (x := y) (.inl ⟨lo2, lc2, rfl, HLy.out⟩) (.inl ⟨so2, sc2, rfl, HSy.out⟩) k1 k2)
        obtain ⟨a7, c7, e7⟩ := own_slice k1
        subst e7
        clear k1 k2 k3
        go_wp2_with fail
        go_region_law ((refine step_append_eqn rfl (.tmp 67) (.tmp 71) 27 27 rfl (.slice a5 d.length c5) (.slice (some ⟨wr.heap.size, 0, none⟩) 1 1) (by simp [Act.eval]) (by simp [Act.eval]) hrun ?_))
        simp only [List.getElem_toArray, List.getElem_cons_succ, List.getElem_cons_zero]
        go_frame
        go_wp2_with fail
        refine ⟨?rel, ?measure⟩
        case rel => exact ⟨[], b2, d ++ [y], ao', Ab, ca', cb' - 1, _, rfl, rfl, by simp, by omega, by simp; omega, by rw [HM.out, HD.jn_right y [] b2 (fun z hz => by simp at hz), HD.jn_nil']; simp, HSa.out, HSb2.out, HNa.out, fun h => absurd h (ne_noneS hAb), HFa'.out, fun z hz => HFb'.out z (by simp [hz]), HKa.out, HKb2.out, H7.out⟩
        case measure => simp [lenV]
    · rcases b' with _ | ⟨y, b2⟩
      · obtain ⟨ba, oa, Aa, rfl, hAa, hSa2⟩ := srs_tail HSa.out hca'
        obtain ⟨lo, lc, so, sc, d0, d1, hl, hs, hbw⟩ := srs_head HSa.out
        have c0 : wr.cell? ⟨ba, oa, none⟩ = some (.slice lo x.1.length lc) := (HRB.out.bel.cell (p := ⟨ba, oa, none⟩) hbw).trans d0
        have c1 : wr.cell? ⟨ba, oa + 1, none⟩ = some (.slice so x.2.length sc) := (HRB.out.bel.cell (p := ⟨ba, oa + 1, none⟩) hbw).trans d1
        have hl1 : (x :: a2).length = a2.length + 1 := rfl
        simp only [List.length_nil] at hcb' hdl ⊢
        rw [hl1] at hca' hdl ⊢
        have HSa2 := hid hSa2
        have HKa2 := hid (HKa.out.tail hca' hAa)
        have HLx := hid hl
        have HSx := hid hs
        clear hSa2 hl hs d0 d1 hl1
        have h1a : (1 : Int) ≤ (a2.length : Int) + 1 := by omega
        have hcc1 : 1 ≤ ca' := by omega
        obtain ⟨v7, w7, hrun, k1, k2, k3⟩ := app_ser (wr.alloc (.cells #[.slice lo x.1.length lc, .slice so x.2.length sc] 38)).drew w.heap.size wr.heap.size (.slice a5 d.length c5) (.slice lo x.1.length lc) (.slice so x.2.length sc) d.length (flat xs) (heap_alloc_new wr _) rfl rfl (own_heap (HRB.out.row.alloc _) rfl) (by omega) (Nat.le_trans HRB.out.bel.size (World.grownBy_alloc wr (.cells #[.slice lo x.1.length lc, .slice so x.2.length sc] 38) none).size)
        have H7 := hid ((HRB.out.below ((Below.refl _ wr).alloc (Nat.le_refl _) (.cells #[.slice lo x.1.length lc, .slice so x.2.length sc] 38)).drew).push (x := x) (.inl ⟨lo, lc, rfl, HLx.out⟩) (.inl ⟨so, sc, rfl, HSx.out⟩) k1 k2)
        obtain ⟨a7, c7, e7⟩ := own_slice k1
        subst e7
        clear k1 k2 k3
        go_wp2_with fail
        go_region_law ((refine step_append_eqn rfl (.tmp 56) (.tmp 60) 27 27 rfl (.slice a5 d.length c5) (.slice (some ⟨wr.heap.size, 0, none⟩) 1 1) (by simp [Act.eval]) (by simp [Act.eval]) hrun ?_))
        simp only [List.getElem_toArray, List.getElem_cons_succ, List.getElem_cons_zero]
        go_frame
        go_wp2_with fail
        refine ⟨?rel, ?measure⟩
        case rel => exact ⟨a2, [], d ++ [x], Aa, bo', ca' - 1, cb', _, rfl, rfl, by omega, by simp, by simp; omega, by rw [HM.out, HD.jn_left x a2 [] (fun z hz => by simp at hz), HD.jn_nil]; simp, HSa2.out, HSb.out, fun h => absurd h (ne_noneS hAa), HNb.out, fun z hz => HFa'.out z (by simp [hz]), HFb'.out, HKa2.out, HKb.out, H7.out⟩
        case measure => simp [lenV]
      · obtain ⟨ba, oa, Aa, rfl, hAa, hSa2⟩ := srs_tail HSa.out hca'
        obtain ⟨bb, ob, Ab, rfl, hAb, hSb2⟩ := srs_tail HSb.out hcb'
        obtain ⟨lo, lc, so, sc, d0, d1, hl, hs, hbw⟩ := srs_head HSa.out
        have hbw0 := hbw
        obtain ⟨lo2, lc2, so2, sc2, f0, f1, hl2, hs2, hbw2⟩ := srs_head HSb.out
        have hbw20 := hbw2
        have c0 : wr.cell? ⟨ba, oa, none⟩ = some (.slice lo x.1.length lc) := (HRB.out.bel.cell (p := ⟨ba, oa, none⟩) hbw).trans d0
        have c1 : wr.cell? ⟨ba, oa + 1, none⟩ = some (.slice so x.2.length sc) := (HRB.out.bel.cell (p := ⟨ba, oa + 1, none⟩) hbw).trans d1
        have e0 : wr.cell? ⟨bb, ob, none⟩ = some (.slice lo2 y.1.length lc2) := (HRB.out.bel.cell (p := ⟨bb, ob, none⟩) hbw2).trans f0
        have e1 : wr.cell? ⟨bb, ob + 1, none⟩ = some (.slice so2 y.2.length sc2) := (HRB.out.bel.cell (p := ⟨bb, ob + 1, none⟩) hbw2).trans f1
        have hl1 : (x :: a2).length = a2.length + 1 := rfl
        have hl2' : (y :: b2).length = b2.length + 1 := rfl
        rw [hl1] at hca' hdl ⊢
        rw [hl2'] at hcb' hdl ⊢
        have HSa2 := hid hSa2
        have HSb2 := hid hSb2
        have HKa2 := hid (HKa.out.tail hca' hAa)
        have HKb2 := hid (HKb.out.tail hcb' hAb)
        obtain ⟨hsc1, hsc2⟩ := HKa.out.head d1
        obtain ⟨hsd1, hsd2⟩ := HKb.out.head f1
        have HSc2 := hid hsc2
        have HSd2 := hid hsd2
        clear hsc2 hsd2
        have HLx := hid hl
        have HSx := hid hs
        have HLy := hid hl2
        have HSy := hid hs2
        have hfx := HFa'.out x (by simp)
        have hfy := HFb'.out y (by simp)
        have HCm : Hid (∀ W, Below wr.heap.size wr W → Calls Tryd.prog 14 #[.slice lo x.1.length lc, .slice lo2 y.1.length lc2] W fun e w' => e = .returned (.int .i64 (LB.cmp x.1 y.1)) ∧ Below W.heap.size W w') := fun W hW => cmp_any lo lo2 x.1 y.1 lc lc2 W ((hl.1.below HRB.out.bel).below hW) ((hl2.1.below HRB.out.bel).below hW) hfx.1 hfy.1
        clear hSa2 hSb2 hl hs hl2 hs2 d0 d1 f0 f1 hl1 hl2'
        have h1a : (1 : Int) ≤ (a2.length : Int) + 1 := by omega
        have h1b : (1 : Int) ≤ (b2.length : Int) + 1 := by omega
        have hcc1 : 1 ≤ ca' := by omega
        have hcc2 : 1 ≤ cb' := by omega
        have hbwr : ba < wr.heap.size := Nat.lt_of_lt_of_le hbw HRB.out.bel.size
        have hbwr2 : bb < wr.heap.size := Nat.lt_of_lt_of_le hbw2 HRB.out.bel.size
        go_wp2_with fail
        have HCell : Hid (∀ W, Below wr.heap.size wr W → (W.cell? ⟨ba, oa, none⟩ = some (.slice lo x.1.length lc) ∧ W.cell? ⟨ba, oa + 1, none⟩ = some (.slice so x.2.length sc)) ∧ W.cell? ⟨bb, ob, none⟩ = some (.slice lo2 y.1.length lc2) ∧ W.cell? ⟨bb, ob + 1, none⟩ = some (.slice so2 y.2.length sc2)) := fun W hW => ⟨⟨(hW.cell (p := ⟨ba, oa, none⟩) hbwr).trans c0, (hW.cell (p := ⟨ba, oa + 1, none⟩) hbwr).trans c1⟩, (hW.cell (p := ⟨bb, ob, none⟩) hbwr2).trans e0, (hW.cell (p := ⟨bb, ob + 1, none⟩) hbwr2).trans e1⟩
        generalize hcm : LB.cmp x.1 y.1 = cm at *
        have HCmE := hid hcm
        clear hcm c0 c1 e0 e1
        refine wp_region_class (fun W => Below wr.heap.size wr W) (by kernel_rfl) (by kernel_rfl) (Below.refl _ wr).drew ?_
        refine q_run (.slice (some ⟨ba, oa, none⟩) (a2.length + 1) ca') (by kernel_rfl) (fun W _ => by kernel_rfl) ?_
        go_frame
        refine q_index (.pointer (some ⟨ba, oa, none⟩)) (by kernel_rfl) rfl (by kernel_rfl) (by kernel_rfl) (srv_index0 ba oa a2.length ca') ?_
        go_frame
        refine q_run (.pointer (some ⟨ba, oa, none⟩)) (by kernel_rfl) (fun W _ => by kernel_rfl) ?_
        go_frame
        refine q_load (.slice lo x.1.length lc) (by kernel_rfl) rfl (by kernel_rfl) (fun W hW => ld_labels ba oa lo x.1.length lc W (HCell.out W hW).1.1) ?_
        go_frame
        refine q_run (.slice (some ⟨bb, ob, none⟩) (b2.length + 1) cb') (by kernel_rfl) (fun W _ => by kernel_rfl) ?_
        go_frame
        refine q_index (.pointer (some ⟨bb, ob, none⟩)) (by kernel_rfl) rfl (by kernel_rfl) (by kernel_rfl) (srv_index0 bb ob b2.length cb') ?_
        go_frame
        refine q_run (.pointer (some ⟨bb, ob, none⟩)) (by kernel_rfl) (fun W _ => by kernel_rfl) ?_
        go_frame
        refine q_load (.slice lo2 y.1.length lc2) (by kernel_rfl) rfl (by kernel_rfl) (fun W hW => ld_labels bb ob lo2 y.1.length lc2 W (HCell.out W hW).2.1) ?_
        go_frame
        refine q_call (.int .i64 cm) (by kernel_rfl) (fun W => by kernel_rfl) (fun W hW => (HCm.out W hW).mono fun e w' h => ⟨h.1, bel2 hW h.2⟩) ?_
        go_frame
        refine q_run (.int .i64 cm) (by kernel_rfl) (fun W _ => by kernel_rfl) ?_
        go_frame
        refine wpQuiet_nil ?_
        intro w4 hb4
        have HRB4 := hid (HRB.out.below hb4)
        obtain ⟨⟨c0, c1⟩, e0, e1⟩ := HCell.out w4 hb4
        clear hb4 HCm HCell HRB hbw hbw2 hbwr hbwr2
        have HRB := hid HRB4.out
        have hbaw : ba < w4.heap.size := World.block_lt_of_cell? _ _ c0
        have hbbw : bb < w4.heap.size := World.block_lt_of_cell? _ _ e0
        clear HRB4
        by_cases hneg : cm < 0
        · have HLt := hid hneg
          obtain ⟨v7, w7, hrun, k1, k2, k3⟩ := app_ser (w4.alloc (.cells #[.slice lo x.1.length lc, .slice so x.2.length sc] 38)).drew w.heap.size w4.heap.size (.slice a5 d.length c5) (.slice lo x.1.length lc) (.slice so x.2.length sc) d.length (flat xs) (heap_alloc_new w4 _) rfl rfl (own_heap (HRB.out.row.alloc _) rfl) (by omega) (Nat.le_trans HRB.out.bel.size (World.grownBy_alloc w4 (.cells #[.slice lo x.1.length lc, .slice so x.2.length sc] 38) none).size)
          have H7 := hid ((HRB.out.below ((Below.refl _ w4).alloc (Nat.le_refl _) (.cells #[.slice lo x.1.length lc, .slice so x.2.length sc] 38)).drew).push (x := x) (.inl ⟨lo, lc, rfl, HLx.out⟩) (.inl ⟨so, sc, rfl, HSx.out⟩) k1 k2)
          obtain ⟨a7, c7, e7⟩ := own_slice k1
          subst e7
          clear k1 k2 k3
          go_wp2_with fail
          go_region_law ((refine step_append_eqn rfl (.tmp 56) (.tmp 60) 27 27 rfl (.slice a5 d.length c5) (.slice (some ⟨w4.heap.size, 0, none⟩) 1 1) (by simp [Act.eval]) (by simp [Act.eval]) hrun ?_))
          simp only [List.getElem_toArray, List.getElem_cons_succ, List.getElem_cons_zero]
          go_frame
          go_wp2_with fail
          refine ⟨?rel, ?measure⟩
          case rel => exact ⟨a2, y :: b2, d ++ [x], Aa, some ⟨bb, ob, none⟩, ca' - 1, cb', _, rfl, rfl, by omega, by simpa using hcb', by simp; omega, by rw [HM.out, HD.jn_lt x y a2 b2 (by rw [HCmE.out]; exact HLt.out)]; simp, HSa2.out, HSb.out, fun h => absurd h (ne_noneS hAa), HNb.out, fun z hz => HFa'.out z (by simp [hz]), HFb'.out, HKa2.out, HKb.out, H7.out⟩
          case measure => simp [lenV]
        · by_cases hpos : 0 < cm
          · have HGt := hid hpos
            obtain ⟨v7, w7, hrun, k1, k2, k3⟩ := app_ser (w4.alloc (.cells #[.slice lo2 y.1.length lc2, .slice so2 y.2.length sc2] 38)).drew w.heap.size w4.heap.size (.slice a5 d.length c5) (.slice lo2 y.1.length lc2) (.slice so2 y.2.length sc2) d.length (flat xs) (heap_alloc_new w4 _) rfl rfl (own_heap (HRB.out.row.alloc _) rfl) (by omega) (Nat.le_trans HRB.out.bel.size (World.grownBy_alloc w4 (.cells #[.slice lo2 y.1.length lc2, .slice so2 y.2.length sc2] 38) none).size)
            have H7 := hid ((HRB.out.below ((Below.refl _ w4).alloc (Nat.le_refl _) (.cells #[.slice lo2 y.1.length lc2, .slice so2 y.2.length sc2] 38)).drew).push (x := y) (.inl ⟨lo2, lc2, rfl, HLy.out⟩) (.inl ⟨so2, sc2, rfl, HSy.out⟩) k1 k2)
            obtain ⟨a7, c7, e7⟩ := own_slice k1
            subst e7
            clear k1 k2 k3
            go_wp2_with fail
            go_region_law ((refine step_append_eqn rfl (.tmp 67) (.tmp 71) 27 27 rfl (.slice a5 d.length c5) (.slice (some ⟨w4.heap.size, 0, none⟩) 1 1) (by simp [Act.eval]) (by simp [Act.eval]) hrun ?_))
            simp only [List.getElem_toArray, List.getElem_cons_succ, List.getElem_cons_zero]
            go_frame
            go_wp2_with fail
            refine ⟨?rel, ?measure⟩
            case rel => exact ⟨x :: a2, b2, d ++ [y], some ⟨ba, oa, none⟩, Ab, ca', cb' - 1, _, rfl, rfl, by simpa using hca', by omega, by simp; omega, by rw [HM.out, HD.jn_gt x y a2 b2 (by rw [HCmE.out]; exact HGt.out)]; simp, HSa.out, HSb2.out, HNa.out, fun h => absurd h (ne_noneS hAb), HFa'.out, fun z hz => HFb'.out z (by simp [hz]), HKa.out, HKb2.out, H7.out⟩
            case measure => simp [lenV]
          · have hz : cm = 0 := by omega
            have HZ := hid hz
            subst hz
            have HRB0 := hid (HRB.out.below ((Below.refl _ w4).drew))
            have hmg := merge_any so so2 x.2 y.2 sc sc2 w4.drew (HSx.out.1.below HRB0.out.bel) (HSy.out.1.below HRB0.out.bel) hsc1 hsd1 hfx.2 hfy.2 HSc2.out HSd2.out
            have HMg := hid hmg
            clear hmg
            go_wp2_with fail
            refine wp_region_take (fun W => (W.cell? ⟨ba, oa, none⟩ = some (.slice lo x.1.length lc) ∧ W.cell? ⟨ba, oa + 1, none⟩ = some (.slice so x.2.length sc)) ∧ W.cell? ⟨bb, ob + 1, none⟩ = some (.slice so2 y.2.length sc2)) [0, 1, 2, 3, 4, 5, 6, 7, 8, 9, 10, 11, 12] [13, 14, 15, 16, 17] (by kernel_rfl) (by kernel_rfl) ?_
            simp only [List.filterMap_cons, List.filterMap_nil, List.getElem?_toArray, List.getElem?_cons_zero, List.getElem?_cons_succ]
            refine takes.on (v := .slice a5 d.length c5) (YC.move rfl (by kernel_rfl)) ?_
            refine takes.on (v := .slice (some ⟨ba, oa, none⟩) (a2.length + 1) ca') (YC.move rfl (by kernel_rfl)) ?_
            refine takes.on (YC.index rfl (by kernel_rfl) (by kernel_rfl) (srv_index0 ba oa a2.length ca')) ?_
            refine takes.on (v := .pointer (some ⟨ba, oa, none⟩)) (fun W _ => .inl (by kernel_rfl)) ?_
            refine takes.on (YC.load rfl (by kernel_rfl) fun W hW => ld_labels ba oa lo x.1.length lc W hW.1.1) ?_
            refine takes.on (v := .slice (some ⟨ba, oa, none⟩) (a2.length + 1) ca') (YC.move rfl (by kernel_rfl)) ?_
            refine takes.on (YC.index rfl (by kernel_rfl) (by kernel_rfl) (srv_index0 ba oa a2.length ca')) ?_
            refine takes.on (v := .pointer (some ⟨ba, oa + 1, none⟩)) (fun W _ => .inl (by kernel_rfl)) ?_
            refine takes.on (YC.load rfl (by kernel_rfl) fun W hW => ld_samples ba (oa + 1) so x.2.length sc W hW.1.2) ?_
            refine takes.on (v := .slice (some ⟨bb, ob, none⟩) (b2.length + 1) cb') (YC.move rfl (by kernel_rfl)) ?_
            refine takes.on (YC.index rfl (by kernel_rfl) (by kernel_rfl) (srv_index0 bb ob b2.length cb')) ?_
            refine takes.on (v := .pointer (some ⟨bb, ob + 1, none⟩)) (fun W _ => .inl (by kernel_rfl)) ?_
            refine takes.on (YC.load rfl (by kernel_rfl) fun W hW => ld_samples bb (ob + 1) so2 y.2.length sc2 W hW.2) ?_
            refine takes.off (C := fun W => (W.cell? ⟨ba, oa, none⟩ = some (.slice lo x.1.length lc) ∧ W.cell? ⟨ba, oa + 1, none⟩ = some (.slice so x.2.length sc)) ∧ W.cell? ⟨bb, ob + 1, none⟩ = some (.slice so2 y.2.length sc2)) ⟨⟨c0, c1⟩, e1⟩ ?_
            go_frame
            go_wp2_with fail
            refine HMg.out.mono ?_
            rintro e w5 ⟨v5, rfl, ho5, hb5⟩
            obtain ⟨as5, cs5, es5⟩ := own_slice ho5
            subst es5
            have HRB5 := hid (HRB0.out.below hb5)
            have g0 : w5.cell? ⟨ba, oa, none⟩ = some (.slice lo x.1.length lc) := (hb5.cell (p := ⟨ba, oa, none⟩) hbaw).trans c0
            have g1 : w5.cell? ⟨ba, oa + 1, none⟩ = some (.slice so x.2.length sc) := (hb5.cell (p := ⟨ba, oa + 1, none⟩) hbaw).trans c1
            have g2 : w5.cell? ⟨bb, ob + 1, none⟩ = some (.slice so2 y.2.length sc2) := (hb5.cell (p := ⟨bb, ob + 1, none⟩) hbbw).trans e1
            have HO5 := hid (row_low ho5 HRB0.out.bel.size : OwnSm w5 w.heap.size _ _)
            have hs5 := hb5.size
            clear ho5 hb5 HMg c0 c1 e1
            obtain ⟨v7, w7, hrun, k1, k2, k3⟩ := app_ser (w5.alloc (.cells #[.slice lo x.1.length lc, .slice as5 (CL.mrg x.2 y.2).length cs5] 38)) w.heap.size w5.heap.size (.slice a5 d.length c5) (.slice lo x.1.length lc) (.slice as5 (CL.mrg x.2 y.2).length cs5) d.length (flat xs) (heap_alloc_new w5 _) rfl rfl (HRB5.out.row.alloc _) (by omega) (Nat.le_trans HRB5.out.bel.size (World.grownBy_alloc w5 (.cells #[.slice lo x.1.length lc, .slice as5 (CL.mrg x.2 y.2).length cs5] 38) none).size)
            have hbel6 : Below w5.heap.size w5 (w5.alloc (.cells #[.slice lo x.1.length lc, .slice as5 (CL.mrg x.2 y.2).length cs5] 38)) := (Below.refl _ w5).alloc (Nat.le_refl _) _
            have H7 := hid ((HRB5.out.below hbel6).push (x := (x.1, CL.mrg x.2 y.2)) (.inl ⟨lo, lc, rfl, HLx.out⟩) (.inr (HO5.out.alloc _)) k1 k2)
            have hbw5 : ba < w5.heap.size := World.block_lt_of_cell? _ _ g0
            have hbbw5 : bb < w5.heap.size := World.block_lt_of_cell? _ _ g2
            have m0 := (hbel6.cell (p := ⟨ba, oa, none⟩) hbw5).trans g0
            have m1 := (hbel6.cell (p := ⟨ba, oa + 1, none⟩) hbw5).trans g1
            have m2 := (hbel6.cell (p := ⟨bb, ob + 1, none⟩) hbbw5).trans g2
            have hnea : (Value.slice a5 d.length c5).ownBlock ≠ some ba := fun e => by have := (HRB0.out.row.lt ba e).1; omega
            have hneb : (Value.slice a5 d.length c5).ownBlock ≠ some bb := fun e => by have := (HRB0.out.row.lt bb e).1; omega
            have n0 : w7.cell? ⟨ba, oa, none⟩ = some (.slice lo x.1.length lc) := k2.cell m0 (fun e => hnea e.symm)
            have n1 : w7.cell? ⟨ba, oa + 1, none⟩ = some (.slice so x.2.length sc) := k2.cell m1 (fun e => hnea e.symm)
            have n2 : w7.cell? ⟨bb, ob + 1, none⟩ = some (.slice so2 y.2.length sc2) := k2.cell m2 (fun e => hneb e.symm)
            obtain ⟨a7, c7, e7⟩ := own_slice k1
            subst e7
            clear k1 k2 k3 hbel6 hnea hneb
            go_wp2_with fail
            refine SeqQ.on (C := fun W => (W.cell? ⟨ba, oa, none⟩ = some (.slice lo x.1.length lc) ∧ W.cell? ⟨ba, oa + 1, none⟩ = some (.slice so x.2.length sc)) ∧ W.cell? ⟨bb, ob + 1, none⟩ = some (.slice so2 y.2.length sc2)) ⟨⟨g0, g1⟩, g2⟩ ?_
            go_wp2_with fail
            refine SeqQ.on (C := fun W => (W.cell? ⟨ba, oa, none⟩ = some (.slice lo x.1.length lc) ∧ W.cell? ⟨ba, oa + 1, none⟩ = some (.slice so x.2.length sc)) ∧ W.cell? ⟨bb, ob + 1, none⟩ = some (.slice so2 y.2.length sc2)) ⟨⟨g0, g1⟩, g2⟩ ?_
            go_wp2_with fail
            refine SeqQ.on (C := fun W => (W.cell? ⟨ba, oa, none⟩ = some (.slice lo x.1.length lc) ∧ W.cell? ⟨ba, oa + 1, none⟩ = some (.slice so x.2.length sc)) ∧ W.cell? ⟨bb, ob + 1, none⟩ = some (.slice so2 y.2.length sc2)) ⟨⟨m0, m1⟩, m2⟩ ?_
            go_wp2_with (at_builtin; refine Lib.wpList_append_run _ rfl _ _ _ _ rfl _ _ rfl rfl _ _ hrun ?_)
            refine SeqQ.on (C := fun W => (W.cell? ⟨ba, oa, none⟩ = some (.slice lo x.1.length lc) ∧ W.cell? ⟨ba, oa + 1, none⟩ = some (.slice so x.2.length sc)) ∧ W.cell? ⟨bb, ob + 1, none⟩ = some (.slice so2 y.2.length sc2)) ⟨⟨n0, n1⟩, n2⟩ ?_
            go_wp2_with fail
            refine SeqQ.done (C := fun W => (W.cell? ⟨ba, oa, none⟩ = some (.slice lo x.1.length lc) ∧ W.cell? ⟨ba, oa + 1, none⟩ = some (.slice so x.2.length sc)) ∧ W.cell? ⟨bb, ob + 1, none⟩ = some (.slice so2 y.2.length sc2)) ⟨⟨n0, n1⟩, n2⟩ ?_
            go_wp2_with fail
            go_quiet (fail)
            go_wp2_with fail
            refine ⟨?rel, ?measure⟩
            case rel => exact ⟨a2, b2, d ++ [(x.1, CL.mrg x.2 y.2)], Aa, Ab, ca' - 1, cb' - 1, _, rfl, rfl, by omega, by omega, by simp; omega, by rw [HM.out, HD.jn_eq x y a2 b2 HCmE.out]; simp, HSa2.out, HSb2.out, fun h => absurd h (ne_noneS hAa), fun h => absurd h (ne_noneS hAb), fun z hz => HFa'.out z (by simp [hz]), fun z hz => HFb'.out z (by simp [hz]), HKa2.out, HKb2.out, H7.out.below (lbelow_drewN (Below.refl _ _) _)⟩
            case measure => simp [lenV]; omega

end Go.Proofs.YtdmnlmohfaafoaeDoor
