/- What eval.Eval tells: EvalIs. -/
import Derived.Test.YtdmnlmohfaafoaeGreatDoorPEEwEval
namespace Go.Proofs.YtdmnlmohfaafoaeGreatDoor
open Go.RowKit Go.Shelf

theorem part_any (w0 : World) (ba bx : Nat) (t : Int) (ao : Option Addr) (S : List Sr) (cap : Nat) (hba : w0.heap.size ≤ ba) (hbx : w0.cell? ⟨bx, 0, none⟩ = some (.slice ao S.length cap)) (hS : SrOut w0 NoZ ao S) (hK : Askd S) (ht : -1099511627776 ≤ t ∧ t ≤ 1099511627776) {d : Nat} {q : AQ.Q} (h : AQ.OkW d q) : PartIs w0 ba bx t S q := by
  induction h with
  | num d n h h' =>
    intro vq W deep left hT hB hA hlf hdp
    obtain ⟨B, mv, bv, lv, rv, rfl, hb, hm, hx, hl, hr⟩ := hT
    simp only [AQ.parts] at hlf hdp ⊢
    have hE := partNum w0 ba bx B t deep left n 0 mv bv lv rv S W hba hB hA hb (by omega) (by omega)
    exact hE
  | pick d m h =>
    intro vq W deep left hT hB hA hlf hdp
    obtain ⟨B, mv, bv, lv, rv, rfl, hb, hm, hx, hl, hr⟩ := hT
    simp only [AQ.parts] at hlf hdp ⊢
    exact partOver w0 ba bx B t deep left 2 0 300 mv bv lv rv S m ao cap W hba hB hA hb hm (by have := h.1; omega) hbx hS hK (by omega) (by omega) ht (by omega) (by omega)
  | over d c m sp hc h hs =>
    intro vq W deep left hT hB hA hlf hdp
    obtain ⟨B, mv, bv, lv, rv, rfl, hb, hm, hx, hl, hr⟩ := hT
    simp only [AQ.parts] at hlf hdp ⊢
    have e : EV.ev (.mk c 0 m sp [] .none .none) t S = some (false, EV.pick c m sp t S) := by
      unfold EV.ev
      rw [if_neg (by omega), if_pos (by omega)]
    rw [e]
    exact partOver w0 ba bx B t deep left c 0 sp mv bv lv rv S m ao cap W hba hB hA hb hm (by have := h.1; omega) hbx hS hK (by omega) hs ht (by omega) (by omega)
  | of d e' c nm q hc hn hq he ih =>
    intro vq W deep left hT hB hA hlf hdp
    obtain ⟨B, mv, bv, lv, rv, rfl, hb, hm, hx, hl, hr⟩ := hT
    simp only [AQ.parts] at hlf hdp ⊢
    have e : EV.ev (.mk c 0 [] 0 nm q .none) t S = oneR c nm (EV.ev q t S) := by
      rw [EV.ev, if_neg (by omega), if_neg (by omega), if_pos (by omega)]
      unfold oneR
      rw [if_neg (by omega)]
    rw [e]
    have hE := partOne w0 ba bx B t deep left c 0 0 mv bv lv rv S nm q W hba hB hA hb hx (by have := hn.1; omega) hl ih (by omega) (ev_few hK t hq) (by omega) (by omega)
    rw [show left - ((1 + AQ.parts q + 0 : Nat) : Int) = left - 1 - AQ.parts q by omega]
    exact hE
  | neg d e' q hq he ih =>
    intro vq W deep left hT hB hA hlf hdp
    obtain ⟨B, mv, bv, lv, rv, rfl, hb, hm, hx, hl, hr⟩ := hT
    simp only [AQ.parts] at hlf hdp ⊢
    have e : EV.ev (.mk 12 0 [] 0 [] q .none) t S = oneR 12 [] (EV.ev q t S) := by
      rw [EV.ev, if_neg (by omega), if_neg (by omega), if_neg (by omega), if_pos rfl]
      unfold oneR
      rw [if_pos rfl]
      rfl
    rw [e]
    have hE := partOne w0 ba bx B t deep left 12 0 0 mv bv lv rv S [] q W hba hB hA hb hx (by simp) hl ih (by omega) (ev_few hK t hq) (by omega) (by omega)
    rw [show left - ((1 + AQ.parts q + 0 : Nat) : Int) = left - 1 - AQ.parts q by omega]
    exact hE
  | sum d e' f c l r hc hql he hqr hf ihl ihr =>
    intro vq W deep left hT hB hA hlf hdp
    obtain ⟨B, mv, bv, lv, rv, rfl, hb, hm, hx, hl, hr⟩ := hT
    simp only [AQ.parts] at hlf hdp ⊢
    have e : EV.ev (.mk c 0 [] 0 [] l r) t S = (EV.ev l t S).bind fun a => (EV.ev r t S).map fun b => EV.both c a b := by
      rw [EV.ev, if_neg (by omega), if_neg (by omega), if_neg (by omega), if_neg (by omega)]
    rw [e]
    have hE := partTwo w0 ba bx B t deep left c 0 0 mv bv lv rv S l r W hba hB hA hb hl hr ihl ihr (by omega) (ev_few hK t hql) (ev_few hK t hqr) (by omega) (by omega)
    rw [show left - ((1 + AQ.parts l + AQ.parts r : Nat) : Int) = left - 1 - AQ.parts l - AQ.parts r by omega]
    exact hE
  | prod d e' f c l r hc hql he hqr hf ihl ihr =>
    intro vq W deep left hT hB hA hlf hdp
    obtain ⟨B, mv, bv, lv, rv, rfl, hb, hm, hx, hl, hr⟩ := hT
    simp only [AQ.parts] at hlf hdp ⊢
    have e : EV.ev (.mk c 0 [] 0 [] l r) t S = (EV.ev l t S).bind fun a => (EV.ev r t S).map fun b => EV.both c a b := by
      rw [EV.ev, if_neg (by omega), if_neg (by omega), if_neg (by omega), if_neg (by omega)]
    rw [e]
    have hE := partTwo w0 ba bx B t deep left c 0 0 mv bv lv rv S l r W hba hB hA hb hl hr ihl ihr (by omega) (ev_few hK t hql) (ev_few hK t hqr) (by omega) (by omega)
    rw [show left - ((1 + AQ.parts l + AQ.parts r : Nat) : Int) = left - 1 - AQ.parts l - AQ.parts r by omega]
    exact hE

set_option maxRecDepth 100000 in
set_option maxHeartbeats 3200000 in
theorem eval_is : EvalIs := by
  intro W vq q t bx ao S cap hT hO hp ht hbx hS hK
  obtain ⟨va, ev⟩ := hT.ptr
  subst ev
  have hal : Below W.heap.size W (W.alloc (.cells #[.int .i64 t, .func (.func 79) #[] #[.pointer (some ⟨bx, 0, none⟩)], .int .i64 33554432] 138)) := (Below.refl _ W).alloc (Nat.le_refl _) _
  have HP := hid (part_any W W.heap.size bx t ao S cap (Nat.le_refl _) hbx hS hK ht hO (.pointer va) _ 131072 33554432 hT hal (heap_alloc_new W _) (by omega) (by omega))
  have HFw := hid (ev_few hK t hO)
  have HAl := hid hal
  have ht1 : ¬ t < -1099511627776 := by omega
  have ht2 : ¬ 1099511627776 < t := by omega
  have HBw := hid (But.low hal (But.refl W.heap.size _) (Nat.le_refl _))
  clear hT hO hp hbx hS hK hal ht
  go_enter Tryz.func44, Tryz.ntmps44
  go_wp2_with fail
  generalize W.alloc (.cells #[.int .i64 t, .func (.func 79) #[] #[.pointer (some ⟨bx, 0, none⟩)], .int .i64 33554432] 138) = W1 at *
  refine HP.out.mono ?_
  intro e w2 hE
  have HL2 := hid (But.low HAl.out hE.but (Nat.le_refl _))
  rcases hv : EV.ev q t S with _ | ⟨al, pts⟩
  · obtain ⟨ty, u, rfl⟩ := hE.bad hv
    have HV := hid hv
    clear hE hv HP
    have HL3 := hid (HL2.out.alloc HL2.out.size (.cells #[.slice none 0 0, .bool false] 140))
    go_wp2_with fail
    go_ret3
    rw [HV.out]
    exact ⟨fun _ _ e => (by cases e), fun _ => ⟨_, _, _, _, rfl⟩, HL3.out⟩
  · obtain ⟨v, rfl, hpv⟩ := hE.ok al pts hv
    have HV := hid hv
    have HF := hid (HFw.out _ hv)
    have HPV := hid hpv
    obtain ⟨po, pc, ev, _, _⟩ := hpv
    subst ev
    clear hE hv HP
    have hal : Below w2.heap.size w2 (w2.alloc (.cells #[.slice po pts.length pc, .bool al] 140)) := (Below.refl _ w2).alloc (Nat.le_refl _) _
    have HL3 := hid (HL2.out.trans (hal.mono HL2.out.size))
    have HPV3 := hid (HPV.out.below hal)
    have hX3 := heap_alloc_new w2 (.cells #[.slice po pts.length pc, .bool al] 140)
    have x0 : (w2.alloc (.cells #[.slice po pts.length pc, .bool al] 140)).cell? ⟨w2.heap.size, 0, none⟩ = some (.slice po pts.length pc) := zcell' _ _ _ _ hX3 0 _ rfl
    have x1 : (w2.alloc (.cells #[.slice po pts.length pc, .bool al] 140)).cell? ⟨w2.heap.size, 1, none⟩ = some (.bool al) := zcell' _ _ _ _ hX3 1 _ rfl
    clear hal hX3
    go_upto_region 5 with fail
    generalize w2.alloc (.cells #[.slice po pts.length pc, .bool al] 140) = w3 at *
    go_wp2_with fail
    go_quiet (fail)
    go_wp2_with fail
    go_ret3
    rw [HV.out]
    refine ⟨fun _ _ e => ?_, fun e => (by cases e), lbelow_drewN HL3.out nq⟩
    cases e
    obtain ⟨_, _, e2, hr, _⟩ := HPV3.out
    cases e2
    exact ⟨_, _, rfl, hr.below (lbelow_drewN (Below.refl _ w3) nq), by have := HF.out.len; simp only at this; omega, fun i hi => HF.out.lab _ (atP_mem hi)⟩

end Go.Proofs.YtdmnlmohfaafoaeGreatDoor

