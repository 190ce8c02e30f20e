/- A region that draws its order, in phases: what only reads, then what stands alone, and so on. What asker.tell tells: what the source tells, of matchers of its own. -/
import Derived.Test.YtdmnlmohfaafoaeGreatDoorPEEwBoth
import Derived.Test.YtdmnlmohfaafoaeGreatDoorPEEwClone
import Derived.Test.YtdmnlmohfaafoaeGreatDoorPEEvAsk
import Derived.Laws.EntriesVeiled
import Derived.Recover
namespace Go.Proofs.YtdmnlmohfaafoaeGreatDoor
open Go.RowKit

section
variable {P : Program} {ops : Array Oper} {C : World → Prop} {Q : Exit → Act → World → Prop}

/-- What is asked where the phases before are done. -/
def PhQ (P : Program) (ops : Array Oper) (C : World → Prop) (Q : Exit → Act → World → Prop) : List (List Oper × List Oper) → Exit → Act → World → Prop
  | [], .normal, a, w => C w ∧ Q .normal a w
  | p :: ps, .normal, a, w => takes P C p.1 (fun a => SeqQ P ops C (PhQ P ops C Q ps) p.2 .normal a w) a
  | _, e, a, w => Q e a w

theorem PhQ.outs {ps : List (List Oper × List Oper)} (h : LetsOut (PhQ P ops C Q ps)) : LetsOut Q := by
  obtain ⟨a, w, h⟩ := h
  cases ps <;> exact ⟨a, w, h⟩

theorem PhQ.exits {o : Oper} {ps : List (List Oper × List Oper)} {a : Act} {w : World} {K : Act → World → Prop} (h : o.wp P a w K (PhQ P ops C Q ps)) : o.wp P a w K Q := by
  unfold Oper.wp at *
  generalize (execOp a.eval o).run P w = r at *
  cases r with
  | ok n w' =>
    cases n <;> simp only [Oper.upon] at h ⊢ <;>
      first
        | exact h
        | exact Calls.mono h (fun e w'' he => by
            cases e with
            | returned u => exact he
            | panicked c => cases ps <;> exact he
            | outgrown => exact PhQ.outs he)
  | halt x w' =>
    cases x <;> simp only [Oper.upon] at h ⊢ <;>
      first
        | exact h
        | (cases ps <;> exact h)

def takeK (ops : Array Oper) (k : Array Bool → Bool) : List Nat → Array Bool → Bool
  | [], l => k l
  | i :: is, l => Region.free .any ops l i && (Region.ready .any ops l).contains i && takeK ops k is (l.setIfInBounds i true)
def soloK (ops : Array Oper) (k : Array Bool → Bool) : List Nat → Array Bool → Bool
  | [], l => k l
  | j :: js, l => decide (Region.ready .any ops l = [j]) && soloK ops k js (l.setIfInBounds j true)
/-- What the kernel reckons of the region. -/
def phB (ops : Array Oper) : List (List Nat × List Nat) → Array Bool → Bool
  | [], l => decide (Region.ready .any ops l = [])
  | p :: ps, l => takeK ops (soloK ops (phB ops ps) p.2) p.1 l
def phN : List (List Nat × List Nat) → Nat
  | [] => 0
  | p :: ps => p.1.length + (p.2.length + phN ps)

def phsAt (ops : Array Oper) : List (List Nat × List Nat) → List (List Oper × List Oper) → Prop
  | [], [] => True
  | p :: ps, o :: os => opsAt ops p.1 o.1 ∧ opsAt ops p.2 o.2 ∧ phsAt ops ps os
  | _, _ => False

theorem ph_one {o : Oper} {os : List Oper} {qs : List (List Oper × List Oper)} {i fuel : Nat} {listed : Array Bool} {a : Act} {w : World} (hi : ops[i]? = some o) (hg : o.guard = none) (hr : Region.ready .any ops listed = [i]) (hC : C w)
    (hk : ∀ a w, SeqQ P ops C (PhQ P ops C Q qs) os .normal a w → anyC P .any ops C Q fuel (listed.setIfInBounds i true) a w) (h : wpList P ops (SeqQ P ops C (PhQ P ops C Q qs) os) [o] a w) : anyC P .any ops C Q (fuel + 1) listed a w := by
  refine ⟨hC, fun h1 => (by rw [hr] at h1; cases h1), fun j hj => ?_⟩
  rw [hr] at hj
  have hij : j = i := by simpa using hj
  subst hij
  have hw : Region.wanted o (yielded ops a.tmps) = true := by unfold Region.wanted; rw [hg]
  unfold wpOp
  simp only [hi, hw, if_true]
  simp only [wpList, hw, if_true] at h
  exact h.imp (fun h => PhQ.exits (SeqQ.exits (os := os) (Oper.wp_mono hk h))) (fun h => ⟨h.1, PhQ.outs (SeqQ.outs h.2)⟩)

theorem ph_solo {qs : List (List Oper × List Oper)} {n : Nat} {k : Array Bool → Bool} (ih : ∀ (l : Array Bool) (a : Act) (w : World), C w → k l = true → PhQ P ops C Q qs .normal a w → anyC P .any ops C Q n l a w) : ∀ {js : List Nat} {os : List Oper} {l : Array Bool} {a : Act} {w : World}, opsAt ops js os → soloK ops k js l = true → SeqQ P ops C (PhQ P ops C Q qs) os .normal a w → anyC P .any ops C Q (js.length + n) l a w
  | [], [], l, a, w, _, hB, h => by
    rw [List.length_nil, Nat.zero_add]
    exact ih l a w h.1 hB h.2
  | j :: js, o :: os, l, a, w, ho, hB, h => by
    obtain ⟨h1, h2, h3⟩ := ho.cons
    simp only [soloK, Bool.and_eq_true, decide_eq_true_eq] at hB
    have e : (j :: js).length + n = js.length + n + 1 := by simp; omega
    rw [e]
    exact ph_one h1 h2 hB.1 h.1 (fun a w h => ph_solo ih h3 hB.2 h) h.2
  | [], o :: os, l, a, w, ho, _, _ => by have := ho.1; simp at this
  | j :: js, [], l, a, w, ho, _, _ => by have := ho.1; simp at this

theorem ph_take (hs : Region.noSelect ops = true) (hQ : ∀ c a w, ¬ Q (.panic c) a w) {n : Nat} {k : Array Bool → Bool} {K : Act → Prop} {w : World} (ih : ∀ (l : Array Bool) (a : Act), k l = true → K a → anyC P .any ops C Q n l a w) : ∀ {is : List Nat} {os : List Oper} {l : Array Bool} {a : Act}, opsAt ops is os → takeK ops k is l = true → takes P C os K a → anyC P .any ops C Q (is.length + n) l a w
  | [], [], l, a, _, hB, h => by
    rw [List.length_nil, Nat.zero_add]
    exact ih l a hB h
  | i :: is, o :: os, l, a, ho, hB, h => by
    obtain ⟨h1, h2, h3⟩ := ho.cons
    simp only [takeK, Bool.and_eq_true] at hB
    obtain ⟨v, hy, hk⟩ := h
    have e : (i :: is).length + n = is.length + n + 1 := by simp; omega
    rw [e]
    exact anyC.take h1 h2 hs hB.1.1 hB.1.2 hQ hy (ph_take hs hQ ih h3 hB.2 hk)
  | [], o :: os, l, a, ho, _, _ => by have := ho.1; simp at this
  | i :: is, [], l, a, ho, _, _ => by have := ho.1; simp at this

theorem ph_any (hs : Region.noSelect ops = true) (hQ : ∀ c a w, ¬ Q (.panic c) a w) : ∀ {ps : List (List Nat × List Nat)} {os : List (List Oper × List Oper)} {l : Array Bool} {a : Act} {w : World}, phsAt ops ps os → phB ops ps l = true → PhQ P ops C Q os .normal a w → anyC P .any ops C Q (phN ps) l a w
  | [], [], l, a, w, _, hB, h => ⟨h.1, by simpa [phB] using hB, h.2⟩
  | p :: ps, o :: os, l, a, w, ho, hB, h => by
    obtain ⟨h1, h2, h3⟩ := ho
    exact ph_take hs hQ (k := soloK ops (phB ops ps) p.2) (fun l a hk hK => ph_solo (k := phB ops ps) (fun l a w _ hb hq => ph_any hs hQ h3 hb hq) h2 hk hK) h1 hB h
  | [], _ :: _, _, _, _, ho, _, _ => ho.elim
  | _ :: _, [], _, _, _, ho, _, _ => ho.elim

/-- The operations of these numbers. -/
def phOps (ops : Array Oper) (ps : List (List Nat × List Nat)) : List (List Oper × List Oper) := ps.map fun p => (p.1.filterMap fun i => ops[i]?, p.2.filterMap fun i => ops[i]?)
def phPlain (ops : Array Oper) (ps : List (List Nat × List Nat)) : Bool := ps.all fun p => plainB ops p.1 && plainB ops p.2

theorem phsAt_of : ∀ {ps : List (List Nat × List Nat)}, phPlain ops ps = true → phsAt ops ps (phOps ops ps)
  | [], _ => trivial
  | p :: ps, h => by
    simp only [phPlain, List.all_cons, Bool.and_eq_true] at h
    exact ⟨opsAt_of h.1.1, opsAt_of h.1.2, phsAt_of h.2⟩

/-- The law. -/
theorem wp_region_ph {id : Nat} {a : Act} {w : World} (C : World → Prop) (ps : List (List Nat × List Nat)) (hm : P.follows .mixedOrders = true) (hB : (Region.noSelect ops && phB ops ps (Array.replicate ops.size false) && decide (phN ps = ops.size) && phPlain ops ps) = true)
    (h : PhQ P ops C (OnlyC Q) (phOps ops ps) .normal a w.drew) : (Code.region id ops true).wp P Q a w := by
  simp only [Bool.and_eq_true, decide_eq_true_eq] at hB
  obtain ⟨⟨⟨h1, h2⟩, h3⟩, h4⟩ := hB
  refine Code.wp_mono (Q := OnlyC Q) (fun e a w h => by obtain ⟨rfl, h⟩ := h; exact h) (wp_region_any hm ?_)
  have := ph_any (Q := OnlyC Q) h1 (fun _ _ _ h => nomatch h.1) (phsAt_of h4) h2 h
  rw [h3] at this
  exact this.any

theorem PhQ.off {o : Oper} {os : List Oper} {qs : List (List Oper × List Oper)} {a : Act} {w : World} (hC : C w) (h : wpList P ops (SeqQ P ops C (PhQ P ops C Q qs) os) [o] a w) : takes P C [] (fun a => SeqQ P ops C (PhQ P ops C Q qs) (o :: os) .normal a w) a := ⟨hC, h⟩
theorem PhQ.next {p : List Oper × List Oper} {qs : List (List Oper × List Oper)} {a : Act} {w : World} (hC : C w) (h : takes P C p.1 (fun a => SeqQ P ops C (PhQ P ops C Q qs) p.2 .normal a w) a) : SeqQ P ops C (PhQ P ops C Q (p :: qs)) [] .normal a w := ⟨hC, h⟩
theorem PhQ.done {a : Act} {w : World} (hC : C w) (h : Q .normal a w) : SeqQ P ops C (PhQ P ops C (OnlyC Q) []) [] .normal a w := ⟨hC, hC, rfl, h⟩
theorem PhQ.over {a : Act} {w : World} (hC : C w) (h : Q .normal a w) : takes P C [] (fun a => SeqQ P ops C (PhQ P ops C (OnlyC Q) []) [] .normal a w) a := ⟨hC, hC, rfl, h⟩

end

end Go.Proofs.YtdmnlmohfaafoaeGreatDoor

namespace Go.Proofs.YtdmnlmohfaafoaeGreatDoor
open Go.RowKit Go.Shelf

/-- An asker in memory. -/
def AkI (W : World) (ba bx : Nat) (t left : Int) : Prop := W.heap[ba]? = some (.cells #[.int .i64 t, .func (.func 79) #[] #[.pointer (some ⟨bx, 0, none⟩)], .int .i64 left] 138)

theorem AkI.below {W W' : World} {ba bx : Nat} {t left : Int} (h : AkI W ba bx t left) (k : Below W.heap.size W W') : AkI W' ba bx t left := (k.block _ (heap_lt h)).trans h

set_option maxRecDepth 100000 in
theorem tellIdle_any (p q : Addr) (w : World) :
    CallsD Tryz.prog 173 #[.pointer (some p), .pointer (some q)] .returning w fun e u' w' => e = .returned (.tuple #[]) ∧ u' = .returning ∧ w' = w := by
  refine callsD_of_wpS Tryz.func173 rfl fun c₀ cs hu => ?_
  apply wpS_seq
  apply wpS_region
  simp [wpOpsS, go_sem, recoverD, hu, Tryz.ntmps173, Exit.thenS]
  refine wpS_of_wp (Code.wp_mono (Q := fun e a' w' => (e = .normal ∨ e = .ret) ∧ a'.defers = [] ∧ w' = w) ?_ ?_)
  · rintro e a' w' ⟨he, hd, rfl⟩
    have hc : ({ c₀ with mode := .returning } : Frame) = c₀ := by cases c₀; simp_all
    rcases he with rfl | rfl
    · exact ⟨hd, .returning, by rw [hc], _, results_none rfl _ _ _, rfl, rfl, rfl⟩
    · exact ⟨hd, .returning, by rw [hc], _, results_none rfl _ _ _, rfl, rfl, rfl⟩
  · show Code.wp _ _ _ { tmps := #[.pointer (some p), .pointer (some q), .nilIface, .bool false, undef], defers := [] } w
    go_wp2_with fail

theorem results_tell (tmps : Array Value) (w : World) (g g2 : Nat) (so : Option Addr) (n c : Nat) (hp : tmps.getD 6 undef = .pointer (some ⟨g, 0, none⟩)) (hp2 : tmps.getD 7 undef = .pointer (some ⟨g2, 0, none⟩)) (hg : w.heap[g]? = some (.cells #[.slice so n c] 22)) (hg2 : w.heap[g2]? = some (.cells #[.nilIface] 30)) : (results Tryz.f137 tmps).run Tryz.prog w = .ok (.tuple #[.slice so n c, .nilIface]) w := by
  have hp' : tmps[6]?.getD undef = .pointer (some ⟨g, 0, none⟩) := by simpa using hp
  have hp2' : tmps[7]?.getD undef = .pointer (some ⟨g2, 0, none⟩) := by simpa using hp2
  have hc : w.cell? ⟨g, 0, none⟩ = some (.slice so n c) := zcell' _ _ _ _ hg 0 _ rfl
  have hc2 : w.cell? ⟨g2, 0, none⟩ = some .nilIface := zcell' _ _ _ _ hg2 0 _ rfl
  have hl : (loadVar 22 ⟨g, 0, none⟩).run Tryz.prog w = .ok (.slice so n c) w := by
    simp [go_sem, loadVar, hc]
  have hl2 : (loadVar 30 ⟨g2, 0, none⟩).run Tryz.prog w = .ok .nilIface w := by
    simp [go_sem, loadVar, hc2]
  simp [results, hp', hp2', asAddr, hl, hl2]

theorem ak_ldF (ba bx : Nat) (t left : Int) (w : World) (h : AkI w ba bx t left) : (Instr.loadAt 95 (.pointer (some ⟨ba, 1, none⟩))).run Tryz.prog w = .ok (.func (.func 79) #[] #[.pointer (some ⟨bx, 0, none⟩)]) w := by
  have hc : w.cell? ⟨ba, 1, none⟩ = some (.func (.func 79) #[] #[.pointer (some ⟨bx, 0, none⟩)]) := zcell' _ _ _ _ h 1 _ rfl
  have hs : (Tryz.prog.info? 95).map (·.size) = some 1 := by kernel_rfl
  go_simp
theorem ak_ldT (ba bx : Nat) (t left : Int) (w : World) (h : AkI w ba bx t left) : (Instr.loadAt 2 (.pointer (some ⟨ba, 0, none⟩))).run Tryz.prog w = .ok (.int .i64 t) w := by
  have hc : w.cell? ⟨ba, 0, none⟩ = some (.int .i64 t) := zcell' _ _ _ _ h 0 _ rfl
  have hs : (Tryz.prog.info? 2).map (·.size) = some 1 := by kernel_rfl
  go_simp
theorem ak_fa1 (w : World) (b : Nat) : (Instr.fieldAt 138 (.pointer (some ⟨b, 0, none⟩)) 1).run Tryz.prog w = .ok (.pointer (some ⟨b, 1, none⟩)) w := by
  go_simp
theorem ak_fa0 (w : World) (b : Nat) : (Instr.fieldAt 138 (.pointer (some ⟨b, 0, none⟩)) 0).run Tryz.prog w = .ok (.pointer (some ⟨b, 0, none⟩)) w := by
  go_simp

set_option maxRecDepth 100000 in
set_option maxHeartbeats 6400000 in
theorem tell_any (ba bx : Nat) (t left f : Int) (mv : Value) (m : List LB.Mat) (ao : Option Addr) (S : List Sr) (cap : Nat) (w : World) (hA : AkI w ba bx t left) (hM : OwnM w 0 mv m) (hm : m.length ≤ 1000) (hbx : w.cell? ⟨bx, 0, none⟩ = some (.slice ao S.length cap)) (hS : SrOut w NoZ ao S) (hK : Askd S) :
    Calls Tryz.prog 137 #[.pointer (some ⟨ba, 0, none⟩), mv, .int .i64 f] w fun e w' => ∃ so sc, e = .returned (.tuple #[.slice so (EV.src S m f t).length sc, .nilIface]) ∧ SrOut w' NoZ so (EV.src S m f t) ∧ Below w.heap.size w w' := by
  have hmf : ∀ (fn : Fn) (first cap : Array Value) (w : World), (Instr.makeFunc fn first cap).run Tryz.prog w = .ok (.func fn first cap) w := fun _ _ _ _ => rfl
  have HA := hid hA
  have HM := hid hM
  have HX := hid hbx
  have HS := hid hS
  have HK := hid hK
  have hal : Below w.heap.size w ((w.alloc (.cells #[.slice none 0 0] 22)).alloc (.cells #[.nilIface] 30)) := ((Below.refl _ w).alloc (Nat.le_refl _) _).alloc (by simp) _
  have HB0 := hid hal
  have HL0 : Hid (((w.alloc (.cells #[.slice none 0 0] 22)).alloc (.cells #[.nilIface] 30)).heap[w.heap.size]? = some (.cells #[.slice none 0 0] 22)) := by
    show _ = _
    rw [Below.heap_alloc _ _ _ (by simp)]
    exact heap_alloc_new w _
  have HE0 : Hid (((w.alloc (.cells #[.slice none 0 0] 22)).alloc (.cells #[.nilIface] 30)).heap[w.heap.size + 1]? = some (.cells #[.nilIface] 30)) := by
    show _ = _
    have := heap_alloc_new (w.alloc (.cells #[.slice none 0 0] 22)) (.cells #[.nilIface] 30)
    simpa using this
  obtain ⟨mo, mc, em⟩ := own_slice hM
  subst em
  clear hA hM hbx hS hK hal
  have heq : ∀ W : World, (binOp .eql 95 (.func (.func 79) #[] #[.pointer (some ⟨bx, 0, none⟩)]) .nilFunc).run Tryz.prog W = .ok (.bool false) W := fun W => by kernel_rfl
  go_enter_defers Tryz.func137, Tryz.ntmps137
  have a1 : ((w.alloc (.cells #[.slice none 0 0] 22)).alloc (.cells #[.nilIface] 30)).cell? ⟨ba, 1, none⟩ = some (.func (.func 79) #[] #[.pointer (some ⟨bx, 0, none⟩)]) := zcell' _ _ _ _ (HA.out.below HB0.out) 1 _ rfl
  go_wp2_with fail
  generalize (w.alloc (.cells #[.slice none 0 0] 22)).alloc (.cells #[.nilIface] 30) = w1 at *
  have hdr : Below w1.heap.size w1 w1.drew := (Below.refl _ w1).drew
  have HB1 := hid (bel2 HB0.out hdr)
  have HA1 := hid (HA.out.below HB1.out)
  have HL1 := hid ((hdr.block _ (heap_lt HL0.out)).trans HL0.out)
  have HE1 := hid ((hdr.block _ (heap_lt HE0.out)).trans HE0.out)
  clear hdr a1 HL0 HE0 HB0
  refine wp_region_ph (fun W => AkI W ba bx t left) [([0, 1, 2, 3, 4, 6, 7, 8, 9, 10], [5, 11]), ([12, 13], [14, 15])] (by kernel_rfl) (by kernel_rfl) ?_
  simp only [PhQ, phOps, List.map_cons, List.map_nil, List.filterMap_cons, List.filterMap_nil, List.getElem?_toArray, List.getElem?_cons_zero, List.getElem?_cons_succ]
  refine takes.on (v := .pointer (some ⟨ba, 0, none⟩)) (YC.move rfl (by kernel_rfl)) ?_
  refine takes.on (v := .pointer (some ⟨ba, 0, none⟩)) (fun W _ => .inl (by kernel_rfl)) ?_
  refine takes.on (YC.field rfl (by kernel_rfl) (fun W => ak_fa1 W ba)) ?_
  refine takes.on (YC.load rfl (by kernel_rfl) fun W hW => ak_ldF ba bx t left W hW) ?_
  refine takes.on (v := .slice mo m.length mc) (YC.move rfl (by kernel_rfl)) ?_
  refine takes.on (v := .int .i64 f) (YC.move rfl (by kernel_rfl)) ?_
  refine takes.on (v := .pointer (some ⟨ba, 0, none⟩)) (YC.move rfl (by kernel_rfl)) ?_
  refine takes.on (v := .pointer (some ⟨ba, 0, none⟩)) (fun W _ => .inl (by kernel_rfl)) ?_
  refine takes.on (YC.field rfl (by kernel_rfl) (fun W => ak_fa0 W ba)) ?_
  refine takes.on (YC.load rfl (by kernel_rfl) fun W hW => ak_ldT ba bx t left W hW) ?_
  refine PhQ.off (C := fun W => AkI W ba bx t left) HA1.out ?_
  go_frame
  go_wp2_with fail
  refine (cloneM_any (.slice mo m.length mc) m w1.drew (krow_kept HM.out fun g _ hg => HB1.out.block g (heap_lt hg)) (by omega)).mono ?_
  rintro e w2 ⟨mo2, mc2, rfl, hM2, hb2⟩
  have HB2 := hid (bel2 HB1.out hb2)
  have HA2 := hid (HA1.out.below hb2)
  have HL2 := hid ((hb2.block _ (heap_lt HL1.out)).trans HL1.out)
  have HE2 := hid ((hb2.block _ (heap_lt HE1.out)).trans HE1.out)
  have HM2 := hid hM2
  clear hM2 hb2 HA1 HL1 HE1 HB1
  go_wp2_with fail
  refine SeqQ.on (C := fun W => AkI W ba bx t left) HA2.out ?_
  go_wp2_with fail
  have hx2 : w2.cell? ⟨bx, 0, none⟩ = some (.slice ao S.length cap) := (HB2.out.cell (p := ⟨bx, 0, none⟩) (World.block_lt_of_cell? _ _ HX.out)).trans HX.out
  have hS2 : SrOut w2 (fun j => j = w.heap.size ∨ j = w.heap.size + 1) ao S := (HS.out.wide (Z' := fun j => j = w.heap.size ∨ j = w.heap.size + 1) (fun j h => .inr (by omega))).kept (ZFr.below HB2.out)
  refine (esrc_any bx ao mo2 S m cap mc2 f t w2 hx2 hS2 HM2.out HK.out.few HK.out.each hm).mono ?_
  rintro e w3 ⟨v, rfl, xs, hRB⟩
  have hlt2 := heap_lt HE2.out
  obtain ⟨so, sc, ev, hSo⟩ := hRB.out (fun j hj => by omega)
  subst ev
  have HB3 := hid (bel2 HB2.out hRB.bel)
  have HA3 := hid (HA2.out.below hRB.bel)
  have hL3 := (hRB.bel.block _ (heap_lt HL2.out)).trans HL2.out
  have hE3 := (hRB.bel.block _ (heap_lt HE2.out)).trans HE2.out
  have HL3 := hid hL3
  have HE3 := hid hE3
  have HSo := hid hSo
  have l0 : w3.cell? ⟨w.heap.size, 0, none⟩ = some (.slice none 0 0) := zcell' _ _ _ _ hL3 0 _ rfl
  have e0 : w3.cell? ⟨w.heap.size + 1, 0, none⟩ = some .nilIface := zcell' _ _ _ _ hE3 0 _ rfl
  have z0 := hfz hL3 0
  have z1 := hfz hE3 0
  have hbal : ba ≠ w.heap.size := fun e => by have := heap_lt HA.out; omega
  have hbae : ba ≠ w.heap.size + 1 := fun e => by have := heap_lt HA.out; omega
  clear hx2 hS2 hlt2 hRB hSo HB2 HA2 HL2 HE2 hL3 hE3
  generalize hLn : (EV.src S m f t).length = ln at *
  have HLn := hid hLn
  clear hLn
  go_wp2_with fail
  refine PhQ.next (C := fun W => AkI W ba bx t left) HA3.out ?_
  refine takes.on (v := .slice so ln sc) (fun W _ => .inl (by kernel_rfl)) ?_
  refine takes.on (v := .nilIface) (fun W _ => .inl (by kernel_rfl)) ?_
  refine PhQ.off (C := fun W => AkI W ba bx t left) HA3.out ?_
  go_frame
  go_wp2_with fail
  have HA4 : Hid (AkI (w3.setCell ⟨w.heap.size, 0, none⟩ (.slice so ln sc)) ba bx t left) := (Below.heap_setCell w3 ⟨w.heap.size, 0, none⟩ _ ba hbal).trans HA3.out
  have hne1 : w.heap.size + 1 ≠ w.heap.size := by omega
  have hE4 : (w3.setCell ⟨w.heap.size, 0, none⟩ (.slice so ln sc)).heap[w.heap.size + 1]? = some (.cells #[.nilIface] 30) := (Below.heap_setCell w3 ⟨w.heap.size, 0, none⟩ _ _ hne1).trans HE3.out
  have e4 : (w3.setCell ⟨w.heap.size, 0, none⟩ (.slice so ln sc)).cell? ⟨w.heap.size + 1, 0, none⟩ = some .nilIface := zcell' _ _ _ _ hE4 0 _ rfl
  have z4 := hfz hE4 0
  have HA5 : Hid (AkI ((w3.setCell ⟨w.heap.size, 0, none⟩ (.slice so ln sc)).setCell ⟨w.heap.size + 1, 0, none⟩ .nilIface) ba bx t left) := (Below.heap_setCell _ ⟨w.heap.size + 1, 0, none⟩ _ ba hbae).trans HA4.out
  have HL5 : Hid (((w3.setCell ⟨w.heap.size, 0, none⟩ (.slice so ln sc)).setCell ⟨w.heap.size + 1, 0, none⟩ .nilIface).heap[w.heap.size]? = some (.cells #[.slice so ln sc] 22)) := (Below.heap_setCell _ ⟨w.heap.size + 1, 0, none⟩ _ _ (fun e => hne1 e.symm)).trans (heap_setCell_same w3 _ 0 _ _ _ HL3.out)
  have HE5 : Hid (((w3.setCell ⟨w.heap.size, 0, none⟩ (.slice so ln sc)).setCell ⟨w.heap.size + 1, 0, none⟩ .nilIface).heap[w.heap.size + 1]? = some (.cells #[.nilIface] 30)) := heap_setCell_same _ _ 0 _ _ _ hE4
  have HZ5 : Hid (ZFr (fun j => j = w.heap.size ∨ j = w.heap.size + 1) w3 ((w3.setCell ⟨w.heap.size, 0, none⟩ (.slice so ln sc)).setCell ⟨w.heap.size + 1, 0, none⟩ .nilIface)) := ⟨rfl, rfl, rfl, by rw [set_size, set_size]; exact Nat.le_refl _, fun j _ hn => (Below.heap_setCell _ ⟨w.heap.size + 1, 0, none⟩ _ j (fun e => hn (.inr e))).trans (Below.heap_setCell _ ⟨w.heap.size, 0, none⟩ _ j (fun e => hn (.inl e)))⟩
  have HB5 := hid ((HB3.out.setCell (p := ⟨w.heap.size, 0, none⟩) (Nat.le_refl _) (.slice so ln sc)).setCell (p := ⟨w.heap.size + 1, 0, none⟩) (Nat.le_succ _) .nilIface)
  clear hE4
  refine SeqQ.on (C := fun W => AkI W ba bx t left) HA4.out ?_
  go_wp2_with fail
  refine PhQ.done (C := fun W => AkI W ba bx t left) HA5.out ?_
  go_wp2_with fail
  refine leaves_cons (f := 173) (args := #[.pointer (some ⟨w.heap.size, 0, none⟩), .pointer (some ⟨w.heap.size + 1, 0, none⟩)]) (by simp) (by simp [go_sem]) ?_
  refine (tellIdle_any ⟨w.heap.size, 0, none⟩ ⟨w.heap.size + 1, 0, none⟩ _).mono ?_
  rintro e u' w'' ⟨rfl, rfl, rfl⟩
  refine ⟨_, results_tell _ _ w.heap.size (w.heap.size + 1) so ln sc rfl rfl HL5.out HE5.out, ?_⟩
  exact ⟨so, sc, by rw [HLn.out], (HSo.out.kept HZ5.out).wide (fun j h => h.elim), HB5.out⟩

end Go.Proofs.YtdmnlmohfaafoaeGreatDoor

