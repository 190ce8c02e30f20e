/- What both tells: two results by a sign between them. -/
import Derived.Test.YtdmnlmohfaafoaeGreatDoorPEEwBoth
import Derived.Laws.EntriesVeiled
namespace Go.Proofs.YtdmnlmohfaafoaeGreatDoor
open Go.RowKit Go.Shelf

theorem flat_len {α : Type} (l : List α) (f : α → List EV.Pt) (k : Nat) (h : ∀ x ∈ l, (f x).length ≤ k) : (l.flatMap f).length ≤ l.length * k := by
  induction l with
  | nil => simp
  | cons x l ih =>
    rw [List.flatMap_cons, List.length_append, List.length_cons, Nat.succ_mul]
    have h1 := h x (by simp)
    have h2 := ih (fun y hy => h y (by simp [hy]))
    omega

theorem flat_snoc (l : List EV.Pt) (f : EV.Pt → List EV.Pt) (i : Nat) (h : i < l.length) : (l.take (i + 1)).flatMap f = (l.take i).flatMap f ++ f (atP l i) := by
  rw [take_P l i h, List.flatMap_append]
  simp

def sgA (c : Int) (b : List EV.Pt) (x : EV.Pt) : List EV.Pt := b.flatMap fun y => sg c y.1 x.2 y.2
def sgB (c : Int) (a : List EV.Pt) (y : EV.Pt) : List EV.Pt := a.flatMap fun x => sg c x.1 x.2 y.2

theorem sgA_len (c : Int) (b : List EV.Pt) (x : EV.Pt) : (sgA c b x).length ≤ b.length := by
  have := flat_len b (fun y => sg c y.1 x.2 y.2) 1 (fun y _ => sg_len _ _ _ _)
  unfold sgA
  omega
theorem sgB_len (c : Int) (b : List EV.Pt) (x : EV.Pt) : (sgB c b x).length ≤ b.length := by
  have := flat_len b (fun y => sg c y.1 y.2 x.2) 1 (fun y _ => sg_len _ _ _ _)
  unfold sgB
  omega

theorem both_eq (c : Int) (ax ay : Bool) (a b : List EV.Pt) : (EV.both c (ax, a) (ay, b)).2 = if ax = true then a.flatMap (sgA c b) else if ay = true then b.flatMap (sgB c a) else EV.prs c (a.length + b.length + 1) a b := rfl

/-- A new block is not the row's. -/
theorem PB.fresh {w0 W : World} {br : Nat} {v : Value} {al : Bool} {xs : List (Value × Value)} {pts : List EV.Pt} (h : PB w0 W br v al xs pts) {g : Nat} (hg : W.heap.size ≤ g) : v.ownBlock ≠ some g := fun e => by
  have := (h.row.lt g e).2
  omega

/-- Blocks, one behind the other. -/
def allocL (w : World) (os : List Obj) : World := os.foldl World.alloc w

theorem allocL_size : ∀ (os : List Obj) (w : World), (allocL w os).heap.size = w.heap.size + os.length
  | [], _ => rfl
  | o :: os, w => by
    show (allocL (w.alloc o) os).heap.size = _
    rw [allocL_size os]
    simp
    omega

theorem allocL_below : ∀ (os : List Obj) (w : World), Below w.heap.size w (allocL w os)
  | [], w => Below.refl _ w
  | o :: os, w => bel2 ((Below.refl _ w).alloc (Nat.le_refl _) o) (allocL_below os (w.alloc o))

theorem allocL_get : ∀ (os : List Obj) (w : World) (i : Nat) (o : Obj), os[i]? = some o → (allocL w os).heap[w.heap.size + i]? = some o
  | [], _, _, _, h => by simp at h
  | o' :: os, w, 0, o, h => by
    simp at h
    subst h
    show (allocL (w.alloc o') os).heap[w.heap.size]? = _
    rw [(allocL_below os (w.alloc o')).block _ (by simp)]
    exact heap_alloc_new w o'
  | o' :: os, w, i + 1, o, h => by
    have := allocL_get os (w.alloc o') i o (by simpa using h)
    show (allocL (w.alloc o') os).heap[w.heap.size + (i + 1)]? = _
    rw [show w.heap.size + (i + 1) = (w.alloc o').heap.size + i by simp; omega]
    exact this

/-- Where both begins: its boxes, one behind the other from n on. -/
structure B0 (w W : World) (c : Int) (vx vy : Value) (ax ay al : Bool) (bx by' ob br pb ba bc : Nat) : Prop where
  bel : Below w.heap.size w W
  x : W.heap[bx]? = some (.cells #[vx, .bool ax] 140)
  y : W.heap[by']? = some (.cells #[vy, .bool ay] 140)
  o : W.heap[ob]? = some (.cells #[.slice none 0 0, .bool false] 140)
  r : W.heap[br]? = some (.cells #[.slice none 0 0, .bool al] 140)
  sg : Sg W c bc ba pb br
  nx : bx ≠ br
  ny : by' ≠ br
  no : ob ≠ br
  gr : w.heap.size ≤ br
  go : w.heap.size ≤ ob

theorem b0_of (w : World) (c : Int) (vx vy : Value) (ax ay al : Bool) : B0 w (allocL w [.cells #[.int .i64 c] 3, .cells #[vx, .bool ax] 140, .cells #[vy, .bool ay] 140, .cells #[.slice none 0 0, .bool false] 140, .cells #[.slice none 0 0, .bool al] 140, .cells #[.pointer (some ⟨w.heap.size + 1 + 1 + 1 + 1, 0, none⟩)] 255, .cells #[.func (.func 175) #[] #[.pointer (some ⟨w.heap.size + 1 + 1 + 1 + 1 + 1, 0, none⟩)]] 215]) c vx vy ax ay al (w.heap.size + 1) (w.heap.size + 1 + 1) (w.heap.size + 1 + 1 + 1) (w.heap.size + 1 + 1 + 1 + 1) (w.heap.size + 1 + 1 + 1 + 1 + 1) (w.heap.size + 1 + 1 + 1 + 1 + 1 + 1) w.heap.size := by
  have g := fun i o h => allocL_get [.cells #[.int .i64 c] 3, .cells #[vx, .bool ax] 140, .cells #[vy, .bool ay] 140, .cells #[.slice none 0 0, .bool false] 140, .cells #[.slice none 0 0, .bool al] 140, .cells #[.pointer (some ⟨w.heap.size + 1 + 1 + 1 + 1, 0, none⟩)] 255, .cells #[.func (.func 175) #[] #[.pointer (some ⟨w.heap.size + 1 + 1 + 1 + 1 + 1, 0, none⟩)]] 215] w i o h
  exact ⟨allocL_below _ w, g 1 _ rfl, g 2 _ rfl, g 3 _ rfl, g 4 _ rfl, ⟨g 0 _ rfl, g 6 _ rfl, g 5 _ rfl⟩, by omega, by omega, by omega, by omega, by omega⟩

set_option maxRecDepth 100000 in
set_option maxHeartbeats 6400000 in
theorem bothA (c : Int) (xo yo : Option Addr) (a b : List EV.Pt) (ca cb : Nat) (ay : Bool) (w : World) (hc : 13 ≤ c ∧ c ≤ 16) (hxa : PRow w xo a) (hyb : PRow w yo b) (_hca : a.length ≤ ca) (_hcb : b.length ≤ cb) (hla : ∀ p ∈ a, p.1.length ≤ 1000) (hlb : ∀ p ∈ b, p.1.length ≤ 1000) (hna : a.length ≤ 1000) (hnb : b.length ≤ 1000) :
    Calls Tryz.prog 144 #[.int .i64 c, .agg #[.slice xo a.length ca, .bool true], .agg #[.slice yo b.length cb, .bool ay]] w fun e w' => RsEnd w w' e ay (a.flatMap (sgA c b)) := by
  have HXA := hid hxa
  have HYB := hid hyb
  have HLA := hid hla
  have HLB := hid hlb
  clear hxa hyb hla hlb
  generalize hRes : a.flatMap (sgA c b) = Res
  have HRes := hid hRes
  clear hRes
  go_enter Tryz.func144, Tryz.ntmps144
  go_wp2_with fail
  refine (adder_any (some ⟨w.heap.size + 1 + 1 + 1 + 1, 0, none⟩) _).mono ?_
  rintro e w4 ⟨rfl, h4⟩
  subst h4
  have HB0 : Hid (B0 w (((((((w.alloc (.cells #[.int .i64 c] 3)).alloc (.cells #[.slice xo a.length ca, .bool true] 140)).alloc (.cells #[.slice yo b.length cb, .bool ay] 140)).alloc (.cells #[.slice none 0 0, .bool false] 140)).alloc (.cells #[.slice none 0 0, .bool ay] 140)).alloc (.cells #[.pointer (some ⟨w.heap.size + 1 + 1 + 1 + 1, 0, none⟩)] 255)).alloc (.cells #[.func (.func 175) #[] #[.pointer (some ⟨w.heap.size + 1 + 1 + 1 + 1 + 1, 0, none⟩)]] 215)) c (.slice xo a.length ca) (.slice yo b.length cb) true ay ay (w.heap.size + 1) (w.heap.size + 1 + 1) (w.heap.size + 1 + 1 + 1) (w.heap.size + 1 + 1 + 1 + 1) (w.heap.size + 1 + 1 + 1 + 1 + 1) (w.heap.size + 1 + 1 + 1 + 1 + 1 + 1) w.heap.size) := b0_of w c (.slice xo a.length ca) (.slice yo b.length cb) true ay ay
  have h5 : (((((w.alloc (.cells #[.int .i64 c] 3)).alloc (.cells #[.slice xo a.length ca, .bool true] 140)).alloc (.cells #[.slice yo b.length cb, .bool ay] 140)).alloc (.cells #[.slice none 0 0, .bool false] 140)).alloc (.cells #[.slice none 0 0, .bool ay] 140)).heap.size = w.heap.size + 1 + 1 + 1 + 1 + 1 := by simp
  rw [h5]
  clear h5
  go_wp2_with fail
  generalize (((((((w.alloc (.cells #[.int .i64 c] 3)).alloc (.cells #[.slice xo a.length ca, .bool true] 140)).alloc (.cells #[.slice yo b.length cb, .bool ay] 140)).alloc (.cells #[.slice none 0 0, .bool false] 140)).alloc (.cells #[.slice none 0 0, .bool ay] 140)).alloc (.cells #[.pointer (some ⟨w.heap.size + 1 + 1 + 1 + 1, 0, none⟩)] 255)).alloc (.cells #[.func (.func 175) #[] #[.pointer (some ⟨w.heap.size + 1 + 1 + 1 + 1 + 1, 0, none⟩)]] 215)) = W7 at *
  generalize w.heap.size + 1 + 1 + 1 + 1 + 1 + 1 = ba at *
  generalize w.heap.size + 1 + 1 + 1 + 1 + 1 = pb at *
  generalize w.heap.size + 1 + 1 + 1 + 1 = br at *
  generalize w.heap.size + 1 + 1 + 1 = ob at *
  generalize w.heap.size + 1 + 1 = by' at *
  generalize w.heap.size + 1 = bx at *
  have HPB0 : Hid (PB w W7 br (.slice none 0 0) ay [] []) := PB.first HB0.out.bel HB0.out.r HB0.out.gr
  go_loopw [39] (fun ti wr => ∃ (i : Nat) (v : Value) (xs : List (Value × Value)), i ≤ a.length ∧ ti = .int .i64 i ∧ PB w wr br v ay xs ((a.take i).flatMap (sgA c b)) ∧ Sg wr c w.heap.size ba pb br ∧ PStep W7 wr br (.slice none 0 0) v) (fun ti _ => a.length - (intOf ti).toNat)
  case atStart => exact ⟨0, _, [], Nat.zero_le _, rfl, HPB0.out, HB0.out.sg, PStep.refl _ _ _⟩
  case round =>
    obtain ⟨i, v, xs, hi, rfl, hpb1, hsg1, hps⟩ := hrel
    have HB1 := hid hpb1
    have HG1 := hid hsg1
    have HS1 := hid hps
    clear hpb1 hps hsg1 HPB0
    have hiy := (HS1.out.block by' (heap_lt HB0.out.y) HB0.out.ny (by simp [Value.ownBlock])).trans HB0.out.y
    have iy0 : wr.cell? ⟨by', 0, none⟩ = some (.slice yo b.length cb) := zcell' _ _ _ _ hiy 0 _ rfl
    by_cases hlt : i < a.length
    · obtain ⟨b1, off, hpo, hbs, lo, lc, hc0, hc1, hL⟩ := HXA.out i hlt
      subst hpo
      have c0 := (HB1.out.bel.cell (p := ⟨b1, off + i * 2, none⟩) hbs).trans hc0
      have c1 := (HB1.out.bel.cell (p := ⟨b1, off + i * 2 + 1, none⟩) hbs).trans hc1
      have hil : 0 ≤ (i : Int) ∧ (i : Int) < (a.length : Int) := by omega
      have HTk := hid (flat_snoc a (sgA c b) i hlt)
      have HLen : Hid (((a.take i).flatMap (sgA c b)).length ≤ 999 * 1000) := Nat.le_trans (flat_len _ _ b.length (fun x _ => sgA_len c b x)) (Nat.mul_le_mul (by rw [List.length_take]; omega) (by omega))
      generalize (a.take i).flatMap (sgA c b) = pts at *
      generalize atP a i = p at *
      have hal : Below wr.heap.size wr (wr.alloc (.cells #[.slice lo p.1.length lc, .int .i64 p.2] 55)) := (Below.refl _ wr).alloc (Nat.le_refl _) _
      have hiy1 : (wr.alloc (.cells #[.slice lo p.1.length lc, .int .i64 p.2] 55)).cell? ⟨by', 0, none⟩ = some (.slice yo b.length cb) := (hal.cell (p := ⟨by', 0, none⟩) (heap_lt hiy)).trans iy0
      have HB2 := hid (HB1.out.below hal)
      have HG2 := hid (HG1.out.below hal)
      have HS2 := hid (HS1.out.trans (PStep.below (br := br) (v := v) hal))
      have HX2 := hid (heap_alloc_new wr (.cells #[.slice lo p.1.length lc, .int .i64 p.2] 55))
      have HNe := hid (HB1.out.fresh (Nat.le_refl wr.heap.size))
      have HXr : Hid (wr.heap.size ≠ br) := fun e => by have := heap_lt HB1.out.box; omega
      have hxs := heap_lt HX2.out
      clear hc0 hc1 hiy iy0 hal HB1 HG1 HS1
      go_wp2_with fail
      generalize wr.alloc (.cells #[.slice lo p.1.length lc, .int .i64 p.2] 55) = W1 at *
      generalize wr.heap.size = bp at *
      go_loopw [46] (fun tj wq => ∃ (j : Nat) (v' : Value) (xs' : List (Value × Value)), j ≤ b.length ∧ tj = .int .i64 j ∧ PB w wq br v' ay xs' (pts ++ (b.take j).flatMap fun y => sg c y.1 p.2 y.2) ∧ Sg wq c w.heap.size ba pb br ∧ PStep W1 wq br v v') (fun tj _ => b.length - (intOf tj).toNat)
      case atStart => exact ⟨0, _, _, Nat.zero_le _, rfl, by simpa using HB2.out, HG2.out, PStep.refl _ _ _⟩
      case round =>
        obtain ⟨j, v', xs', hj, rfl, hpb3, hsg3, hps3⟩ := hrel
        have HB3 := hid hpb3
        have HG3 := hid hsg3
        have HS3 := hid hps3
        clear hpb3 hps3 hsg3 HB2 HG2
        have hbx := (HS3.out.block bp hxs HXr.out HNe.out).trans HX2.out
        have q1 : wr.cell? ⟨bp, 1, none⟩ = some (.int .i64 p.2) := zcell' _ _ _ _ hbx 1 _ rfl
        have hbps := heap_lt hbx
        by_cases hltj : j < b.length
        · obtain ⟨b2, off2, hpo2, hbs2, lo2, lc2, hd0, hd1, hL2⟩ := HYB.out j hltj
          subst hpo2
          have d0 := (HB3.out.bel.cell (p := ⟨b2, off2 + j * 2, none⟩) hbs2).trans hd0
          have d1 := (HB3.out.bel.cell (p := ⟨b2, off2 + j * 2 + 1, none⟩) hbs2).trans hd1
          have hjl : 0 ≤ (j : Int) ∧ (j : Int) < (b.length : Int) := by omega
          have HTj : Hid (((b.take (j + 1)).flatMap fun y => sg c y.1 p.2 y.2) = ((b.take j).flatMap fun y => sg c y.1 p.2 y.2) ++ sg c (atP b j).1 p.2 (atP b j).2) := flat_snoc b (fun y => sg c y.1 p.2 y.2) j hltj
          have HLn2 : Hid ((pts ++ (b.take j).flatMap fun y => sg c y.1 p.2 y.2).length ≤ 1000000) := by
            show _ ≤ _
            have h1 := flat_len (b.take j) (fun y => sg c y.1 p.2 y.2) 1 (fun y _ => sg_len _ _ _ _)
            have h2 : (b.take j).length ≤ 1000 := by rw [List.length_take]; omega
            have h3 := HLen.out
            rw [List.length_append]
            omega
          have HL2 := hid hL2
          generalize (b.take j).flatMap (fun y => sg c y.1 p.2 y.2) = pj at *
          generalize atP b j = q at *
          have hal2 : Below wr.heap.size wr (wr.alloc (.cells #[.slice lo2 q.1.length lc2, .int .i64 q.2] 55)) := (Below.refl _ wr).alloc (Nat.le_refl _) _
          have q1' : (wr.alloc (.cells #[.slice lo2 q.1.length lc2, .int .i64 q.2] 55)).cell? ⟨bp, 1, none⟩ = some (.int .i64 p.2) := (hal2.cell (p := ⟨bp, 1, none⟩) hbps).trans q1
          have HSn := hid (sign_any w _ c w.heap.size ba br pb v' ay xs' (pts ++ pj) lo2 q.1 lc2 p.2 q.2 hc (HB3.out.below hal2) (HG3.out.below hal2) (.inl ⟨lo2, lc2, rfl, HL2.out, fun _ _ _ h => h⟩) HLn2.out)
          have HB4 := hid (HB3.out.below hal2)
          have HG4 := hid (HG3.out.below hal2)
          have HS4 := hid (HS3.out.trans (PStep.below (br := br) (v := v') hal2))
          clear hd0 hd1 hL2 hal2 hbx HB3 HG3 HS3
          go_wp2_with fail
          generalize wr.alloc (.cells #[.slice lo2 q.1.length lc2, .int .i64 q.2] 55) = W5 at *
          refine HSn.out.mono ?_
          rintro e w6 ⟨rfl, v6, xs6, hB6, hS6⟩
          have HB6 := hid hB6
          have HG6 := hid (HG4.out.step hS6 HB4.out.row HB4.out.box)
          have HS6 := hid (HS4.out.trans hS6)
          clear hB6 hS6 HSn HB4 HG4 HS4
          go_wp2_with fail
          go_roundw
          case rel =>
            refine ⟨j + 1, v6, xs6, by omega, by go_num, ?_, HG6.out, HS6.out⟩
            rw [HTj.out, ← List.append_assoc]
            exact HB6.out
          case measure => simp [intOf]; omega
        · have e : j = b.length := by omega
          subst e
          rw [List.take_length] at HB3
          go_wp2_with fail
          go_roundw
          case rel =>
            refine ⟨i + 1, v', xs', by omega, by go_num, ?_, HG3.out, HS2.out.trans HS3.out⟩
            rw [HTk.out]
            exact HB3.out
          case measure => simp [intOf]; omega
    · have e : i = a.length := by omega
      subst e
      rw [List.take_length, HRes.out] at HB1
      obtain ⟨qo, qc, ev, hrow⟩ := HB1.out.out
      subst ev
      have hbr1 := HB1.out.box
      have hob1 := (HS1.out.block ob (heap_lt HB0.out.o) HB0.out.no (by simp [Value.ownBlock])).trans HB0.out.o
      have x0 : wr.cell? ⟨br, 0, none⟩ = some (.slice qo Res.length qc) := zcell' _ _ _ _ hbr1 0 _ rfl
      have x1 : wr.cell? ⟨br, 1, none⟩ = some (.bool ay) := zcell' _ _ _ _ hbr1 1 _ rfl
      have y0 : wr.cell? ⟨ob, 0, none⟩ = some (.slice none 0 0) := zcell' _ _ _ _ hob1 0 _ rfl
      have y1 : wr.cell? ⟨ob, 1, none⟩ = some (.bool false) := zcell' _ _ _ _ hob1 1 _ rfl
      have z0 := hfz hob1 0
      have z1 := hfz hob1 1
      have HOb := hid hob1
      have HF := hid (HB1.out.set2 hob1 (by decide) (by decide) (fun e => HB0.out.no e.symm) HB0.out.go (.slice qo Res.length qc) (.bool ay))
      clear hbr1 hob1 hrow
      go_wp2_with fail
      refine bodyPost_ret (results_cell_row (P := Tryz.prog) rfl _ _ ob 140 _ (0, 0) _ rfl (ew_set2 HOb.out) Tryz.underlying140 rfl (by kernel_rfl)) rfl ?_
      exact ⟨⟨_, rfl, HF.out.pv⟩, HF.out.bel⟩

set_option maxRecDepth 100000 in
set_option maxHeartbeats 6400000 in
theorem bothB (c : Int) (xo yo : Option Addr) (a b : List EV.Pt) (ca cb : Nat) (w : World) (hc : 13 ≤ c ∧ c ≤ 16) (hxa : PRow w xo a) (hyb : PRow w yo b) (_hca : a.length ≤ ca) (_hcb : b.length ≤ cb) (hla : ∀ p ∈ a, p.1.length ≤ 1000) (hlb : ∀ p ∈ b, p.1.length ≤ 1000) (hna : a.length ≤ 1000) (hnb : b.length ≤ 1000) :
    Calls Tryz.prog 144 #[.int .i64 c, .agg #[.slice xo a.length ca, .bool false], .agg #[.slice yo b.length cb, .bool true]] w fun e w' => RsEnd w w' e false (b.flatMap (sgB c a)) := by
  have HXA := hid hxa
  have HYB := hid hyb
  have HLA := hid hla
  have HLB := hid hlb
  clear hxa hyb hla hlb
  generalize hRes : b.flatMap (sgB c a) = Res
  have HRes := hid hRes
  clear hRes
  go_enter Tryz.func144, Tryz.ntmps144
  go_wp2_with fail
  refine (adder_any (some ⟨w.heap.size + 1 + 1 + 1 + 1, 0, none⟩) _).mono ?_
  rintro e w4 ⟨rfl, h4⟩
  subst h4
  have HB0 : Hid (B0 w (((((((w.alloc (.cells #[.int .i64 c] 3)).alloc (.cells #[.slice xo a.length ca, .bool false] 140)).alloc (.cells #[.slice yo b.length cb, .bool true] 140)).alloc (.cells #[.slice none 0 0, .bool false] 140)).alloc (.cells #[.slice none 0 0, .bool false] 140)).alloc (.cells #[.pointer (some ⟨w.heap.size + 1 + 1 + 1 + 1, 0, none⟩)] 255)).alloc (.cells #[.func (.func 175) #[] #[.pointer (some ⟨w.heap.size + 1 + 1 + 1 + 1 + 1, 0, none⟩)]] 215)) c (.slice xo a.length ca) (.slice yo b.length cb) false true false (w.heap.size + 1) (w.heap.size + 1 + 1) (w.heap.size + 1 + 1 + 1) (w.heap.size + 1 + 1 + 1 + 1) (w.heap.size + 1 + 1 + 1 + 1 + 1) (w.heap.size + 1 + 1 + 1 + 1 + 1 + 1) w.heap.size) := b0_of w c (.slice xo a.length ca) (.slice yo b.length cb) false true false
  have h5 : (((((w.alloc (.cells #[.int .i64 c] 3)).alloc (.cells #[.slice xo a.length ca, .bool false] 140)).alloc (.cells #[.slice yo b.length cb, .bool true] 140)).alloc (.cells #[.slice none 0 0, .bool false] 140)).alloc (.cells #[.slice none 0 0, .bool false] 140)).heap.size = w.heap.size + 1 + 1 + 1 + 1 + 1 := by simp
  rw [h5]
  clear h5
  go_wp2_with fail
  generalize (((((((w.alloc (.cells #[.int .i64 c] 3)).alloc (.cells #[.slice xo a.length ca, .bool false] 140)).alloc (.cells #[.slice yo b.length cb, .bool true] 140)).alloc (.cells #[.slice none 0 0, .bool false] 140)).alloc (.cells #[.slice none 0 0, .bool false] 140)).alloc (.cells #[.pointer (some ⟨w.heap.size + 1 + 1 + 1 + 1, 0, none⟩)] 255)).alloc (.cells #[.func (.func 175) #[] #[.pointer (some ⟨w.heap.size + 1 + 1 + 1 + 1 + 1, 0, none⟩)]] 215)) = W7 at *
  generalize w.heap.size + 1 + 1 + 1 + 1 + 1 + 1 = ba at *
  generalize w.heap.size + 1 + 1 + 1 + 1 + 1 = pb at *
  generalize w.heap.size + 1 + 1 + 1 + 1 = br at *
  generalize w.heap.size + 1 + 1 + 1 = ob at *
  generalize w.heap.size + 1 + 1 = by' at *
  generalize w.heap.size + 1 = bx at *
  have HPB0 : Hid (PB w W7 br (.slice none 0 0) false [] []) := PB.first HB0.out.bel HB0.out.r HB0.out.gr
  go_loopw [66] (fun ti wr => ∃ (i : Nat) (v : Value) (xs : List (Value × Value)), i ≤ b.length ∧ ti = .int .i64 i ∧ PB w wr br v false xs ((b.take i).flatMap (sgB c a)) ∧ Sg wr c w.heap.size ba pb br ∧ PStep W7 wr br (.slice none 0 0) v) (fun ti _ => b.length - (intOf ti).toNat)
  case atStart => exact ⟨0, _, [], Nat.zero_le _, rfl, HPB0.out, HB0.out.sg, PStep.refl _ _ _⟩
  case round =>
    obtain ⟨i, v, xs, hi, rfl, hpb1, hsg1, hps⟩ := hrel
    have HB1 := hid hpb1
    have HG1 := hid hsg1
    have HS1 := hid hps
    clear hpb1 hps hsg1 HPB0
    have hiy := (HS1.out.block bx (heap_lt HB0.out.x) HB0.out.nx (by simp [Value.ownBlock])).trans HB0.out.x
    have iy0 : wr.cell? ⟨bx, 0, none⟩ = some (.slice xo a.length ca) := zcell' _ _ _ _ hiy 0 _ rfl
    by_cases hlt : i < b.length
    · obtain ⟨b1, off, hpo, hbs, lo, lc, hc0, hc1, hL⟩ := HYB.out i hlt
      subst hpo
      have c0 := (HB1.out.bel.cell (p := ⟨b1, off + i * 2, none⟩) hbs).trans hc0
      have c1 := (HB1.out.bel.cell (p := ⟨b1, off + i * 2 + 1, none⟩) hbs).trans hc1
      have hil : 0 ≤ (i : Int) ∧ (i : Int) < (b.length : Int) := by omega
      have HTk := hid (flat_snoc b (sgB c a) i hlt)
      have HLen : Hid (((b.take i).flatMap (sgB c a)).length ≤ 999 * 1000) := Nat.le_trans (flat_len _ _ a.length (fun x _ => sgB_len c a x)) (Nat.mul_le_mul (by rw [List.length_take]; omega) (by omega))
      generalize (b.take i).flatMap (sgB c a) = pts at *
      generalize atP b i = p at *
      have hal : Below wr.heap.size wr (wr.alloc (.cells #[.slice lo p.1.length lc, .int .i64 p.2] 55)) := (Below.refl _ wr).alloc (Nat.le_refl _) _
      have hiy1 : (wr.alloc (.cells #[.slice lo p.1.length lc, .int .i64 p.2] 55)).cell? ⟨bx, 0, none⟩ = some (.slice xo a.length ca) := (hal.cell (p := ⟨bx, 0, none⟩) (heap_lt hiy)).trans iy0
      have HB2 := hid (HB1.out.below hal)
      have HG2 := hid (HG1.out.below hal)
      have HS2 := hid (HS1.out.trans (PStep.below (br := br) (v := v) hal))
      have HX2 := hid (heap_alloc_new wr (.cells #[.slice lo p.1.length lc, .int .i64 p.2] 55))
      have HNe := hid (HB1.out.fresh (Nat.le_refl wr.heap.size))
      have HXr : Hid (wr.heap.size ≠ br) := fun e => by have := heap_lt HB1.out.box; omega
      have hxs := heap_lt HX2.out
      clear hc0 hc1 hiy iy0 hal HB1 HG1 HS1
      go_wp2_with fail
      generalize wr.alloc (.cells #[.slice lo p.1.length lc, .int .i64 p.2] 55) = W1 at *
      generalize wr.heap.size = bp at *
      go_loopw [73] (fun tj wq => ∃ (j : Nat) (v' : Value) (xs' : List (Value × Value)), j ≤ a.length ∧ tj = .int .i64 j ∧ PB w wq br v' false xs' (pts ++ (a.take j).flatMap fun y => sg c y.1 y.2 p.2) ∧ Sg wq c w.heap.size ba pb br ∧ PStep W1 wq br v v') (fun tj _ => a.length - (intOf tj).toNat)
      case atStart => exact ⟨0, _, _, Nat.zero_le _, rfl, by simpa using HB2.out, HG2.out, PStep.refl _ _ _⟩
      case round =>
        obtain ⟨j, v', xs', hj, rfl, hpb3, hsg3, hps3⟩ := hrel
        have HB3 := hid hpb3
        have HG3 := hid hsg3
        have HS3 := hid hps3
        clear hpb3 hps3 hsg3 HB2 HG2
        have hbx := (HS3.out.block bp hxs HXr.out HNe.out).trans HX2.out
        have q1 : wr.cell? ⟨bp, 1, none⟩ = some (.int .i64 p.2) := zcell' _ _ _ _ hbx 1 _ rfl
        have hbps := heap_lt hbx
        by_cases hltj : j < a.length
        · obtain ⟨b2, off2, hpo2, hbs2, lo2, lc2, hd0, hd1, hL2⟩ := HXA.out j hltj
          subst hpo2
          have d0 := (HB3.out.bel.cell (p := ⟨b2, off2 + j * 2, none⟩) hbs2).trans hd0
          have d1 := (HB3.out.bel.cell (p := ⟨b2, off2 + j * 2 + 1, none⟩) hbs2).trans hd1
          have hjl : 0 ≤ (j : Int) ∧ (j : Int) < (a.length : Int) := by omega
          have HTj : Hid (((a.take (j + 1)).flatMap fun y => sg c y.1 y.2 p.2) = ((a.take j).flatMap fun y => sg c y.1 y.2 p.2) ++ sg c (atP a j).1 (atP a j).2 p.2) := flat_snoc a (fun y => sg c y.1 y.2 p.2) j hltj
          have HLn2 : Hid ((pts ++ (a.take j).flatMap fun y => sg c y.1 y.2 p.2).length ≤ 1000000) := by
            show _ ≤ _
            have h1 := flat_len (a.take j) (fun y => sg c y.1 y.2 p.2) 1 (fun y _ => sg_len _ _ _ _)
            have h2 : (a.take j).length ≤ 1000 := by rw [List.length_take]; omega
            have h3 := HLen.out
            rw [List.length_append]
            omega
          have HL2 := hid hL2
          generalize (a.take j).flatMap (fun y => sg c y.1 y.2 p.2) = pj at *
          generalize atP a j = q at *
          have hal2 : Below wr.heap.size wr (wr.alloc (.cells #[.slice lo2 q.1.length lc2, .int .i64 q.2] 55)) := (Below.refl _ wr).alloc (Nat.le_refl _) _
          have q1' : (wr.alloc (.cells #[.slice lo2 q.1.length lc2, .int .i64 q.2] 55)).cell? ⟨bp, 1, none⟩ = some (.int .i64 p.2) := (hal2.cell (p := ⟨bp, 1, none⟩) hbps).trans q1
          have HSn := hid (sign_any w _ c w.heap.size ba br pb v' false xs' (pts ++ pj) lo2 q.1 lc2 q.2 p.2 hc (HB3.out.below hal2) (HG3.out.below hal2) (.inl ⟨lo2, lc2, rfl, HL2.out, fun _ _ _ h => h⟩) HLn2.out)
          have HB4 := hid (HB3.out.below hal2)
          have HG4 := hid (HG3.out.below hal2)
          have HS4 := hid (HS3.out.trans (PStep.below (br := br) (v := v') hal2))
          clear hd0 hd1 hL2 hal2 hbx HB3 HG3 HS3
          go_wp2_with fail
          generalize wr.alloc (.cells #[.slice lo2 q.1.length lc2, .int .i64 q.2] 55) = W5 at *
          refine HSn.out.mono ?_
          rintro e w6 ⟨rfl, v6, xs6, hB6, hS6⟩
          have HB6 := hid hB6
          have HG6 := hid (HG4.out.step hS6 HB4.out.row HB4.out.box)
          have HS6 := hid (HS4.out.trans hS6)
          clear hB6 hS6 HSn HB4 HG4 HS4
          go_wp2_with fail
          go_roundw
          case rel =>
            refine ⟨j + 1, v6, xs6, by omega, by go_num, ?_, HG6.out, HS6.out⟩
            rw [HTj.out, ← List.append_assoc]
            exact HB6.out
          case measure => simp [intOf]; omega
        · have e : j = a.length := by omega
          subst e
          rw [List.take_length] at HB3
          go_wp2_with fail
          go_roundw
          case rel =>
            refine ⟨i + 1, v', xs', by omega, by go_num, ?_, HG3.out, HS2.out.trans HS3.out⟩
            rw [HTk.out]
            exact HB3.out
          case measure => simp [intOf]; omega
    · have e : i = b.length := by omega
      subst e
      rw [List.take_length, HRes.out] at HB1
      obtain ⟨qo, qc, ev, hrow⟩ := HB1.out.out
      subst ev
      have hbr1 := HB1.out.box
      have hob1 := (HS1.out.block ob (heap_lt HB0.out.o) HB0.out.no (by simp [Value.ownBlock])).trans HB0.out.o
      have x0 : wr.cell? ⟨br, 0, none⟩ = some (.slice qo Res.length qc) := zcell' _ _ _ _ hbr1 0 _ rfl
      have x1 : wr.cell? ⟨br, 1, none⟩ = some (.bool false) := zcell' _ _ _ _ hbr1 1 _ rfl
      have y0 : wr.cell? ⟨ob, 0, none⟩ = some (.slice none 0 0) := zcell' _ _ _ _ hob1 0 _ rfl
      have y1 : wr.cell? ⟨ob, 1, none⟩ = some (.bool false) := zcell' _ _ _ _ hob1 1 _ rfl
      have z0 := hfz hob1 0
      have z1 := hfz hob1 1
      have HOb := hid hob1
      have HF := hid (HB1.out.set2 hob1 (by decide) (by decide) (fun e => HB0.out.no e.symm) HB0.out.go (.slice qo Res.length qc) (.bool false))
      clear hbr1 hob1 hrow
      go_wp2_with fail
      refine bodyPost_ret (results_cell_row (P := Tryz.prog) rfl _ _ ob 140 _ (0, 0) _ rfl (ew_set2 HOb.out) Tryz.underlying140 rfl (by kernel_rfl)) rfl ?_
      exact ⟨⟨_, rfl, HF.out.pv⟩, HF.out.bel⟩

set_option maxRecDepth 100000 in
set_option maxHeartbeats 6400000 in
theorem bothC (c : Int) (xo yo : Option Addr) (a b : List EV.Pt) (ca cb : Nat) (w : World) (hc : 13 ≤ c ∧ c ≤ 16) (hxa : PRow w xo a) (hyb : PRow w yo b) (hca : a.length ≤ ca) (hcb : b.length ≤ cb) (hla : ∀ p ∈ a, p.1.length ≤ 1000) (hlb : ∀ p ∈ b, p.1.length ≤ 1000) (hna : a.length ≤ 1000) (_hnb : b.length ≤ 1000) :
    Calls Tryz.prog 144 #[.int .i64 c, .agg #[.slice xo a.length ca, .bool false], .agg #[.slice yo b.length cb, .bool false]] w fun e w' => RsEnd w w' e false (EV.prs c (a.length + b.length + 1) a b) := by
  have HXA := hid hxa
  have HYB := hid hyb
  have HLA := hid hla
  have HLB := hid hlb
  clear hxa hyb hla hlb
  generalize hRes : EV.prs c (a.length + b.length + 1) a b = Res
  have HRes := hid hRes
  clear hRes
  go_enter Tryz.func144, Tryz.ntmps144
  go_wp2_with fail
  refine (adder_any (some ⟨w.heap.size + 1 + 1 + 1 + 1, 0, none⟩) _).mono ?_
  rintro e w4 ⟨rfl, h4⟩
  subst h4
  have HB0 : Hid (B0 w (((((((w.alloc (.cells #[.int .i64 c] 3)).alloc (.cells #[.slice xo a.length ca, .bool false] 140)).alloc (.cells #[.slice yo b.length cb, .bool false] 140)).alloc (.cells #[.slice none 0 0, .bool false] 140)).alloc (.cells #[.slice none 0 0, .bool false] 140)).alloc (.cells #[.pointer (some ⟨w.heap.size + 1 + 1 + 1 + 1, 0, none⟩)] 255)).alloc (.cells #[.func (.func 175) #[] #[.pointer (some ⟨w.heap.size + 1 + 1 + 1 + 1 + 1, 0, none⟩)]] 215)) c (.slice xo a.length ca) (.slice yo b.length cb) false false false (w.heap.size + 1) (w.heap.size + 1 + 1) (w.heap.size + 1 + 1 + 1) (w.heap.size + 1 + 1 + 1 + 1) (w.heap.size + 1 + 1 + 1 + 1 + 1) (w.heap.size + 1 + 1 + 1 + 1 + 1 + 1) w.heap.size) := b0_of w c (.slice xo a.length ca) (.slice yo b.length cb) false false false
  have h5 : (((((w.alloc (.cells #[.int .i64 c] 3)).alloc (.cells #[.slice xo a.length ca, .bool false] 140)).alloc (.cells #[.slice yo b.length cb, .bool false] 140)).alloc (.cells #[.slice none 0 0, .bool false] 140)).alloc (.cells #[.slice none 0 0, .bool false] 140)).heap.size = w.heap.size + 1 + 1 + 1 + 1 + 1 := by simp
  rw [h5]
  clear h5
  go_wp2_with fail
  generalize (((((((w.alloc (.cells #[.int .i64 c] 3)).alloc (.cells #[.slice xo a.length ca, .bool false] 140)).alloc (.cells #[.slice yo b.length cb, .bool false] 140)).alloc (.cells #[.slice none 0 0, .bool false] 140)).alloc (.cells #[.slice none 0 0, .bool false] 140)).alloc (.cells #[.pointer (some ⟨w.heap.size + 1 + 1 + 1 + 1, 0, none⟩)] 255)).alloc (.cells #[.func (.func 175) #[] #[.pointer (some ⟨w.heap.size + 1 + 1 + 1 + 1 + 1, 0, none⟩)]] 215)) = W7 at *
  generalize w.heap.size + 1 + 1 + 1 + 1 + 1 + 1 = ba at *
  generalize w.heap.size + 1 + 1 + 1 + 1 + 1 = pb at *
  generalize w.heap.size + 1 + 1 + 1 + 1 = br at *
  generalize w.heap.size + 1 + 1 + 1 = ob at *
  generalize w.heap.size + 1 + 1 = by' at *
  generalize w.heap.size + 1 = bx at *
  have HPB0 : Hid (PB w W7 br (.slice none 0 0) false [] []) := PB.first HB0.out.bel HB0.out.r HB0.out.gr
  have x0 : W7.cell? ⟨bx, 0, none⟩ = some (.slice xo a.length ca) := zcell' _ _ _ _ HB0.out.x 0 _ rfl
  have y0 : W7.cell? ⟨by', 0, none⟩ = some (.slice yo b.length cb) := zcell' _ _ _ _ HB0.out.y 0 _ rfl
  refine (pairs_any w W7 c w.heap.size ba br pb (.slice none 0 0) false [] [] a b xo yo ca cb hc HPB0.out HB0.out.sg HXA.out HYB.out hca hcb HLA.out HLB.out (by simp; omega)).mono ?_
  rintro e wr ⟨rfl, v, xs, hB1, hS1⟩
  rw [List.nil_append, HRes.out] at hB1
  have HB1 := hid hB1
  have HS1 := hid hS1
  clear hB1 hS1 HPB0 x0 y0
  obtain ⟨qo, qc, ev, hrow⟩ := HB1.out.out
  subst ev
  have hbr1 := HB1.out.box
  have hob1 := (HS1.out.block ob (heap_lt HB0.out.o) HB0.out.no (by simp [Value.ownBlock])).trans HB0.out.o
  have x0 : wr.cell? ⟨br, 0, none⟩ = some (.slice qo Res.length qc) := zcell' _ _ _ _ hbr1 0 _ rfl
  have x1 : wr.cell? ⟨br, 1, none⟩ = some (.bool false) := zcell' _ _ _ _ hbr1 1 _ rfl
  have y0 : wr.cell? ⟨ob, 0, none⟩ = some (.slice none 0 0) := zcell' _ _ _ _ hob1 0 _ rfl
  have y1 : wr.cell? ⟨ob, 1, none⟩ = some (.bool false) := zcell' _ _ _ _ hob1 1 _ rfl
  have z0 := hfz hob1 0
  have z1 := hfz hob1 1
  have HOb := hid hob1
  have HF := hid (HB1.out.set2 hob1 (by decide) (by decide) (fun e => HB0.out.no e.symm) HB0.out.go (.slice qo Res.length qc) (.bool false))
  clear hbr1 hob1 hrow
  go_wp2_with fail
  refine bodyPost_ret (results_cell_row (P := Tryz.prog) rfl _ _ ob 140 _ (0, 0) _ rfl (ew_set2 HOb.out) Tryz.underlying140 rfl (by kernel_rfl)) rfl ?_
  exact ⟨⟨_, rfl, HF.out.pv⟩, HF.out.bel⟩

theorem both_any (c : Int) (xo yo : Option Addr) (a b : List EV.Pt) (ca cb : Nat) (ax ay : Bool) (w : World) (hc : 13 ≤ c ∧ c ≤ 16) (hxa : PRow w xo a) (hyb : PRow w yo b) (hca : a.length ≤ ca) (hcb : b.length ≤ cb) (hla : ∀ p ∈ a, p.1.length ≤ 1000) (hlb : ∀ p ∈ b, p.1.length ≤ 1000) (hna : a.length ≤ 1000) (hnb : b.length ≤ 1000) :
    Calls Tryz.prog 144 #[.int .i64 c, .agg #[.slice xo a.length ca, .bool ax], .agg #[.slice yo b.length cb, .bool ay]] w fun e w' => RsEnd w w' e (ax && ay) (EV.both c (ax, a) (ay, b)).2 := by
  rw [both_eq]
  rcases ax with _ | _
  · rcases ay with _ | _
    · exact bothC c xo yo a b ca cb w hc hxa hyb hca hcb hla hlb hna hnb
    · exact bothB c xo yo a b ca cb w hc hxa hyb hca hcb hla hlb hna hnb
  · exact bothA c xo yo a b ca cb ay w hc hxa hyb hca hcb hla hlb hna hnb

end Go.Proofs.YtdmnlmohfaafoaeGreatDoor

