/- The document's Part: series parted, by what holds of labels and times. -/
import Derived.Test.YtdmnlmohfaafoadGreatDoorPHrMem
import Derived.Test.YtdmnlmohfaafoadGreatDoorPHdTake
namespace Go.Proofs.YtdmnlmohfaafoadGreatDoor
open Go.RowKit

theorem RB.other {w W W' : World} {Z : Nat → Prop} {v u : Value} {xs : List (Value × Value)} {L : List Sr} {n : Nat} {ys : List Value} (h : RB w W Z v xs L) (hu : W.ownsRow w.heap.size 55 2 u n ys) (hne : v.ownBlock = none ∨ v.ownBlock ≠ u.ownBlock) (k : W.grownBy W' u.ownBlock) : RB w W' Z v xs L :=
  ⟨h.len, h.row.kept k hne, h.bel.grown k h.bel.size (fun j hj => (hu.lt j hj).1), fun i hi => (h.labs i hi).grown hu k, fun i hi => (h.smps i hi).grown hu k⟩

/-- Two rows of series, made out of one. -/
structure PB (w W : World) (Z : Nat → Prop) (vy : Value) (xy : List (Value × Value)) (LY : List Sr) (vn : Value) (xn : List (Value × Value)) (LN : List Sr) : Prop where
  yes : RB w W Z vy xy LY
  no : RB w W Z vn xn LN
  two : vy.ownBlock = none ∨ vy.ownBlock ≠ vn.ownBlock

section
variable {w W W' : World} {Z : Nat → Prop} {vy vn : Value} {xy xn : List (Value × Value)} {LY LN : List Sr}

theorem PB.below (h : PB w W Z vy xy LY vn xn LN) (k : Below W.heap.size W W') : PB w W' Z vy xy LY vn xn LN := ⟨h.yes.below k, h.no.below k, h.two⟩

theorem PB.pushY (h : PB w W Z vy xy LY vn xn LN) {v' a b : Value} {x : Sr} (ha : RL w W Z a x.1) (hb : RS w W Z b x.2) (hr : W'.ownsRow w.heap.size 55 2 v' (LY.length + 1) (flat xy ++ [a, b])) (k : W.grownBy W' vy.ownBlock) (hv : v'.ownBlock = vy.ownBlock ∨ v'.ownBlock = some W.heap.size) : PB w W' Z v' (xy ++ [(a, b)]) (LY ++ [x]) vn xn LN := by
  have htw : vn.ownBlock = none ∨ vn.ownBlock ≠ vy.ownBlock := by
    rcases h.two with e | e
    · rcases ht : vn.ownBlock with _ | g
      · exact .inl rfl
      · rw [e]; exact .inr (by simp)
    · exact .inr (fun e2 => e e2.symm)
  refine ⟨h.yes.push ha hb hr k, h.no.other h.yes.row htw k, ?_⟩
  rcases hv with e | e
  · rw [e]; exact h.two
  · right
    rw [e]
    intro e2
    have := (h.no.row.lt _ e2.symm).2
    omega

theorem PB.pushN (h : PB w W Z vy xy LY vn xn LN) {v' a b : Value} {x : Sr} (ha : RL w W Z a x.1) (hb : RS w W Z b x.2) (hr : W'.ownsRow w.heap.size 55 2 v' (LN.length + 1) (flat xn ++ [a, b])) (k : W.grownBy W' vn.ownBlock) (hv : v'.ownBlock = vn.ownBlock ∨ v'.ownBlock = some W.heap.size) : PB w W' Z vy xy LY v' (xn ++ [(a, b)]) (LN ++ [x]) := by
  refine ⟨h.yes.other h.no.row h.two k, h.no.push ha hb hr k, ?_⟩
  rcases hv with e | e
  · rw [e]; exact h.two
  · rcases hs : vy.ownBlock with _ | g
    · exact .inl rfl
    · right
      rw [e]
      intro e2
      have := (h.yes.row.lt _ (hs.trans e2)).2
      omega

end

/-- While a series is parted: two rows of samples, in two boxes. -/
structure PIn (wr W : World) (X A B : Nat) (vl : Value) (va vb : Value) (la lb : List CL.Smp) (v1 : Value) : Prop where
  tw : Two wr W va vb la lb
  b0 : W.heap[X]? = some (.cells #[vl, v1] 55)
  b1 : W.heap[A]? = some (.cells #[vl, va] 55)
  b2 : W.heap[B]? = some (.cells #[vl, vb] 55)
  ne : X ≠ A ∧ X ≠ B ∧ A ≠ B
  ge : wr.heap.size ≤ A ∧ wr.heap.size ≤ B

theorem PIn.below {wr W W' : World} {X A B : Nat} {vl va vb v1 : Value} {la lb : List CL.Smp} (h : PIn wr W X A B vl va vb la lb v1) (k : Below W.heap.size W W') : PIn wr W' X A B vl va vb la lb v1 :=
  ⟨h.tw.below k, (k.block _ (heap_lt h.b0)).trans h.b0, (k.block _ (heap_lt h.b1)).trans h.b1, (k.block _ (heap_lt h.b2)).trans h.b2, h.ne, h.ge⟩

theorem Two.set {wr W : World} {va vb : Value} {la lb : List CL.Smp} (h : Two wr W va vb la lb) {B : Nat} {c : Array Value} (hB : W.heap[B]? = some (.cells c 55)) (hw : wr.heap.size ≤ B) (o : Nat) (u : Value) : Two wr (W.setCell ⟨B, o, none⟩ u) va vb la lb :=
  ⟨own_set h.out (own_kind h.out hB (by decide)) _ _, own_set h.left (own_kind h.left hB (by decide)) _ _, h.apart, h.bel.setCell (p := ⟨B, o, none⟩) hw u⟩

theorem PIn.growA {wr W W' : World} {X A B : Nat} {vl va vb v1 v' : Value} {la lb l' : List CL.Smp} (h : PIn wr W X A B vl va vb la lb v1) (h1 : OwnSm W' wr.heap.size v' l') (h2 : W.grownBy W' va.ownBlock) (h3 : v'.ownBlock = va.ownBlock ∨ v'.ownBlock = some W.heap.size) : PIn wr (W'.setCell ⟨A, 1, none⟩ v') X A B vl v' vb l' lb v1 := by
  have key : ∀ {j : Nat} {c : Array Value}, W.heap[j]? = some (.cells c 55) → W'.heap[j]? = some (.cells c 55) := fun {j c} hj => (h2.block j (heap_lt hj) (fun e => own_kind h.tw.out hj (by decide) e.symm)).trans hj
  have g := h.tw.grow1 h1 h2 h3
  exact ⟨g.set (key h.b1) h.ge.1 _ _, (Below.heap_setCell W' ⟨A, 1, none⟩ v' X h.ne.1).trans (key h.b0), heap_setCell_same W' A 1 _ _ v' (key h.b1), (Below.heap_setCell W' ⟨A, 1, none⟩ v' B (fun e => h.ne.2.2 e.symm)).trans (key h.b2), h.ne, h.ge⟩

theorem PIn.growB {wr W W' : World} {X A B : Nat} {vl va vb v1 v' : Value} {la lb l' : List CL.Smp} (h : PIn wr W X A B vl va vb la lb v1) (h1 : OwnSm W' wr.heap.size v' l') (h2 : W.grownBy W' vb.ownBlock) (h3 : v'.ownBlock = vb.ownBlock ∨ v'.ownBlock = some W.heap.size) : PIn wr (W'.setCell ⟨B, 1, none⟩ v') X A B vl va v' la l' v1 := by
  have key : ∀ {j : Nat} {c : Array Value}, W.heap[j]? = some (.cells c 55) → W'.heap[j]? = some (.cells c 55) := fun {j c} hj => (h2.block j (heap_lt hj) (fun e => own_kind h.tw.left hj (by decide) e.symm)).trans hj
  have g := h.tw.grow2 h1 h2 h3
  exact ⟨g.set (key h.b2) h.ge.2 _ _, (Below.heap_setCell W' ⟨B, 1, none⟩ v' X h.ne.2.1).trans (key h.b0), (Below.heap_setCell W' ⟨B, 1, none⟩ v' A h.ne.2.2).trans (key h.b1), heap_setCell_same W' B 1 _ _ v' (key h.b2), h.ne, h.ge⟩

theorem kp_len (p : List LB.Lab → Int → Bool) (S : List Sr) (i : Nat) : (HD.kp p (S.take i)).length ≤ S.length := by
  unfold HD.kp
  refine Nat.le_trans (List.length_filter_le _ _) ?_
  rw [List.length_map, List.length_take]
  omega

theorem part_new1 (wr : World) (vl v1 : Value) : PIn wr (((wr.alloc (.cells #[vl, v1] 55)).alloc (.cells #[vl, .slice none 0 0] 55)).alloc (.cells #[vl, .slice none 0 0] 55)).drew wr.heap.size (wr.heap.size + 1) (wr.heap.size + 1 + 1) vl (.slice none 0 0) (.slice none 0 0) [] [] v1 := by
  obtain ⟨h1, h2, h3⟩ := three_new wr (.cells #[vl, v1] 55) (.cells #[vl, .slice none 0 0] 55) (.cells #[vl, .slice none 0 0] 55)
  refine ⟨⟨⟨rfl, .inl ⟨rfl, rfl⟩⟩, ⟨rfl, .inl ⟨rfl, rfl⟩⟩, .inl rfl, ?_⟩, h1, h2, h3, by omega, by omega⟩
  refine Below.drew ?_
  exact (((Below.refl _ wr).alloc (Nat.le_refl _) _).alloc (by simp) _).alloc (by simp; omega) _

theorem part_new2 (wr : World) (vl v1 : Value) : PIn wr (((wr.alloc (.cells #[vl, v1] 55)).alloc (.cells #[vl, .slice none 0 0] 55)).alloc (.cells #[vl, .slice none 0 0] 55)).drew wr.heap.size (wr.heap.size + 1 + 1) (wr.heap.size + 1) vl (.slice none 0 0) (.slice none 0 0) [] [] v1 := by
  have h := part_new1 wr vl v1
  exact ⟨h.tw, h.b0, h.b2, h.b1, by omega, by omega⟩

set_option maxRecDepth 100000 in
set_option maxHeartbeats 6400000 in
theorem part_any (ao : Option Addr) (S : List Sr) (cap g : Nat) (lbv : Array Value) (p : List LB.Lab → Int → Bool) (Z : Nat → Prop) (w : World) (hS : SrOut w Z ao S) (hn : S.length ≤ 1000) (hls : ∀ i, i < S.length → (atSr S i).1.length ≤ 1000 ∧ (atSr S i).2.length ≤ 2000) (eg : ∀ args w, (callFunc g args).run Tryz.prog w = .ok (.enter g args) w)
    (hcall : ∀ W, Below w.heap.size w W → ∀ (lo : Option Addr) (L : List LB.Lab) (lc : Nat) (t : Int), LRow W lo L → L.length ≤ 1000 → Calls Tryz.prog g (#[.slice lo L.length lc, .int .i64 t] ++ lbv) W fun e w' => e = .returned (.bool (p L t)) ∧ Below W.heap.size W w') :
    Calls Tryz.prog 18 #[.slice ao S.length cap, .func (.func g) #[] lbv] w fun e w' => ∃ vy vn, e = .returned (.tuple #[vy, vn]) ∧ ∃ xy xn, PB w w' Z vy xy (HD.kp p S) vn xn (HD.kp (fun L t => !p L t) S) := by
  have HS := hid hS
  have HC := hid hcall
  have HLs := hid hls
  clear hS hcall hls
  go_enter Tryz.func18, Tryz.ntmps18
  go_wp2_with fail
  go_loopw [4, 5, 14] (fun ty tn ti wr => ∃ (i : Nat) (xy xn : List (Value × Value)), i ≤ S.length ∧ ti = .int .i64 i ∧ PB w wr Z ty xy (HD.kp p (S.take i)) tn xn (HD.kp (fun L t => !p L t) (S.take i))) (fun _ _ ti _ => S.length - (intOf ti).toNat)
  case atStart => exact ⟨0, [], [], Nat.zero_le _, rfl, RB.nil _ _, RB.nil _ _, .inl rfl⟩
  case round =>
    obtain ⟨i, xy, xn, hi, rfl, hpb⟩ := hrel
    have HPB := hid hpb
    clear hpb
    by_cases hlt : i < S.length
    · obtain ⟨b, off, hao, hbs, hbz, lo, lc, so, sc, d0, d1, hLO, hSO⟩ := HS.out i hlt
      subst hao
      have c0 : wr.cell? ⟨b, off + i * 2, none⟩ = some (.slice lo (atSr S i).1.length lc) := (HPB.out.yes.bel.cell (p := ⟨b, _, none⟩) hbs).trans d0
      have c1 : wr.cell? ⟨b, off + i * 2 + 1, none⟩ = some (.slice so (atSr S i).2.length sc) := (HPB.out.yes.bel.cell (p := ⟨b, _, none⟩) hbs).trans d1
      obtain ⟨hl1, hl2⟩ := HLs.out i hlt
      have HLO := hid hLO
      have HSO := hid hSO
      have hil : 0 ≤ (i : Int) ∧ (i : Int) < (S.length : Int) := by omega
      clear d0 d1 hLO hSO
      go_wp2_with fail
      go_region
      have HP := hid (part_new1 wr (.slice lo (atSr S i).1.length lc) (.slice so (atSr S i).2.length sc))
      generalize World.drew _ = w1 at HP ⊢
      generalize wr.heap.size + 1 + 1 = B at HP ⊢
      generalize wr.heap.size + 1 = A at HP ⊢
      rotate_left
      have HP := hid (part_new2 wr (.slice lo (atSr S i).1.length lc) (.slice so (atSr S i).2.length sc))
      generalize World.drew _ = w1 at HP ⊢
      generalize wr.heap.size + 1 + 1 = A at HP ⊢
      generalize wr.heap.size + 1 = B at HP ⊢
      rotate_left
      all_goals
        obtain ⟨w0, hw0⟩ : ∃ w0, w0 = wr := ⟨_, rfl⟩
        subst hw0
        have p1 : w1.cell? ⟨w0.heap.size, 1, none⟩ = some (.slice so (atSr S i).2.length sc) := zcell' _ _ _ _ HP.out.b0 1 _ rfl
        clear c0 c1 hil
        obtain ⟨LL, hLL⟩ : ∃ LL, (atSr S i).1 = LL := ⟨_, rfl⟩
        obtain ⟨SL, hSL⟩ : ∃ SL, (atSr S i).2 = SL := ⟨_, rfl⟩
        rw [hLL] at HLO hl1 HP ⊢
        rw [hSL] at HSO hl2 HP p1 ⊢
        have HLL := hid hLL
        have HSL := hid hSL
        clear hLL hSL
        go_wp2_with fail
        go_loopw [27] (fun ti w2 => ∃ (k : Nat) (va vb : Value), k ≤ SL.length ∧ ti = .int .i64 k ∧ PIn w0 w2 w0.heap.size A B (.slice lo LL.length lc) va vb ((SL.take k).filter fun s => p LL s.1) ((SL.take k).filter fun s => !p LL s.1) (.slice so SL.length sc)) (fun ti _ => SL.length - (intOf ti).toNat)
        case atStart => exact ⟨0, _, _, Nat.zero_le _, rfl, HP.out⟩
        case round =>
          clear HP p1
          obtain ⟨k, va, vb, hk, rfl, hpi⟩ := hrel
          have HPI := hid hpi
          clear hpi
          by_cases hkl : k < SL.length
          · obtain ⟨b', off', hso, d0, d1, hbs'⟩ := HSO.out.1 k hkl
            subst hso
            have hbw := bel2 HPB.out.yes.bel HPI.out.tw.bel
            have e0 : wr.cell? ⟨b', off' + k * 2, none⟩ = some (.int .i64 (CL.at' SL k).1) := (hbw.cell (p := ⟨b', _, none⟩) hbs').trans d0
            have e1 : wr.cell? ⟨b', off' + k * 2 + 1, none⟩ = some (.int .i64 (CL.at' SL k).2) := (hbw.cell (p := ⟨b', _, none⟩) hbs').trans d1
            have HTk := hid (take_smp SL k hkl)
            have hlo : ((SL.take k).filter fun s => p LL s.1).length ≤ 100000 := Nat.le_trans (List.length_filter_le _ _) (by rw [List.length_take]; omega)
            have hll : ((SL.take k).filter fun s => !p LL s.1).length ≤ 100000 := Nat.le_trans (List.length_filter_le _ _) (by rw [List.length_take]; omega)
            clear d0 d1
            generalize hsm : CL.at' SL k = sm at *
            obtain ⟨st, sx⟩ := sm
            simp only at e0 e1
            clear hsm
            have hbelx : Below wr.heap.size wr (wr.alloc (boxS st sx)) := (Below.refl _ wr).alloc (Nat.le_refl _) _
            have hbx : (wr.alloc (boxS st sx)).heap[wr.heap.size]? = some (boxS st sx) := heap_alloc_new wr _
            have HCx := hid (HC.out _ (bel2 hbw hbelx) lo LL lc st (HLO.out.1.below (bel2 hbw hbelx)) hl1)
            have HP1 := hid (HPI.out.below hbelx)
            have HBx := hid hbx
            have x0 : (wr.alloc (boxS st sx)).cell? ⟨w0.heap.size, 0, none⟩ = some (.slice lo LL.length lc) := zcell' _ _ _ _ HP1.out.b0 0 _ rfl
            have hkk : 0 ≤ (k : Int) ∧ (k : Int) < (SL.length : Int) := by omega
            clear hbelx hbx hbw
            go_wp2_with fail
            refine HCx.out.mono ?_
            rintro e w3 ⟨rfl, hb3⟩
            have HP3 := hid (HP1.out.below hb3)
            have hbx3 := (hb3.block wr.heap.size (heap_lt HBx.out)).trans HBx.out
            have c0 : w3.cell? ⟨wr.heap.size, 0, none⟩ = some (.int .i64 st) := zcell' _ _ _ _ hbx3 0 _ rfl
            have c1 : w3.cell? ⟨wr.heap.size, 1, none⟩ = some (.int .i64 sx) := zcell' _ _ _ _ hbx3 1 _ rfl
            clear hb3 HCx hbx3 x0
            rcases hp : p LL st with _ | _
            · have HPp := hid hp
              clear hp
              have q1 : w3.cell? ⟨B, 1, none⟩ = some vb := zcell' _ _ _ _ HP3.out.b2 1 _ rfl
              have ha := app_smp (w3.alloc (boxS st sx)) w0.heap.size w3.heap.size vb _ (st, sx) (heap_alloc_new w3 _) (HP3.out.tw.left.alloc _) (by omega) (by simp; exact Nat.le_succ_of_le HP3.out.tw.bel.size)
              obtain ⟨v4, w4, hrun, k1, k2, k3⟩ := ha
              have hP4 := HP3.out.below ((Below.refl _ w3).alloc (Nat.le_refl _) (boxS st sx))
              have hb4 : w4.heap[B]? = some (.cells #[.slice lo LL.length lc, vb] 55) := (k2.block B (heap_lt hP4.b2) (fun e => own_kind hP4.tw.left hP4.b2 (by decide) e.symm)).trans hP4.b2
              have HP4 := hid (hP4.growB k1 k2 k3)
              have q4 : w4.cell? ⟨B, 1, none⟩ = some vb := zcell' _ _ _ _ hb4 1 _ rfl
              have f4 : w4.frozen? ⟨B, 1, none⟩ = false := hfz hb4 1
              obtain ⟨a3, c3, e3⟩ := own_slice k1
              obtain ⟨a5, c5, e5⟩ := own_slice HP3.out.tw.left
              clear k1 k2 k3 hb4 hP4
              subst e3
              rw [e5] at hrun q1 q4
              subst e5
              go_wp2_with (at_builtin; refine Lib.wpList_append_run _ rfl _ _ _ _ rfl _ _ rfl rfl _ _ hrun ?_)
              go_roundw
              case rel =>
                have f1 : ((SL.take (k + 1)).filter fun s => p LL s.1) = ((SL.take k).filter fun s => p LL s.1) := by
                  rw [HTk.out, List.filter_append, List.filter_cons, if_neg (by simp [HPp.out])]; simp
                have f2 : ((SL.take (k + 1)).filter fun s => !p LL s.1) = ((SL.take k).filter fun s => !p LL s.1) ++ [(st, sx)] := by
                  rw [HTk.out, List.filter_append, List.filter_cons, if_pos (by simp [HPp.out])]; simp
                have := HP4.out
                simp only [List.length_append, List.length_cons, List.length_nil] at this
                rw [← f1, ← f2] at this
                exact ⟨k + 1, _, _, by omega, by go_num, this⟩
              case measure => simp [intOf]; omega
            · have HPp := hid hp
              clear hp
              have q1 : w3.cell? ⟨A, 1, none⟩ = some va := zcell' _ _ _ _ HP3.out.b1 1 _ rfl
              have ha := app_smp (w3.alloc (boxS st sx)) w0.heap.size w3.heap.size va _ (st, sx) (heap_alloc_new w3 _) (HP3.out.tw.out.alloc _) (by omega) (by simp; exact Nat.le_succ_of_le HP3.out.tw.bel.size)
              obtain ⟨v4, w4, hrun, k1, k2, k3⟩ := ha
              have hP4 := HP3.out.below ((Below.refl _ w3).alloc (Nat.le_refl _) (boxS st sx))
              have hb4 : w4.heap[A]? = some (.cells #[.slice lo LL.length lc, va] 55) := (k2.block A (heap_lt hP4.b1) (fun e => own_kind hP4.tw.out hP4.b1 (by decide) e.symm)).trans hP4.b1
              have HP4 := hid (hP4.growA k1 k2 k3)
              have q4 : w4.cell? ⟨A, 1, none⟩ = some va := zcell' _ _ _ _ hb4 1 _ rfl
              have f4 : w4.frozen? ⟨A, 1, none⟩ = false := hfz hb4 1
              obtain ⟨a3, c3, e3⟩ := own_slice k1
              obtain ⟨a5, c5, e5⟩ := own_slice HP3.out.tw.out
              clear k1 k2 k3 hb4 hP4
              subst e3
              rw [e5] at hrun q1 q4
              subst e5
              go_wp2_with (at_builtin; refine Lib.wpList_append_run _ rfl _ _ _ _ rfl _ _ rfl rfl _ _ hrun ?_)
              go_roundw
              case rel =>
                have f1 : ((SL.take (k + 1)).filter fun s => p LL s.1) = ((SL.take k).filter fun s => p LL s.1) ++ [(st, sx)] := by
                  rw [HTk.out, List.filter_append, List.filter_cons, if_pos (by simp [HPp.out])]; simp
                have f2 : ((SL.take (k + 1)).filter fun s => !p LL s.1) = ((SL.take k).filter fun s => !p LL s.1) := by
                  rw [HTk.out, List.filter_append, List.filter_cons, if_neg (by simp [HPp.out])]; simp
                have := HP4.out
                simp only [List.length_append, List.length_cons, List.length_nil] at this
                rw [← f1, ← f2] at this
                exact ⟨k + 1, _, _, by omega, by go_num, this⟩
              case measure => simp [intOf]; omega
          · have he : k = SL.length := by omega
            subst he
            have h1 := HPI.out
            rw [List.take_length] at h1
            have HP5 := hid h1
            clear h1 HPI
            obtain ⟨ya, hya⟩ : ∃ ya, (SL.filter fun s => p LL s.1) = ya := ⟨_, rfl⟩
            obtain ⟨yb, hyb⟩ : ∃ yb, (SL.filter fun s => !p LL s.1) = yb := ⟨_, rfl⟩
            rw [hya, hyb] at HP5
            have HYa := hid hya
            have HYb := hid hyb
            clear hya hyb
            have q1 : wr.cell? ⟨A, 1, none⟩ = some va := zcell' _ _ _ _ HP5.out.b1 1 _ rfl
            have q0 : wr.cell? ⟨A, 0, none⟩ = some (.slice lo LL.length lc) := zcell' _ _ _ _ HP5.out.b1 0 _ rfl
            obtain ⟨a5, c5, e5⟩ := own_slice HP5.out.tw.out
            obtain ⟨a6, c6, e6⟩ := own_slice HP5.out.tw.left
            obtain ⟨a8, c8, e8⟩ := own_slice HPB.out.yes.row
            obtain ⟨a9, c9, e9⟩ := own_slice HPB.out.no.row
            subst e5
            subst e6
            subst e8
            subst e9
            have HPw := hid (HPB.out.below HP5.out.tw.bel)
            have hky := kp_len p S i
            have hkn := kp_len (fun L t => !p L t) S i
            have hwl := HPB.out.yes.bel.size
            have HY := hid (row_low HP5.out.tw.out hwl)
            have HN := hid (row_low HP5.out.tw.left hwl)
            have HYp : Hid ((atSr S i).2.filter (fun s => p (atSr S i).1 s.1) = ya) := by rw [HLL.out, HSL.out]; exact HYa
            have HNp : Hid ((atSr S i).2.filter (fun s => !p (atSr S i).1 s.1) = yb) := by rw [HLL.out, HSL.out]; exact HYb
            go_upto_if 53 with fail
            go_cut [4] (fun t4 wx => ∃ xy', PB w wx Z t4 xy' (HD.kp p (S.take (i + 1))) (.slice a9 (HD.kp (fun L t => !p L t) (S.take i)).length c9) xn (HD.kp (fun L t => !p L t) (S.take i)) ∧ wx.heap[B]? = some (.cells #[.slice lo LL.length lc, .slice a6 yb.length c6] 55) ∧ OwnSm wx w.heap.size (.slice a6 yb.length c6) yb)
            case first =>
              by_cases hpos : 0 < ya.length
              · have hgt : (0 : Int) < (ya.length : Int) := by omega
                have hbw : Below wr.heap.size wr (wr.alloc (.cells #[.slice lo LL.length lc, .slice a5 ya.length c5] 55)) := (Below.refl _ wr).alloc (Nat.le_refl _) _
                have ha := app_ser (wr.alloc (.cells #[.slice lo LL.length lc, .slice a5 ya.length c5] 55)) w.heap.size wr.heap.size (.slice a8 (HD.kp p (S.take i)).length c8) (.slice lo LL.length lc) (.slice a5 ya.length c5) _ _ (heap_alloc_new wr _) rfl rfl (HPw.out.yes.row.alloc _) (by omega) (by simp; exact Nat.le_succ_of_le HPw.out.yes.bel.size)
                obtain ⟨v7, w7, hrun, k1, k2, k3⟩ := ha
                have hP7 := (HPw.out.below hbw).pushY (x := (LL, ya)) (.inl ⟨lo, lc, rfl, HLO.out⟩) (.inr (row_kept HY.out fun g _ hg => hbw.block g (heap_lt hg))) k1 k2 k3
                have HG : Hid (∃ xy', PB w w7 Z v7 xy' (HD.kp p (S.take (i + 1))) (.slice a9 (HD.kp (fun L t => !p L t) (S.take i)).length c9) xn (HD.kp (fun L t => !p L t) (S.take i)) ∧ w7.heap[B]? = some (.cells #[.slice lo LL.length lc, .slice a6 yb.length c6] 55) ∧ OwnSm w7 w.heap.size (.slice a6 yb.length c6) yb) := by
                  refine ⟨xy ++ [(.slice lo LL.length lc, .slice a5 ya.length c5)], ?_, ?_, ?_⟩
                  · rw [kp_yes hlt HYp.out hpos, HLL.out]; exact hP7
                  · have hB := (hbw.block B (heap_lt HP5.out.b2)).trans HP5.out.b2
                    exact (k2.block B (heap_lt hB) (fun e => by have := (HPB.out.yes.row.lt B e.symm).2; have := HP5.out.ge.2; omega)).trans hB
                  · exact kind_grown (HPw.out.below hbw).yes.row (row_kept HN.out fun g _ hg => hbw.block g (heap_lt hg)) (by decide) k2
                obtain ⟨a7, c7, e7⟩ := own_slice k1
                clear k1 k2 k3 hbw hP7
                subst e7
                go_wp2_with (at_builtin; refine Lib.wpList_append_run _ rfl _ _ _ _ rfl _ _ rfl rfl _ _ hrun ?_)
                go_meet
                case rel => exact HG.out
              · have hgt : ¬ (0 : Int) < (ya.length : Int) := by omega
                have HG : Hid (∃ xy', PB w wr Z (.slice a8 (HD.kp p (S.take i)).length c8) xy' (HD.kp p (S.take (i + 1))) (.slice a9 (HD.kp (fun L t => !p L t) (S.take i)).length c9) xn (HD.kp (fun L t => !p L t) (S.take i)) ∧ wr.heap[B]? = some (.cells #[.slice lo LL.length lc, .slice a6 yb.length c6] 55) ∧ OwnSm wr w.heap.size (.slice a6 yb.length c6) yb) := ⟨xy, by rw [kp_no hlt HYp.out hpos]; exact HPw.out, HP5.out.b2, HN.out⟩
                go_wp2_with fail
                go_meet
                case rel => exact HG.out
            case rest =>
              obtain ⟨xy', hc1, hc2, hc3⟩ := hcut
              have HC1 := hid hc1
              have HC3 := hid hc3
              have r1 : wc.cell? ⟨B, 1, none⟩ = some (.slice a6 yb.length c6) := zcell' _ _ _ _ hc2 1 _ rfl
              have r0 : wc.cell? ⟨B, 0, none⟩ = some (.slice lo LL.length lc) := zcell' _ _ _ _ hc2 0 _ rfl
              clear hc1 hc2 hc3 q0 q1 HPw HY HN
              by_cases hpos : 0 < yb.length
              · have hgt : (0 : Int) < (yb.length : Int) := by omega
                have hbw : Below wc.heap.size wc (wc.alloc (.cells #[.slice lo LL.length lc, .slice a6 yb.length c6] 55)) := (Below.refl _ wc).alloc (Nat.le_refl _) _
                have ha := app_ser (wc.alloc (.cells #[.slice lo LL.length lc, .slice a6 yb.length c6] 55)) w.heap.size wc.heap.size (.slice a9 (HD.kp (fun L t => !p L t) (S.take i)).length c9) (.slice lo LL.length lc) (.slice a6 yb.length c6) _ _ (heap_alloc_new wc _) rfl rfl (HC1.out.no.row.alloc _) (by omega) (by simp; exact Nat.le_succ_of_le HC1.out.no.bel.size)
                obtain ⟨v7, w7, hrun, k1, k2, k3⟩ := ha
                have hP7 := (HC1.out.below hbw).pushN (x := (LL, yb)) (.inl ⟨lo, lc, rfl, HLO.out⟩) (.inr (row_kept HC3.out fun g _ hg => hbw.block g (heap_lt hg))) k1 k2 k3
                have HG : Hid (PB w w7 Z u4 xy' (HD.kp p (S.take (i + 1))) v7 (xn ++ [(.slice lo LL.length lc, .slice a6 yb.length c6)]) (HD.kp (fun L t => !p L t) (S.take (i + 1)))) := by
                  rw [kp_yes (p := fun L t => !p L t) hlt HNp.out hpos, HLL.out]; exact hP7
                obtain ⟨a7, c7, e7⟩ := own_slice k1
                clear k1 k2 k3 hbw hP7
                subst e7
                go_wp2_with (at_builtin; refine Lib.wpList_append_run _ rfl _ _ _ _ rfl _ _ rfl rfl _ _ hrun ?_)
                go_roundw
                case rel => exact ⟨i + 1, _, _, by omega, by go_num, HG.out⟩
                case measure => simp [intOf]; omega
              · have hgt : ¬ (0 : Int) < (yb.length : Int) := by omega
                have HG : Hid (PB w wc Z u4 xy' (HD.kp p (S.take (i + 1))) (.slice a9 (HD.kp (fun L t => !p L t) (S.take i)).length c9) xn (HD.kp (fun L t => !p L t) (S.take (i + 1)))) := by
                  rw [kp_no (p := fun L t => !p L t) (i := i) hlt HNp.out hpos]; exact HC1.out
                go_wp2_with fail
                go_roundw
                case rel => exact ⟨i + 1, _, _, by omega, by go_num, HG.out⟩
                case measure => simp [intOf]; omega
    · have he : i = S.length := by omega
      subst he
      have h1 := HPB.out
      rw [List.take_length] at h1
      have HF := hid h1
      clear h1 HPB
      go_wp2_with fail
      go_ret2
      exact ⟨_, _, rfl, _, _, HF.out⟩

end Go.Proofs.YtdmnlmohfaafoadGreatDoor

