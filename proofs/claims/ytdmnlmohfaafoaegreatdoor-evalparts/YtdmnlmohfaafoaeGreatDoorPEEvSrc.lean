/- Rows of series that are made out of others: their labels and samples lie where they lay, or are new. Names no function (made by mkbk.py). The laws' source of series: what it tells of matchers, from one time to another. -/
import Derived.Test.YtdmnlmohfaafoaeGreatDoorPEBmMem
import Derived.Test.YtdmnlmohfaafoaeGreatDoorPEHxAsk
import Derived.Test.YtdmnlmohfaafoaeGreatDoorPEHcBetw
import Derived.Test.YtdmnlmohfaafoaeGreatDoorPEAqOk
namespace Go.Proofs.YtdmnlmohfaafoaeGreatDoor
open Go.RowKit

def RL (w wr : World) (Z : Nat → Prop) (u : Value) (l : List LB.Lab) : Prop := (∃ lo lc, u = .slice lo l.length lc ∧ LOut w Z lo l) ∨ OwnLb wr w.heap.size u l
def RS (w wr : World) (Z : Nat → Prop) (u : Value) (l : List CL.Smp) : Prop := (∃ so sc, u = .slice so l.length sc ∧ SOut w Z so l) ∨ OwnSm wr w.heap.size u l

structure RB (w wr : World) (Z : Nat → Prop) (v : Value) (xs : List (Value × Value)) (L : List Sr) : Prop where
  len : xs.length = L.length
  row : wr.ownsRow w.heap.size 61 2 v L.length (flat xs)
  bel : Below w.heap.size w wr
  labs : ∀ i, i < L.length → RL w wr Z (atX xs i).1 (atSr L i).1
  smps : ∀ i, i < L.length → RS w wr Z (atX xs i).2 (atSr L i).2

section
variable {w wr wr' : World} {Z : Nat → Prop} {v : Value} {xs : List (Value × Value)} {L : List Sr}

theorem RL.below {u : Value} {l : List LB.Lab} (h : RL w wr Z u l) (k : Below wr.heap.size wr wr') : RL w wr' Z u l := h.imp id fun h => row_kept h fun g _ hg => k.block g (heap_lt hg)
theorem RS.below {u : Value} {l : List CL.Smp} (h : RS w wr Z u l) (k : Below wr.heap.size wr wr') : RS w wr' Z u l := h.imp id fun h => row_kept h fun g _ hg => k.block g (heap_lt hg)
theorem RL.grown {u : Value} {l : List LB.Lab} (h : RL w wr Z u l) {base n : Nat} {ys : List Value} (hv : wr.ownsRow base 61 2 v n ys) (k : wr.grownBy wr' v.ownBlock) : RL w wr' Z u l := h.imp id fun h => kind_grown hv h (by decide) k
theorem RS.grown {u : Value} {l : List CL.Smp} (h : RS w wr Z u l) {base n : Nat} {ys : List Value} (hv : wr.ownsRow base 61 2 v n ys) (k : wr.grownBy wr' v.ownBlock) : RS w wr' Z u l := h.imp id fun h => kind_grown hv h (by decide) k

theorem RL.one {u : Value} {l : List LB.Lab} (h : RL w wr Z u l) : ∃ lo lc, u = .slice lo l.length lc := by
  rcases h with ⟨lo, lc, e, _⟩ | h
  · exact ⟨lo, lc, e⟩
  · exact own_slice h
theorem RS.one {u : Value} {l : List CL.Smp} (h : RS w wr Z u l) : ∃ so sc, u = .slice so l.length sc := by
  rcases h with ⟨so, sc, e, _⟩ | h
  · exact ⟨so, sc, e⟩
  · exact own_slice h

/-- Read, in the world that is there. -/
theorem RL.read {u : Value} {l : List LB.Lab} (h : RL w wr Z u l) (hb : Below w.heap.size w wr) : ∃ lo lc, u = .slice lo l.length lc ∧ LRow wr lo l := by
  rcases h with ⟨lo, lc, e, h⟩ | h
  · exact ⟨lo, lc, e, h.1.below hb⟩
  · exact LRow.of_own h
theorem RS.read {u : Value} {l : List CL.Smp} (h : RS w wr Z u l) (hb : Below w.heap.size w wr) : ∃ so sc, u = .slice so l.length sc ∧ SRow wr so l := by
  rcases h with ⟨so, sc, e, h⟩ | h
  · exact ⟨so, sc, e, h.1.below hb⟩
  · exact SRow.of_own h

theorem RB.nil (w : World) (Z : Nat → Prop) : RB w w Z (.slice none 0 0) [] [] := ⟨rfl, ⟨rfl, .inl ⟨rfl, rfl⟩⟩, Below.refl _ _, fun i hi => by simp at hi, fun i hi => by simp at hi⟩

theorem RB.below (h : RB w wr Z v xs L) (k : Below wr.heap.size wr wr') : RB w wr' Z v xs L :=
  ⟨h.len, row_kept h.row fun g _ hg => k.block g (heap_lt hg), bel2 h.bel k, fun i hi => (h.labs i hi).below k, fun i hi => (h.smps i hi).below k⟩

/-- One more. -/
theorem RB.push (h : RB w wr Z v xs L) {v' a b : Value} {x : Sr} (ha : RL w wr Z a x.1) (hb : RS w wr Z b x.2) (hr : wr'.ownsRow w.heap.size 61 2 v' (L.length + 1) (flat xs ++ [a, b])) (k : wr.grownBy wr' v.ownBlock) : RB w wr' Z v' (xs ++ [(a, b)]) (L ++ [x]) := by
  refine ⟨by rw [List.length_append, List.length_append, h.len]; rfl, ?_, h.bel.grown k h.bel.size (fun j hj => (h.row.lt j hj).1), fun i hi => ?_, fun i hi => ?_⟩
  · rw [List.length_append, flat_append]
    exact hr
  · rw [List.length_append] at hi
    rw [atX_snoc, atSr_snoc L x i hi, h.len]
    by_cases hlt : i < L.length
    · rw [if_pos hlt, if_pos hlt]; exact (h.labs i hlt).grown h.row k
    · rw [if_neg hlt, if_neg hlt, if_pos (by simp only [List.length_cons, List.length_nil] at hi; omega)]; exact ha.grown h.row k
  · rw [List.length_append] at hi
    rw [atX_snoc, atSr_snoc L x i hi, h.len]
    by_cases hlt : i < L.length
    · rw [if_pos hlt, if_pos hlt]; exact (h.smps i hlt).grown h.row k
    · rw [if_neg hlt, if_neg hlt, if_pos (by simp only [List.length_cons, List.length_nil] at hi; omega)]; exact hb.grown h.row k

/-- The row, read; none of it in Z. -/
theorem RB.out (h : RB w wr Z v xs L) (hz : ∀ j, Z j → j < w.heap.size) : ∃ ao cap, v = .slice ao L.length cap ∧ SrOut wr Z ao L := by
  have key : ∀ j, w.heap.size ≤ j → ¬ Z j := fun j hj e => by have := hz j e; omega
  rcases h.row.2 with ⟨h0, hn⟩ | ⟨g, cap, cur, h0, hg, hc, _⟩
  · exact ⟨none, 0, by rw [h0, hn], fun i hi => by omega⟩
  · refine ⟨some ⟨g, 0, none⟩, cap, h0, fun i hi => ⟨g, 0, rfl, heap_lt hc, key g hg, ?_⟩⟩
    obtain ⟨q1, q2⟩ := flat_get xs i (by rw [h.len]; exact hi)
    have c := h.row.cells (g := g) (by rw [h0]; rfl)
    have c1 := c _ _ q1
    have c2 := c _ _ q2
    rw [Addr.add_lit, Nat.zero_add] at c1 c2
    have hl : ∃ lo lc, (atX xs i).1 = .slice lo (atSr L i).1.length lc ∧ LOut wr Z lo (atSr L i).1 := by
      rcases h.labs i hi with ⟨lo, lc, e, h1⟩ | h1
      · exact ⟨lo, lc, e, h1.kept (ZFr.below h.bel)⟩
      · obtain ⟨lo, lc, e, h2⟩ := LRow.of_own h1
        exact ⟨lo, lc, e, h2, fun a ha _ => key _ (h1.lt a.block (by rw [e, ha]; rfl)).1⟩
    have hs : ∃ so sc, (atX xs i).2 = .slice so (atSr L i).2.length sc ∧ SOut wr Z so (atSr L i).2 := by
      rcases h.smps i hi with ⟨lo, lc, e, h1⟩ | h1
      · exact ⟨lo, lc, e, h1.kept (ZFr.below h.bel)⟩
      · obtain ⟨lo, lc, e, h2⟩ := SRow.of_own h1
        exact ⟨lo, lc, e, h2, fun a ha _ => key _ (h1.lt a.block (by rw [e, ha]; rfl)).1⟩
    obtain ⟨lo, lc, e1, r1⟩ := hl
    obtain ⟨so, sc, e2, r2⟩ := hs
    exact ⟨lo, lc, so, sc, by rw [Nat.zero_add, c1, e1], by rw [Nat.zero_add, c2, e2], r1, r2⟩

end

end Go.Proofs.YtdmnlmohfaafoaeGreatDoor

namespace Go.Proofs.YtdmnlmohfaafoaeGreatDoor
open Go.RowKit

theorem src_take (S : List Sr) (m : List LB.Mat) (f t : Int) (i : Nat) (h : i < S.length) : EV.src (S.take (i + 1)) m f t = EV.src (S.take i) m f t ++ (if 0 < (EV.betw f t (atSr S i).2).length ∧ LB.all (atSr S i).1 m = true then [((atSr S i).1, EV.betw f t (atSr S i).2)] else []) := by
  have e : atSr S i = S[i] := by simp [atSr, h]
  unfold EV.src
  rw [List.take_succ_eq_append_getElem h, List.filterMap_append, e]
  congr 1
  by_cases hh : 0 < (EV.betw f t S[i].2).length ∧ LB.all S[i].1 m = true
  · rw [if_pos hh]; simp [hh]
  · rw [if_neg hh, List.filterMap_cons, if_neg hh]; rfl

theorem src_len (S : List Sr) (m : List LB.Mat) (f t : Int) : (EV.src S m f t).length ≤ S.length := List.length_filterMap_le _ _

abbrev NoZ : Nat → Prop := fun _ => False

set_option maxRecDepth 100000 in
set_option maxHeartbeats 6400000 in
theorem esrc_any {Z : Nat → Prop} (bx : Nat) (ao mo : Option Addr) (S : List Sr) (m : List LB.Mat) (cap cm : Nat) (f t : Int) (w : World) (hbx : w.cell? ⟨bx, 0, none⟩ = some (.slice ao S.length cap)) (hS : SrOut w Z ao S) (hM : MRow w mo m) (hn : S.length ≤ 1000) (hls : ∀ i, i < S.length → (atSr S i).1.length ≤ 1000 ∧ (atSr S i).2.length ≤ 2000) (hm : m.length ≤ 1000) :
    Calls Tryz.prog 79 #[.slice mo m.length cm, .int .i64 f, .int .i64 t, .pointer (some ⟨bx, 0, none⟩)] w fun e w' => ∃ v, e = .returned (.tuple #[v, .nilIface]) ∧ ∃ xs, RB w w' Z v xs (EV.src S m f t) := by
  have HS := hid hS
  have HM := hid hM
  have HLs := hid hls
  have HBx := hid hbx
  have hbl := World.block_lt_of_cell? _ _ hbx
  clear hS hM hls hbx
  go_enter Tryz.func79, Tryz.ntmps79
  go_wp2_with fail
  go_loopw [9, 10] (fun tv ti wr => ∃ (i : Nat) (xs : List (Value × Value)), i ≤ S.length ∧ ti = .int .i64 i ∧ RB w wr Z tv xs (EV.src (S.take i) m f t)) (fun _ ti _ => S.length - (intOf ti).toNat)
  case atStart => exact ⟨0, [], Nat.zero_le _, rfl, RB.nil _ _⟩
  case round =>
    obtain ⟨i, xs, hi, rfl, hrb⟩ := hrel
    have HRB := hid hrb
    clear hrb
    have cbx : wr.cell? ⟨bx, 0, none⟩ = some (.slice ao S.length cap) := (HRB.out.bel.cell (p := ⟨bx, 0, none⟩) hbl).trans HBx.out
    by_cases hlt : i < S.length
    · obtain ⟨b, off, hao, hbs, hbz, lo, lc, so, sc, d0, d1, hLO, hSO⟩ := HS.out i hlt
      subst hao
      have c0 : wr.cell? ⟨b, off + i * 2, none⟩ = some (.slice lo (atSr S i).1.length lc) := (HRB.out.bel.cell (p := ⟨b, _, none⟩) hbs).trans d0
      have c1 : wr.cell? ⟨b, off + i * 2 + 1, none⟩ = some (.slice so (atSr S i).2.length sc) := (HRB.out.bel.cell (p := ⟨b, _, none⟩) hbs).trans d1
      obtain ⟨hl1, hl2⟩ := HLs.out i hlt
      have HLO := hid hLO
      have HSO := hid hSO
      have hil : 0 ≤ (i : Int) ∧ (i : Int) < (S.length : Int) := by omega
      clear hLO hSO
      go_wp2_with fail
      refine (between_any so (atSr S i).2 sc f t wr (HSO.out.1.below HRB.out.bel) (by omega)).mono ?_
      rintro e w1 ⟨v1, rfl, hown1, hb1⟩
      have HR1 := hid (HRB.out.below hb1)
      obtain ⟨o1, k1, rfl⟩ := own_slice hown1
      have cbx1 : w1.cell? ⟨bx, 0, none⟩ = some (.slice (some ⟨b, off, none⟩) S.length cap) := (HR1.out.bel.cell (p := ⟨bx, 0, none⟩) hbl).trans HBx.out
      have d0' : w1.cell? ⟨b, off + i * 2, none⟩ = some (.slice lo (atSr S i).1.length lc) := (HR1.out.bel.cell (p := ⟨b, _, none⟩) hbs).trans d0
      have HTk := hid (src_take S m f t i hlt)
      have HO1 : Hid (OwnSm w1 w.heap.size (.slice o1 (betw f t (atSr S i).2).length k1) (EV.betw f t (atSr S i).2)) := hown1.mono HRB.out.bel.size
      have hlb : (EV.src (S.take i) m f t).length ≤ 1000 := Nat.le_trans (src_len _ _ _ _) (Nat.le_trans (List.length_take_le' _ _) hn)
      have HLO1 := hid (HLO.out.1.below HR1.out.bel)
      have HM1 := hid (HM.out.below HR1.out.bel)
      clear hown1 hb1 cbx c0 c1 d0 d1 HRB
      by_cases hp : 0 < (betw f t (atSr S i).2).length
      · have hp' : decide (((betw f t (atSr S i).2).length : Int) > 0) = true := decide_eq_true (by omega)
        go_wp2_with fail
        refine (all_any lo mo (atSr S i).1 m lc cm w1 HLO1.out HM1.out hl1 hm).mono ?_
        rintro e w2 ⟨rfl, hb2⟩
        have HR2 := hid (HR1.out.below hb2)
        have cbx2 : w2.cell? ⟨bx, 0, none⟩ = some (.slice (some ⟨b, off, none⟩) S.length cap) := (HR2.out.bel.cell (p := ⟨bx, 0, none⟩) hbl).trans HBx.out
        have d2 : w2.cell? ⟨b, off + i * 2, none⟩ = some (.slice lo (atSr S i).1.length lc) := (hb2.cell (p := ⟨b, _, none⟩) (World.block_lt_of_cell? _ _ d0')).trans d0'
        have HO2 : Hid (OwnSm w2 w.heap.size (.slice o1 (betw f t (atSr S i).2).length k1) (EV.betw f t (atSr S i).2)) := row_kept HO1.out fun g _ hg => hb2.block g (heap_lt hg)
        clear hb2 cbx1 d0' HR1 HO1 HLO1 HM1
        rcases hq : LB.all (atSr S i).1 m with _ | _
        · have HT2 : Hid (EV.src (S.take (i + 1)) m f t = EV.src (S.take i) m f t) := by
            show _ = _
            rw [HTk.out, if_neg (fun h => by rw [hq] at h; exact Bool.noConfusion h.2), List.append_nil]
          clear hq HTk
          go_wp2_with fail
          go_roundw
          case rel =>
            refine ⟨i + 1, xs, by omega, by go_num, ?_⟩
            rw [HT2.out]
            exact HR2.out
          case measure => simp [intOf]; omega
        · have HT2 : Hid (EV.src (S.take (i + 1)) m f t = EV.src (S.take i) m f t ++ [((atSr S i).1, EV.betw f t (atSr S i).2)]) := by
            show _ = _
            rw [HTk.out, if_pos ⟨hp, hq⟩]
          clear hq HTk
          have hw2 := HR2.out.bel.size
          have hkb : Below w2.heap.size w2 (w2.alloc (.cells #[.slice lo (atSr S i).1.length lc, .slice o1 (betw f t (atSr S i).2).length k1] 61)) := (Below.refl _ w2).alloc (Nat.le_refl _) _
          have hR3 := HR2.out.below hkb
          have hO3 : OwnSm (w2.alloc (.cells #[.slice lo (atSr S i).1.length lc, .slice o1 (betw f t (atSr S i).2).length k1] 61)) w.heap.size (.slice o1 (betw f t (atSr S i).2).length k1) (EV.betw f t (atSr S i).2) := row_kept HO2.out fun g _ hg => hkb.block g (heap_lt hg)
          obtain ⟨v4, w4, hrun, q1, q2, _⟩ := app_ser (w2.alloc (.cells #[.slice lo (atSr S i).1.length lc, .slice o1 (betw f t (atSr S i).2).length k1] 61)) w.heap.size w2.heap.size u9 (.slice lo (atSr S i).1.length lc) (.slice o1 (betw f t (atSr S i).2).length k1) _ _ (heap_alloc_new w2 _) rfl rfl hR3.row (by omega) (by simp; omega)
          have hG := (hR3.push (x := ((atSr S i).1, EV.betw f t (atSr S i).2)) (.inl ⟨lo, lc, rfl, HLO.out⟩) (.inr hO3) q1 q2)
          rw [← HT2.out] at hG
          have HG := hid hG
          clear hG
          obtain ⟨a5, c5, e5⟩ := own_slice HR2.out.row
          obtain ⟨a7, c7, e7⟩ := own_slice q1
          clear q1 q2 hR3 hO3 hkb HR2 HO2 hw2
          subst e7
          rw [e5] at hrun
          subst e5
          go_wp2_with (at_builtin; refine Lib.wpList_append_run _ rfl _ _ _ _ rfl _ _ rfl rfl _ _ hrun ?_)
          go_roundw
          case rel => exact ⟨i + 1, _, by omega, by go_num, HG.out⟩
          case measure => simp [intOf]; omega
      · have hp' : decide (((betw f t (atSr S i).2).length : Int) > 0) = false := decide_eq_false (by omega)
        have HT2 : Hid (EV.src (S.take (i + 1)) m f t = EV.src (S.take i) m f t) := by
          show _ = _
          rw [HTk.out, if_neg (fun h => hp h.1), List.append_nil]
        clear HTk
        go_wp2_with fail
        go_roundw
        case rel =>
          refine ⟨i + 1, xs, by omega, by go_num, ?_⟩
          rw [HT2.out]
          exact HR1.out
        case measure => simp [intOf]; omega
    · have e : i = S.length := by omega
      subst e
      rw [List.take_length] at HRB
      go_wp2_with fail
      go_ret2
      exact ⟨_, rfl, xs, HRB.out⟩

end Go.Proofs.YtdmnlmohfaafoaeGreatDoor

