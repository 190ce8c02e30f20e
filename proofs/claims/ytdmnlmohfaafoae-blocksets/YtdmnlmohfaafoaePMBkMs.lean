/- The document's MergeSeries (its drawn region written by a program). -/
import Derived.Test.YtdmnlmohfaafoaePMBkSort
import Derived.Test.YtdmnlmohfaafoaePMBkFind
import Derived.Test.YtdmnlmohfaafoaePMBmApp
import Derived.Test.YtdmnlmohfaafoaePMBmRefM
import Derived.Test.YtdmnlmohfaafoaePMBkGn
namespace Go.Proofs.Ytdmnlmohfaafoae
open Go.RowKit

/-- Series that come in: in order, short, their samples' slices no longer than their room. -/
structure MsIn (w : World) (Z : Nat → Prop) (ao : Option Addr) (a : List Sr) : Prop where
  out : SrOut w Z ao a
  ord : HD.Ord a
  len : a.length ≤ 100
  labs : ∀ i, i < a.length → (atSr a i).1.length ≤ 1000
  smps : ∀ i, i < a.length → (atSr a i).2.length ≤ 60 ∧ (∀ s ∈ (atSr a i).2, CL.Rs s) ∧ CL.Rising (atSr a i).2
  caps : ∀ i, i < a.length → ∀ b off, ao = some ⟨b, off, none⟩ → ∀ v, w.cell? ⟨b, off + i * 2 + 1, none⟩ = some v → CapV v

/-- On the way. -/
structure MsI (w wr : World) (Z : Nat → Prop) (a b : List Sr) (j g gc : Nat) (ys : List (Value × Value)) (out : List Sr) : Prop where
  row : RB w wr Z (.slice (some ⟨g, 0, none⟩) out.length gc) ys out
  way : BK.Way a b j out
  caps : ∀ i, i < out.length → CapV (atX ys i).2
  labs : ∀ i, i < out.length → (atSr out i).1.length ≤ 1000
  len : out.length ≤ a.length + j

theorem MsI.below {w wr wr' : World} {Z : Nat → Prop} {a b : List Sr} {j g gc : Nat} {ys : List (Value × Value)} {out : List Sr} (h : MsI w wr Z a b j g gc ys out) (k : Below wr.heap.size wr wr') : MsI w wr' Z a b j g gc ys out := ⟨h.row.below k, h.way, h.caps, h.labs, h.len⟩

/-- One series in the place of another. -/
theorem MsI.set {w wr W : World} {Z : Nat → Prop} {a b : List Sr} {j g gc n : Nat} {ys : List (Value × Value)} {out : List Sr} {p q : Value} {y : Sr} (h : MsI w wr Z a b j g gc ys out) (hw : BK.Way a b (j + 1) (out.set n y)) (hr : RB w W Z (.slice (some ⟨g, 0, none⟩) out.length gc) (ys.set n (p, q)) (out.set n y)) (hl : y.1.length ≤ 1000) (hc : CapV q) : MsI w W Z a b (j + 1) g gc (ys.set n (p, q)) (out.set n y) := by
  refine ⟨by rw [List.length_set]; exact hr, hw, fun i hi => ?_, fun i hi => ?_, by rw [List.length_set]; have := h.len; omega⟩
  · rw [List.length_set] at hi
    by_cases hn : n < ys.length
    · rw [atX_set ys n i _ hn]
      by_cases e : i = n
      · rw [if_pos e]; exact hc
      · rw [if_neg e]; exact h.caps i hi
    · rw [List.set_eq_of_length_le (by omega)]; exact h.caps i hi
  · rw [List.length_set] at hi
    by_cases hn : n < out.length
    · rw [atSr_set out n i _ hn]
      by_cases e : i = n
      · rw [if_pos e]; exact hl
      · rw [if_neg e]; exact h.labs i hi
    · rw [List.set_eq_of_length_le (by omega)]; exact h.labs i hi

/-- One more behind them. -/
theorem MsI.push {w wr W : World} {Z : Nat → Prop} {a b : List Sr} {j g gc g' gc' : Nat} {ys : List (Value × Value)} {out : List Sr} {p q : Value} {y : Sr} (h : MsI w wr Z a b j g gc ys out) (hw : BK.Way a b (j + 1) (out ++ [y])) (hr : RB w W Z (.slice (some ⟨g', 0, none⟩) (out.length + 1) gc') (ys ++ [(p, q)]) (out ++ [y])) (hl : y.1.length ≤ 1000) (hc : CapV q) : MsI w W Z a b (j + 1) g' gc' (ys ++ [(p, q)]) (out ++ [y]) := by
  have hlen : (out ++ [y]).length = out.length + 1 := by rw [List.length_append]; rfl
  refine ⟨by rw [hlen]; exact hr, hw, fun i hi => ?_, fun i hi => ?_, by rw [hlen]; have := h.len; omega⟩
  · rw [hlen] at hi
    rw [atX_snoc, h.row.len]
    by_cases e : i < out.length
    · rw [if_pos e]; exact h.caps i e
    · rw [if_neg e, if_pos (by omega)]; exact hc
  · rw [hlen] at hi
    rw [atSr_snoc out y i hi]
    by_cases e : i < out.length
    · rw [if_pos e]; exact h.labs i e
    · rw [if_neg e]; exact hl

/-- What is told where a series' samples are put together. -/
def T7 (wc : World) (bx g n : Nat) (vR l1 a2 s1 : Value) (m : List CL.Smp) (L : Nat → Bool) (i : Nat) (W : World) (v : Value) : Prop := L 14 = false → match i with
  | 0 => v = vR
  | 1 => v = .int .i64 n
  | 2 => v = .pointer (some ⟨bx, 0, none⟩)
  | 3 => v = l1
  | 4 => v = vR
  | 5 => v = .int .i64 n
  | 6 => v = .pointer (some ⟨g, n * 2, none⟩)
  | 7 => v = .pointer (some ⟨g, n * 2 + 1, none⟩)
  | 8 => v = a2
  | 9 => v = .pointer (some ⟨bx, 1, none⟩)
  | 10 => v = s1
  | 11 => OwnSm W wc.heap.size v m
  | 12 => ∃ u, v = .agg #[l1, u] ∧ OwnSm W wc.heap.size u m
  | 13 => v = .pointer (some ⟨g, n * 2, none⟩)
  | _ => True

theorem T7.below {wc W W' : World} {bx g n : Nat} {vR l1 a2 s1 : Value} {m : List CL.Smp} {L L' : Nat → Bool} (h14 : L' 14 = L 14) (k : Below W.heap.size W W') : ∀ {i : Nat} {v : Value}, T7 wc bx g n vR l1 a2 s1 m L i W v → T7 wc bx g n vR l1 a2 s1 m L' i W' v := by
  intro i v h e14
  have h := h (by rw [← h14]; exact e14)
  match i, h with
  | 0, h => exact h
  | 1, h => exact h
  | 2, h => exact h
  | 3, h => exact h
  | 4, h => exact h
  | 5, h => exact h
  | 6, h => exact h
  | 7, h => exact h
  | 8, h => exact h
  | 9, h => exact h
  | 10, h => exact h
  | 11, h => exact row_kept h fun g _ hg => k.block g (heap_lt hg)
  | 12, ⟨u, q1, q2⟩ => exact ⟨u, q1, row_kept q2 fun g _ hg => k.block g (heap_lt hg)⟩
  | 13, h => exact h
  | _ + 14, _ => trivial

/-- A copy of a row of series, laid down. -/
theorem fresh_r (w : World) (Z : Nat → Prop) (ao : Option Addr) (a : List Sr) (c : Nat) (hA : SrOut w Z ao a) (hl : a.length ≤ 1000) :
    ∃ g gc w' xs, (Builtin.append_ #[22, 22] 22 #[.slice (some ⟨w.heap.size, 0, none⟩) 0 0, .slice ao a.length c]).run Try.prog (w.alloc (.cells #[] 44)) = .ok (.slice (some ⟨g, 0, none⟩) a.length gc) w' ∧ RB w w' Z (.slice (some ⟨g, 0, none⟩) a.length gc) xs a ∧ (∀ i, i < a.length → ∀ b off, ao = some ⟨b, off, none⟩ → w.cell? ⟨b, off + i * 2 + 1, none⟩ = some (atX xs i).2) := by
  obtain ⟨xs, x1, x2, x3, x4, x5⟩ := SrOut.cells hA
  have hal : Below w.heap.size w (w.alloc (.cells #[] 44)) := (Below.refl _ w).alloc (Nat.le_refl _) _
  obtain ⟨ti, ht, htz, hts, htb⟩ := sr_info
  have hcel : ∀ i, i < a.length → ∀ b off, ao = some ⟨b, off, none⟩ → w.cell? ⟨b, off + i * 2 + 1, none⟩ = some (atX xs i).2 := fun i hi b off e => by
    have := x2 _ e (i * 2 + 1) _ (flat_get xs i (by omega)).2
    rw [Addr.add_lit] at this
    exact this
  obtain ⟨v', W', hr, hown, hb⟩ := app_fresh (P := Try.prog) (w.alloc (.cells #[] 44)) w.heap.size 22 22 44 ti _ 48 Try.uSrs ht htz hts htb rfl w.heap.size (heap_alloc_new w _) (Nat.le_refl _) ao a.length c (flat xs) x3 (by rw [flat_length, x1]) (fun ad had j u hu => (hal.cell (World.block_lt_of_cell? _ _ (x2 ad had j u hu))).trans (x2 ad had j u hu)) (flat_slices x1 x4 x5) (by unfold maxLen; omega) (by omega) hal.size
  have hv : ∃ g gc, v' = .slice (some ⟨g, 0, none⟩) a.length gc := by
    rcases Nat.eq_zero_or_pos a.length with h0 | h0
    · have hsrc : Src Try.prog ti.size 22 (.slice ao 0 c) 0 [] (w.alloc (.cells #[] 44)) := by
        cases ao with
        | none => exact Src.ofNil _ Try.uSrs c
        | some ad => exact Src.ofSlice _ Try.uSrs ad 0 c [] (by simp) (fun j u hj => by simp at hj) (fun u hu => by cases hu)
      have hr2 := run_append_room_src (P := Try.prog) (w.alloc (.cells #[] 44)) 22 22 22 44 ti Try.uSrs ht w.heap.size 0 0 0 (.slice ao 0 c) 0 [] hsrc (by omega) (by simp) (by simp)
      rw [h0] at hr ⊢
      rw [hr2] at hr
      cases hr
      exact ⟨_, _, rfl⟩
    · obtain ⟨g, gc, _, e, _⟩ := own_block hown h0
      exact ⟨g, gc, e⟩
  obtain ⟨g, gc, rfl⟩ := hv
  exact ⟨g, gc, W', xs, hr, ⟨x1, hown, bel2 hal hb, fun i hi => .inl (x4 i hi), fun i hi => .inl (x5 i hi)⟩, hcel⟩

set_option maxRecDepth 100000 in
set_option maxHeartbeats 3200000 in
theorem rmser_any (ao bo : Option Addr) (a b : List Sr) (ca cb : Nat) (Z : Nat → Prop) (w : World) (hA : MsIn w Z ao a) (hB : MsIn w Z bo b) (hz : ∀ j, Z j → j < w.heap.size) :
    Calls Try.prog 13 #[.slice ao a.length ca, .slice bo b.length cb] w fun e w' => ∃ v, e = .returned v ∧ ∃ ys, RB w w' Z v ys (HD.jn a b) := by
  obtain ⟨g0, gc0, w1, xs0, hrun, hrow0, hcel⟩ := fresh_r w Z ao a ca hA.out (by have := hA.len; omega)
  have hI0 : MsI w w1 Z a b 0 g0 gc0 xs0 a := ⟨hrow0, BK.Way.start hA.ord, fun i hi => by
    obtain ⟨bb, off, e, _⟩ := hA.out i hi
    exact hA.caps i hi bb off e _ (hcel i hi bb off e), hA.labs, by omega⟩
  have HI0 := hid hI0
  have HZ := hid hz
  have HA := hid hA
  have HB := hid hB
  have hla := hA.len
  have hlb := hB.len
  clear hrow0 hcel hI0 hA hB hz
  go_enter Try.func13, Try.ntmps13
  go_wp2_with (at_builtin; refine Lib.wpList_append_run _ rfl _ _ _ _ rfl _ _ rfl rfl _ _ hrun ?_)
  clear hrun
  go_loopw [5, 14] (fun t5 ti wr => ∃ j : Nat, j ≤ b.length ∧ ti = .int .i64 j ∧ ∃ (out : List Sr) (g gc : Nat), t5 = .slice (some ⟨g, 0, none⟩) out.length gc ∧ ∃ ys, MsI w wr Z a b j g gc ys out) (fun _ ti _ => b.length - (intOf ti).toNat)
  case atStart => exact ⟨0, Nat.zero_le _, rfl, a, g0, gc0, rfl, xs0, HI0.out⟩
  case round =>
    clear HI0
    obtain ⟨j, hj, rfl, out, g, gc, rfl, ys, hI⟩ := hrel
    have HI := hid hI
    clear hI
    by_cases hlt : j < b.length
    · obtain ⟨bb, off, hbo, hbs, hbz, lo1, lc1, so1, sc1, d0, d1, hLO, hSO⟩ := HB.out.out j hlt
      have hcap := HB.out.caps j hlt bb off hbo _ d1
      subst hbo
      have c0 : wr.cell? ⟨bb, off + j * 2, none⟩ = some (.slice lo1 (atSr b j).1.length lc1) := (HI.out.row.bel.cell (p := ⟨bb, _, none⟩) hbs).trans d0
      have c1 : wr.cell? ⟨bb, off + j * 2 + 1, none⟩ = some (.slice so1 (atSr b j).2.length sc1) := (HI.out.row.bel.cell (p := ⟨bb, _, none⟩) hbs).trans d1
      have HLO := hid hLO
      have HSO := hid hSO
      have HCp := hid hcap
      have HLs := hid (HB.out.labs j hlt)
      have HSs := hid (HB.out.smps j hlt)
      have HPush := hid (fun h => HI.out.way.push HB.out.ord hlt h)
      have HMeet := hid (fun n hn he => HI.out.way.meet (k := n) HA.out.ord HB.out.ord hlt hn he)
      have hol := HI.out.len
      generalize atSr b j = x at *
      have hil : 0 ≤ (j : Int) ∧ (j : Int) < (b.length : Int) := by omega
      have hbx : Below wr.heap.size wr (wr.alloc (.cells #[.slice lo1 x.1.length lc1, .slice so1 x.2.length sc1] 44)) := (Below.refl _ wr).alloc (Nat.le_refl _) _
      have HI1 := hid (HI.out.below hbx)
      have HX1 := hid (heap_alloc_new wr (.cells #[.slice lo1 x.1.length lc1, .slice so1 x.2.length sc1] 44))
      clear d0 d1 hLO hSO hcap hbx HI
      go_wp2_with fail
      generalize wr.alloc (.cells #[.slice lo1 x.1.length lc1, .slice so1 x.2.length sc1] 44) = w2 at HI1 HX1 ⊢
      generalize wr.heap.size = bx at HX1 ⊢
      clear c0 c1
      obtain ⟨ao3, cap3, e3, hSr3⟩ := HI1.out.row.out HZ.out
      simp only [Value.slice.injEq, true_and] at e3
      obtain ⟨e3, e4⟩ := e3
      subst e3 e4
      refine (find_gen _ lo1 out x.1 gc lc1 w2 hSr3.row (HLO.out.1.below HI1.out.row.bel) (by omega) HI1.out.labs HLs.out).mono ?_
      rintro e w3 ⟨⟨k, rfl, hat⟩, hb3⟩
      have HI3 := hid (HI1.out.below hb3)
      have HX3 := hid ((hb3.block bx (heap_lt HX1.out)).trans HX1.out)
      clear hb3 HI1 HX1 hSr3
      have HI1 := hid HI3.out
      have HX1 := hid HX3.out
      clear HI3 HX3
      rcases hat with ⟨rfl, hno⟩ | ⟨n, hnl, rfl, hz, _⟩
      · have HW := hid (HPush.out hno)
        have z0 : w3.cell? ⟨bx, 0, none⟩ = some (.slice lo1 x.1.length lc1) := zcell' _ _ _ _ HX1.out 0 _ rfl
        have z1 : w3.cell? ⟨bx, 1, none⟩ = some (.slice so1 x.2.length sc1) := zcell' _ _ _ _ HX1.out 1 _ rfl
        have hal : Below w3.heap.size w3 (w3.alloc (.cells #[.slice lo1 x.1.length lc1, .slice so1 x.2.length sc1] 44)) := (Below.refl _ w3).alloc (Nat.le_refl _) _
        have hI4 := HI1.out.below hal
        obtain ⟨v', W', hrun, hown, hgr, _⟩ := app_ser (w3.alloc (.cells #[.slice lo1 x.1.length lc1, .slice so1 x.2.length sc1] 44)) w.heap.size w3.heap.size (.slice (some ⟨g, 0, none⟩) out.length gc) (.slice lo1 x.1.length lc1) (.slice so1 x.2.length sc1) out.length _ (heap_alloc_new w3 _) rfl rfl hI4.row.row (by omega) hI4.row.bel.size
        have hRB := hI4.row.push (x := x) (.inl ⟨lo1, lc1, rfl, HLO.out⟩) (.inl ⟨so1, sc1, rfl, HSO.out⟩) hown hgr
        obtain ⟨g', gc', _, ev, _⟩ := own_block hown (by omega)
        subst ev
        have HI5 := hid (hI4.push HW.out hRB HLs.out HCp.out)
        clear hno hal hI4 hown hgr hRB HPush HMeet
        go_wp2_with (at_builtin; refine Lib.wpList_append_run _ rfl _ _ _ _ rfl _ _ rfl rfl _ _ hrun ?_)
        go_roundw
        case rel => exact ⟨j + 1, by omega, by go_num, out ++ [x], g', gc', by rw [List.length_append]; rfl, _, HI5.out⟩
        case measure => simp [intOf]; omega
      · obtain ⟨hway, hka⟩ := HMeet.out n hnl hz
        have HWy := hid hway
        obtain ⟨p, hp, epa⟩ := HD.mem_at hka
        have hsm := HA.out.smps p hp
        rw [epa] at hsm
        obtain ⟨lo2, lc2, ex1⟩ := (HI1.out.row.labs n hnl).one
        obtain ⟨so2, sc2, ex2, hS2⟩ := (HI1.out.row.smps n hnl).read HI1.out.row.bel
        obtain ⟨q1, q2⟩ := flat_get ys n (by rw [HI1.out.row.len]; exact hnl)
        have c1 := HI1.out.row.row.cells (g := g) rfl _ _ q1
        have c2 := HI1.out.row.row.cells (g := g) rfl _ _ q2
        rw [Addr.add_lit, Nat.zero_add] at c1 c2
        have hcv := HI1.out.caps n hnl
        rw [ex1] at c1
        rw [ex2] at c2 hcv
        obtain ⟨g2, _, cur, e1, _, hgc, _⟩ := own_block HI1.out.row.row (by omega)
        simp only [Value.slice.injEq, Option.some.injEq, Addr.mk.injEq, and_true, true_and] at e1
        obtain ⟨rfl, -⟩ := e1
        have hgs : g < w3.heap.size := heap_lt hgc
        have HGc := hid hgc
        have HCx := hid (And.intro c1 c2)
        have hc2 := hcv _ _ _ rfl
        have hc1 := HCp.out _ _ _ rfl
        have HMg : Hid (∀ W, Below w3.heap.size w3 W → Calls Try.prog 33 #[.slice so2 (atSr out n).2.length sc2, .slice so1 x.2.length sc1] W fun e w' => ∃ v, e = .returned v ∧ w'.ownsRow W.heap.size 47 2 v (CL.mrg (atSr out n).2 x.2).length (sv (CL.mrg (atSr out n).2 x.2)) ∧ Below W.heap.size W w') := fun W hW =>
          rmerge_any so2 so1 (atSr out n).2 x.2 sc2 sc1 W (hS2.below hW) (HSO.out.1.below (bel2 HI1.out.row.bel hW)) hc2.1 hc1.1 hsm.1 HSs.out.1 hc2.2 hc1.2 hsm.2.1 HSs.out.2.1 hsm.2.2 HSs.out.2.2
        have hn0 : ¬ (n : Int) < 0 := by omega
        have hn1 : 0 ≤ (n : Int) := by omega
        clear hway hka hsm epa hS2 q1 q2 c1 c2 hcv hgc hc2 hc1 hz HPush HMeet ex1 ex2
        go_upto_region 7 with fail
        refine TL.wp_told [24, 25, 26, 27, 28, 29, 30, 31, 32, 33, 34, 35, 36, 37] (fun L W => (L 14 = false → Below w3.heap.size w3 W) ∧ (L 14 = true → ∃ ys2 out2, out2.length = out.length ∧ MsI w W Z a b (j + 1) g gc ys2 out2)) (T7 w3 bx g n (.slice (some ⟨g, 0, none⟩) out.length gc) (.slice lo1 x.1.length lc1) (.slice so2 (atSr out n).2.length sc2) (.slice so1 x.2.length sc1) (CL.mrg (atSr out n).2 x.2)) rfl (by kernel_rfl) (by kernel_rfl) 45 rfl (by kernel_rfl) ⟨fun _ => (Below.refl _ w3).drew, fun e => (by cases e)⟩ (TL.ix_cons ?_ (TL.ix_cons ?_ (TL.ix_cons ?_ (TL.ix_cons ?_ (TL.ix_cons ?_ (TL.ix_cons ?_ (TL.ix_cons ?_ (TL.ix_cons ?_ (TL.ix_cons ?_ (TL.ix_cons ?_ (TL.ix_cons ?_ (TL.ix_cons ?_ (TL.ix_cons ?_ (TL.ix_cons ?_ (TL.ix_cons ?_ TL.ix_nil))))))))))))))) ?_
        · intro L a W hL hbeh hcl hlike hC hdep
          have h14 : L 14 = false := TL.undone hcl 14 14 0 (by kernel_rfl) hL
          have hb := hC.1 h14
          exact TL.Does.move (u := .slice (some ⟨g, 0, none⟩) out.length gc) rfl (hlike.keeps 5 (by kernel_rfl)) ⟨⟨fun _ => hb, fun e => (by have e' : L 14 = true := e; rw [h14] at e'; cases e')⟩, fun _ => rfl, fun j hj _ ht => ht.below rfl (Below.refl _ _)⟩
        · intro L a W hL hbeh hcl hlike hC hdep
          have h14 : L 14 = false := TL.undone hcl 14 14 1 (by kernel_rfl) hL
          have hb := hC.1 h14
          exact TL.Does.move (u := .int .i64 n) rfl (hlike.keeps 8 (by kernel_rfl)) ⟨⟨fun _ => hb, fun e => (by have e' : L 14 = true := e; rw [h14] at e'; cases e')⟩, fun _ => rfl, fun j hj _ ht => ht.below rfl (Below.refl _ _)⟩
        · intro L a W hL hbeh hcl hlike hC hdep
          have h14 : L 14 = false := TL.undone hcl 14 14 2 (by kernel_rfl) hL
          have hb := hC.1 h14
          exact TL.Does.field rfl (hlike.keeps 7 (by kernel_rfl)) (fa0_series W bx 0) ⟨⟨fun _ => hb, fun e => (by have e' : L 14 = true := e; rw [h14] at e'; cases e')⟩, fun _ => rfl, fun j hj _ ht => ht.below rfl (Below.refl _ _)⟩
        · intro L a W hL hbeh hcl hlike hC hdep
          have h14 : L 14 = false := TL.undone hcl 14 14 3 (by kernel_rfl) hL
          have hb := hC.1 h14
          exact TL.Does.load rfl ((hdep 2 (by kernel_rfl)).2 h14) (ld_labels _ _ _ _ _ W (zcell' _ _ _ _ ((hb.block bx (heap_lt HX1.out)).trans HX1.out) 0 _ rfl)) ⟨⟨fun _ => hb, fun e => (by have e' : L 14 = true := e; rw [h14] at e'; cases e')⟩, fun _ => rfl, fun j hj _ ht => ht.below rfl (Below.refl _ _)⟩
        · intro L a W hL hbeh hcl hlike hC hdep
          have h14 : L 14 = false := TL.undone hcl 14 14 4 (by kernel_rfl) hL
          have hb := hC.1 h14
          exact TL.Does.move (u := .slice (some ⟨g, 0, none⟩) out.length gc) rfl (hlike.keeps 5 (by kernel_rfl)) ⟨⟨fun _ => hb, fun e => (by have e' : L 14 = true := e; rw [h14] at e'; cases e')⟩, fun _ => rfl, fun j hj _ ht => ht.below rfl (Below.refl _ _)⟩
        · intro L a W hL hbeh hcl hlike hC hdep
          have h14 : L 14 = false := TL.undone hcl 14 14 5 (by kernel_rfl) hL
          have hb := hC.1 h14
          exact TL.Does.move (u := .int .i64 n) rfl (hlike.keeps 8 (by kernel_rfl)) ⟨⟨fun _ => hb, fun e => (by have e' : L 14 = true := e; rw [h14] at e'; cases e')⟩, fun _ => rfl, fun j hj _ ht => ht.below rfl (Below.refl _ _)⟩
        · intro L a W hL hbeh hcl hlike hC hdep
          have h14 : L 14 = false := TL.undone hcl 14 14 6 (by kernel_rfl) hL
          have hb := hC.1 h14
          exact TL.Does.index rfl ((hdep 4 (by kernel_rfl)).2 h14) ((hdep 5 (by kernel_rfl)).2 h14) (ix_series g n out.length gc W hnl (by omega)) ⟨⟨fun _ => hb, fun e => (by have e' : L 14 = true := e; rw [h14] at e'; cases e')⟩, fun _ => rfl, fun j hj _ ht => ht.below rfl (Below.refl _ _)⟩
        · intro L a W hL hbeh hcl hlike hC hdep
          have h14 : L 14 = false := TL.undone hcl 14 14 7 (by kernel_rfl) hL
          have hb := hC.1 h14
          exact TL.Does.field rfl ((hdep 6 (by kernel_rfl)).2 h14) (fa1_series W g (n * 2)) ⟨⟨fun _ => hb, fun e => (by have e' : L 14 = true := e; rw [h14] at e'; cases e')⟩, fun _ => rfl, fun j hj _ ht => ht.below rfl (Below.refl _ _)⟩
        · intro L a W hL hbeh hcl hlike hC hdep
          have h14 : L 14 = false := TL.undone hcl 14 14 8 (by kernel_rfl) hL
          have hb := hC.1 h14
          exact TL.Does.load rfl ((hdep 7 (by kernel_rfl)).2 h14) (ld_samples _ _ _ _ _ W ((hb.cell (p := ⟨g, n * 2 + 1, none⟩) hgs).trans HCx.out.2)) ⟨⟨fun _ => hb, fun e => (by have e' : L 14 = true := e; rw [h14] at e'; cases e')⟩, fun _ => rfl, fun j hj _ ht => ht.below rfl (Below.refl _ _)⟩
        · intro L a W hL hbeh hcl hlike hC hdep
          have h14 : L 14 = false := TL.undone hcl 14 14 9 (by kernel_rfl) hL
          have hb := hC.1 h14
          exact TL.Does.field rfl (hlike.keeps 7 (by kernel_rfl)) (fa1_series W bx 0) ⟨⟨fun _ => hb, fun e => (by have e' : L 14 = true := e; rw [h14] at e'; cases e')⟩, fun _ => rfl, fun j hj _ ht => ht.below rfl (Below.refl _ _)⟩
        · intro L a W hL hbeh hcl hlike hC hdep
          have h14 : L 14 = false := TL.undone hcl 14 14 10 (by kernel_rfl) hL
          have hb := hC.1 h14
          exact TL.Does.load rfl ((hdep 9 (by kernel_rfl)).2 h14) (ld_samples _ _ _ _ _ W (zcell' _ _ _ _ ((hb.block bx (heap_lt HX1.out)).trans HX1.out) 1 _ rfl)) ⟨⟨fun _ => hb, fun e => (by have e' : L 14 = true := e; rw [h14] at e'; cases e')⟩, fun _ => rfl, fun j hj _ ht => ht.below rfl (Below.refl _ _)⟩
        · intro L a W hL hbeh hcl hlike hC hdep
          have h14 : L 14 = false := TL.undone hcl 14 14 11 (by kernel_rfl) hL
          have hb := hC.1 h14
          have e8 : a.eval (.tmp 32) = .slice so2 (atSr out n).2.length sc2 := ((hdep 8 (by kernel_rfl)).2 h14)
          have e10 : a.eval (.tmp 34) = .slice so1 x.2.length sc1 := ((hdep 10 (by kernel_rfl)).2 h14)
          refine TL.Does.call (f := 33) (args := #[a.eval (.tmp 32), a.eval (.tmp 34)]) (by kernel_rfl) ?_
          rw [e8, e10]
          refine (HMg.out W hb).mono ?_
          rintro e W' ⟨v', rfl, hown, hb2⟩
          exact ⟨_, rfl, ⟨fun _ => bel2 hb hb2, fun e => (by have e' : L 14 = true := e; rw [h14] at e'; cases e')⟩, fun _ => row_low hown hb.size, fun j hj _ ht => ht.below rfl hb2⟩
        · intro L a W hL hbeh hcl hlike hC hdep
          have h14 : L 14 = false := TL.undone hcl 14 14 12 (by kernel_rfl) hL
          have hb := hC.1 h14
          have o11 := ((hdep 11 (by kernel_rfl)).2 h14)
          obtain ⟨ua, uc, e11⟩ := own_slice o11
          have e3 : a.eval (.tmp 27) = .slice lo1 x.1.length lc1 := ((hdep 3 (by kernel_rfl)).2 h14)
          have e11' : a.eval (.tmp 35) = .slice ua (CL.mrg (atSr out n).2 x.2).length uc := e11
          refine TL.Does.build rfl (ps := #[(0, .slice lo1 x.1.length lc1), (1, .slice ua (CL.mrg (atSr out n).2 x.2).length uc)]) (by simp [e3, e11']) (bd_series W _ _ _ _ _ _) ⟨⟨fun _ => hb, fun e => (by have e' : L 14 = true := e; rw [h14] at e'; cases e')⟩, fun _ => ⟨_, rfl, ?_⟩, fun j hj _ ht => ht.below rfl (Below.refl _ _)⟩
          rw [e11] at o11; exact o11
        · intro L a W hL hbeh hcl hlike hC hdep
          have h14 : L 14 = false := TL.undone hcl 14 14 13 (by kernel_rfl) hL
          have hb := hC.1 h14
          exact TL.Does.index rfl ((hdep 0 (by kernel_rfl)).2 h14) ((hdep 1 (by kernel_rfl)).2 h14) (ix_series g n out.length gc W hnl (by omega)) ⟨⟨fun _ => hb, fun e => (by have e' : L 14 = true := e; rw [h14] at e'; cases e')⟩, fun _ => rfl, fun j hj _ ht => ht.below rfl (Below.refl _ _)⟩
        · intro L a W hL hbeh hcl hlike hC hdep
          have h14 : L 14 = false := hL
          have hb := hC.1 h14
          obtain ⟨u, e12, o12⟩ := ((hdep 12 (by kernel_rfl)).2 h14)
          obtain ⟨ua, uc, rfl⟩ := own_slice o12
          have hrow := HI1.out.row.below hb
          have hgW := (hb.block g hgs).trans HGc.out
          obtain ⟨hRB, kf⟩ := hrow.put (k := n) hnl (a := .slice lo1 x.1.length lc1) (b := .slice ua (CL.mrg (atSr out n).2 x.2).length uc) (y := (x.1, CL.mrg (atSr out n).2 x.2)) (.inl ⟨lo1, lc1, rfl, HLO.out⟩) (.inr (row_low o12 HI1.out.row.bel.size))
          have hI2 := HI1.out.set HWy.out hRB (HLs.out) (own_cap o12)
          exact TL.Does.store rfl ((hdep 13 (by kernel_rfl)).2 h14) e12 (st_ser g (n * 2) _ _ _ _ _ _ _ _ W ((hb.cell (p := ⟨g, n * 2, none⟩) hgs).trans HCx.out.1) ((hb.cell (p := ⟨g, n * 2 + 1, none⟩) hgs).trans HCx.out.2) (hfz hgW _) (hfz hgW _)) ⟨⟨fun e => (by simp [TL.upd] at e), fun _ => ⟨_, _, List.length_set, hI2⟩⟩, fun _ => trivial, fun j hj _ _ e => (by simp [TL.upd] at e)⟩
        · intro L f W hL hC hT
          obtain ⟨ys2, out2, hlen2, hI2⟩ := hC.2 (hL 14 (by decide))
          have HI2 := hid hI2
          have HLen := hid hlen2
          clear hT hL hC hI2 hlen2 HMg HCx HGc
          simp only [TL.puts]
          go_frame
          generalize f 24 = g24
          generalize f 25 = g25
          generalize f 26 = g26
          generalize f 27 = g27
          generalize f 28 = g28
          generalize f 29 = g29
          generalize f 30 = g30
          generalize f 31 = g31
          generalize f 32 = g32
          generalize f 33 = g33
          generalize f 34 = g34
          generalize f 35 = g35
          generalize f 36 = g36
          generalize f 37 = g37
          go_wp2_with fail
          go_roundw
          case rel => exact ⟨j + 1, by omega, by go_num, out2, g, gc, by rw [HLen.out], ys2, HI2.out⟩
          case measure => simp [intOf]; omega
    · have he : j = b.length := by omega
      subst he
      have HS := hid (sorted_gen w Z g gc ys out wr HI.out.row HI.out.way.dis HI.out.labs (by have := HI.out.len; omega))
      go_wp2_with fail
      refine HS.out.mono ?_
      rintro e w2 ⟨rfl, ⟨R, xs2, hRB, hO, hM⟩, _⟩
      have hjn := HI.out.way.fin HA.out.ord HB.out.ord hO hM
      have HR := hid (show ∃ ys, RB w w2 Z (.slice (some ⟨g, 0, none⟩) out.length gc) ys (HD.jn a b) from ⟨xs2, by rw [← hjn]; exact hRB⟩)
      clear hRB hO hM hjn HS
      go_wp2_with fail
      go_ret
      exact ⟨_, rfl, HR.out⟩

end Go.Proofs.Ytdmnlmohfaafoae

