/- sort.SliceStable of series by their labels: the document's sorted. -/
import Derived.Test.YtdmnlmohfaafoadGreatDoorPHrMem
import Derived.Test.YtdmnlmohfaafoadGreatDoorPHrSortN
import Derived.Test.YtdmnlmohfaafoadGreatDoorPStAll
import Derived.Test.YtdmnlmohfaafoadGreatDoorPHxRefC
import Derived.Test.YtdmnlmohfaafoadGreatDoorPHdCome
import Derived.Lib.ReflectliteSwap
import Derived.Shelf.Abstract
namespace Go.Proofs.YtdmnlmohfaafoadGreatDoor
open Go.RowKit Go.Lib

/-- What is sorted: two cells, and the series that they are. -/
abbrev Cd := (Value × Value) × Sr

def rowX (n : Nat) (d : Nat → Cd) : List (Value × Value) := (List.range n).map fun i => (d i).1
def rowS (n : Nat) (d : Nat → Cd) : List Sr := (List.range n).map fun i => (d i).2

theorem rowX_len (n : Nat) (d : Nat → Cd) : (rowX n d).length = n := by simp [rowX]
theorem rowS_len (n : Nat) (d : Nat → Cd) : (rowS n d).length = n := by simp [rowS]
theorem rowX_at (n : Nat) (d : Nat → Cd) (i : Nat) (h : i < n) : atX (rowX n d) i = (d i).1 := by simp [atX, rowX, h]
theorem rowS_at (n : Nat) (d : Nat → Cd) (i : Nat) (h : i < n) : atSr (rowS n d) i = (d i).2 := by simp [atSr, rowS, h]

theorem flat_set2 (xs : List (Value × Value)) (p : Value × Value) : ∀ i, ((flat xs).set (i * 2) p.1).set (i * 2 + 1) p.2 = flat (xs.set i p) := by
  induction xs with
  | nil => intro i; rfl
  | cons s l ih =>
    intro i
    match i with
    | 0 => rfl
    | i + 1 =>
      have e1 : (i + 1) * 2 = (i * 2) + 2 := by omega
      rw [flat_cons, e1]
      show s.1 :: s.2 :: ((flat l).set (i * 2) p.1).set (i * 2 + 1) p.2 = _
      rw [ih i]
      rfl

theorem rowX_sw (n : Nat) (d : Nat → Cd) (i j : Nat) (_hi : i < n) (_hj : j < n) : ((rowX n d).set i (d j).1).set j (d i).1 = rowX n (ST.sw d i j) := by
  apply List.ext_getElem
  · simp [rowX]
  · intro k h1 h2
    have hk : k < n := by simpa [rowX] using h2
    rw [List.getElem_set, List.getElem_set]
    simp only [rowX, List.getElem_map, List.getElem_range, ST.sw]
    by_cases e1 : j = k
    · subst e1
      rw [if_pos rfl]
      by_cases e2 : j = i
      · rw [if_pos e2, e2]
      · rw [if_neg e2, if_pos rfl]
    · rw [if_neg e1]
      by_cases e2 : i = k
      · subst e2; rw [if_pos rfl, if_pos rfl]
      · rw [if_neg e2, if_neg (fun e => e2 e.symm), if_neg (fun e => e1 e.symm)]

/-- The row while it is sorted; the box with its head. -/
def SoSt (w0 : World) (Z : Nat → Prop) (n g cap B1 : Nat) (W : World) (d : Nat → Cd) : Prop :=
  RB w0 W Z (.slice (some ⟨g, 0, none⟩) n cap) (rowX n d) (rowS n d) ∧ W.heap[B1]? = some (.cells #[.slice (some ⟨g, 0, none⟩) n cap] 22) ∧ ∀ k, k < n → (d k).2.1.length ≤ 1000

theorem sr_isAgg (w : World) : (isAgg 55).run Tryz.prog w = .ok true w := by kernel_rfl

theorem ld_box (b k : Nat) (ao : Option Addr) (n c : Nat) (w : World) (h : w.cell? ⟨b, k, none⟩ = some (.slice ao n c)) : (Instr.loadAt 22 (.pointer (some ⟨b, k, none⟩))).run Tryz.prog w = .ok (.slice ao n c) w := ld_series b k ao n c w h

theorem so_index (g n c i : Nat) (h : i < n) (w : World) : (Instr.indexAt 22 (.slice (some ⟨g, 0, none⟩) n c) (.int .i64 (i : Int))).run Tryz.prog w = .ok (.pointer (some ⟨g, i * 2, none⟩)) w := by
  have h0 : 0 ≤ (i : Int) ∧ (i : Int) < (n : Int) := by omega
  go_simp

set_option maxRecDepth 100000 in
set_option maxHeartbeats 1600000 in
theorem less_so (w0 : World) (Z : Nat → Prop) (n g cap B1 : Nat) (W : World) (d : Nat → Cd) (i j : Nat) (hS : SoSt w0 Z n g cap B1 W d) (hi : i < n) (hj : j < n) :
    Calls Tryz.prog 86 #[.int .i64 (i : Int), .int .i64 (j : Int), .pointer (some ⟨B1, 0, none⟩)] W fun e w' => e = .returned (.bool (HD.ltS (d i).2 (d j).2)) ∧ Below W.heap.size W w' := by
  obtain ⟨hr, hb, hl⟩ := hS
  have hlen := rowS_len n d
  have hcell : ∀ k, k < n → W.cell? ⟨g, k * 2, none⟩ = some (d k).1.1 := fun k hk => by
    have c := hr.row.cells (g := g) rfl _ _ (flat_get (rowX n d) k (by rw [rowX_len]; exact hk)).1
    rw [Addr.add_lit, Nat.zero_add, rowX_at n d k hk] at c
    exact c
  have hrow : ∀ k, k < n → ∃ lo lc, (d k).1.1 = .slice lo (d k).2.1.length lc ∧ LRow W lo (d k).2.1 := fun k hk => by
    have h1 := (hr.labs k (by rw [hlen]; exact hk)).read hr.bel
    rw [rowX_at n d k hk, rowS_at n d k hk] at h1
    exact h1
  obtain ⟨lo1, lc1, e1, r1⟩ := hrow i hi
  obtain ⟨lo2, lc2, e2, r2⟩ := hrow j hj
  have c1 := hcell i hi
  have c2 := hcell j hj
  rw [e1] at c1
  rw [e2] at c2
  have hgw : g < W.heap.size := World.block_lt_of_cell? _ _ c1
  have hBw : B1 < W.heap.size := heap_lt hb
  have c0 : W.cell? ⟨B1, 0, none⟩ = some (.slice (some ⟨g, 0, none⟩) n cap) := zcell' _ _ _ _ hb 0 _ rfl
  have HCell : Hid (∀ V, Below W.heap.size W V → (V.cell? ⟨B1, 0, none⟩ = some (.slice (some ⟨g, 0, none⟩) n cap) ∧ V.cell? ⟨g, i * 2, none⟩ = some (.slice lo1 (d i).2.1.length lc1)) ∧ V.cell? ⟨g, j * 2, none⟩ = some (.slice lo2 (d j).2.1.length lc2)) := fun V hV => ⟨⟨(hV.cell (p := ⟨B1, 0, none⟩) hBw).trans c0, (hV.cell (p := ⟨g, _, none⟩) hgw).trans c1⟩, (hV.cell (p := ⟨g, _, none⟩) hgw).trans c2⟩
  have HC : Hid (∀ V, Below W.heap.size W V → Calls Tryz.prog 84 #[.slice lo1 (d i).2.1.length lc1, .slice lo2 (d j).2.1.length lc2] V fun e w' => e = .returned (.int .i64 (LB.cmp (d i).2.1 (d j).2.1)) ∧ Below W.heap.size W w') := fun V hV => (rcmp_any lo1 lo2 (d i).2.1 (d j).2.1 lc1 lc2 V (r1.below hV) (r2.below hV) (hl i hi) (hl j hj)).mono fun e w' h => ⟨h.1, bel2 hV h.2⟩
  unfold HD.ltS
  clear hr hb hcell hrow r1 r2 c0 c1 c2 e1 e2 hl
  generalize LB.cmp (d i).2.1 (d j).2.1 = cm at *
  generalize (d i).2.1.length = l1 at *
  generalize (d j).2.1.length = l2 at *
  go_enter Tryz.func86, Tryz.ntmps86
  go_wp2_with fail
  refine wp_region_class (fun V => Below W.heap.size W V) (by kernel_rfl) (by kernel_rfl) (Below.refl _ W).drew ?_
  refine q_load (.slice (some ⟨g, 0, none⟩) n cap) (by kernel_rfl) rfl (by kernel_rfl) (fun V hV => ld_box B1 0 _ n cap V (HCell.out V hV).1.1) ?_
  go_frame
  refine q_run (.int .i64 (i : Int)) (by kernel_rfl) (fun V _ => by kernel_rfl) ?_
  go_frame
  refine q_index (.pointer (some ⟨g, i * 2, none⟩)) (by kernel_rfl) rfl (by kernel_rfl) (by kernel_rfl) (so_index g n cap i hi) ?_
  go_frame
  refine q_run (.pointer (some ⟨g, i * 2, none⟩)) (by kernel_rfl) (fun V _ => by kernel_rfl) ?_
  go_frame
  refine q_load (.slice lo1 l1 lc1) (by kernel_rfl) rfl (by kernel_rfl) (fun V hV => ld_labels g (i * 2) lo1 l1 lc1 V (HCell.out V hV).1.2) ?_
  go_frame
  refine q_load (.slice (some ⟨g, 0, none⟩) n cap) (by kernel_rfl) rfl (by kernel_rfl) (fun V hV => ld_box B1 0 _ n cap V (HCell.out V hV).1.1) ?_
  go_frame
  refine q_run (.int .i64 (j : Int)) (by kernel_rfl) (fun V _ => by kernel_rfl) ?_
  go_frame
  refine q_index (.pointer (some ⟨g, j * 2, none⟩)) (by kernel_rfl) rfl (by kernel_rfl) (by kernel_rfl) (so_index g n cap j hj) ?_
  go_frame
  refine q_run (.pointer (some ⟨g, j * 2, none⟩)) (by kernel_rfl) (fun V _ => by kernel_rfl) ?_
  go_frame
  refine q_load (.slice lo2 l2 lc2) (by kernel_rfl) rfl (by kernel_rfl) (fun V hV => ld_labels g (j * 2) lo2 l2 lc2 V (HCell.out V hV).2) ?_
  go_frame
  refine q_call (.int .i64 cm) (by kernel_rfl) (fun V => by kernel_rfl) HC.out ?_
  go_frame
  refine q_run (.bool (decide (cm < 0))) (by kernel_rfl) (fun V _ => by kernel_rfl) ?_
  go_frame
  refine q_run (.bool (decide (cm < 0))) (by kernel_rfl) (fun V _ => by kernel_rfl) ?_
  go_frame
  refine wpQuiet_nil ?_
  intro w2 hb2
  have HB2 := hid hb2
  clear hb2 HC HCell
  go_wp2_with fail
  go_ret
  exact ⟨rfl, HB2.out⟩

/-- Two series of the row change places. -/
theorem SoSt.swap {w0 : World} {Z : Nat → Prop} {n g cap B1 : Nat} {W : World} {d : Nat → Cd} (h : SoSt w0 Z n g cap B1 W d) (i j : Nat) (hi : i < n) (hj : j < n) :
    SoSt w0 Z n g cap B1 ((W.setCells g (0 + i * 2) [(d j).1.1, (d j).1.2]).setCells g (0 + j * 2) [(d i).1.1, (d i).1.2]) (ST.sw d i j) ∧ W.grownBy ((W.setCells g (0 + i * 2) [(d j).1.1, (d j).1.2]).setCells g (0 + j * 2) [(d i).1.1, (d i).1.2]) (some g) := by
  obtain ⟨hr, hb, hlm⟩ := h
  have hrow := hr.row
  rw [rowS_len] at hrow
  have s1 := hrow.stored (i * 2) (d j).1.1
  have s2 := s1.1.stored (i * 2 + 1) (d j).1.2
  have s3 := s2.1.stored (j * 2) (d i).1.1
  have s4 := s3.1.stored (j * 2 + 1) (d i).1.2
  have eW : ((W.setCells g (0 + i * 2) [(d j).1.1, (d j).1.2]).setCells g (0 + j * 2) [(d i).1.1, (d i).1.2]) = ((((W.setCell ⟨g, i * 2, none⟩ (d j).1.1).setCell ⟨g, i * 2 + 1, none⟩ (d j).1.2).setCell ⟨g, j * 2, none⟩ (d i).1.1).setCell ⟨g, j * 2 + 1, none⟩ (d i).1.2) := by
    rw [Nat.zero_add, Nat.zero_add]; rfl
  have hl : (((((flat (rowX n d)).set (i * 2) (d j).1.1).set (i * 2 + 1) (d j).1.2).set (j * 2) (d i).1.1).set (j * 2 + 1) (d i).1.2) = flat (rowX n (ST.sw d i j)) := by
    rw [flat_set2 (rowX n d) (d j).1 i, flat_set2 _ (d i).1 j, rowX_sw n d i j hi hj]
  rw [eW]
  have hg : W.grownBy ((((W.setCell ⟨g, i * 2, none⟩ (d j).1.1).setCell ⟨g, i * 2 + 1, none⟩ (d j).1.2).setCell ⟨g, j * 2, none⟩ (d i).1.1).setCell ⟨g, j * 2 + 1, none⟩ (d i).1.2) (some g) :=
    ⟨rfl, rfl, rfl, by simp [World.setCell], fun k hk hne => by
      rw [s4.2.block k (by simpa [World.setCell] using hk) hne, s3.2.block k (by simpa [World.setCell] using hk) hne, s2.2.block k (by simpa [World.setCell] using hk) hne, s1.2.block k hk hne]⟩
  have hrow4 := s4.1
  rw [hl] at hrow4
  have hgw : w0.heap.size ≤ g := (hr.row.lt g rfl).1
  have lab : ∀ k, k < n → RL w0 W Z (d k).1.1 (d k).2.1 := fun k hk => by
    have := hr.labs k (by rw [rowS_len]; exact hk)
    rwa [rowX_at n d k hk, rowS_at n d k hk] at this
  have smp : ∀ k, k < n → RS w0 W Z (d k).1.2 (d k).2.2 := fun k hk => by
    have := hr.smps k (by rw [rowS_len]; exact hk)
    rwa [rowX_at n d k hk, rowS_at n d k hk] at this
  have sww : ∀ k, k < n → ∃ k', k' < n ∧ ST.sw d i j k = d k' := fun k hk => by
    unfold ST.sw
    by_cases e1 : k = i
    · rw [if_pos e1]; exact ⟨j, hj, rfl⟩
    · rw [if_neg e1]
      by_cases e2 : k = j
      · rw [if_pos e2]; exact ⟨i, hi, rfl⟩
      · rw [if_neg e2]; exact ⟨k, hk, rfl⟩
  refine ⟨⟨⟨by rw [rowX_len, rowS_len], by rw [rowS_len]; exact hrow4, hr.bel.grown hg hr.bel.size (fun k hk => by cases hk; exact hgw), fun k hk => ?_, fun k hk => ?_⟩, ?_⟩, hg⟩
  · rw [rowS_len] at hk
    rw [rowX_at n _ k hk, rowS_at n _ k hk]
    obtain ⟨k', h1, h2⟩ := sww k hk
    rw [h2]
    exact (lab k' h1).grown (v := .slice (some ⟨g, 0, none⟩) n cap) hrow hg
  · rw [rowS_len] at hk
    rw [rowX_at n _ k hk, rowS_at n _ k hk]
    obtain ⟨k', h1, h2⟩ := sww k hk
    rw [h2]
    exact (smp k' h1).grown (v := .slice (some ⟨g, 0, none⟩) n cap) hrow hg
  · refine ⟨?_, fun k hk => by obtain ⟨k', h1, h2⟩ := sww k hk; rw [h2]; exact hlm k' h1⟩
    have hne : (Value.slice (some ⟨g, 0, none⟩) n cap).ownBlock ≠ some B1 := own_kind hrow hb (by decide)
    exact (hg.block B1 (heap_lt hb) (fun e => hne e.symm)).trans hb

noncomputable def srT : TypeInfo := (Tryz.prog.info? 22).get (by kernel_rfl)
noncomputable def srE : TypeInfo := (Tryz.prog.info? 55).get (by kernel_rfl)

theorem srK (n : Nat) (h2 : 2 ≤ n) : Lib.swapperK n srE 25 = 9 := by
  have a : srE.hasPointers = true := by kernel_rfl
  have b : srE.bytes = 48 := by kernel_rfl
  have c : (n == 0) = false := by simp; omega
  have d : (n == 1) = false := by simp; omega
  simp [Lib.swapperK, a, b, c, d]

theorem SoSt.below {w0 : World} {Z : Nat → Prop} {n g cap B1 : Nat} {W W' : World} {d : Nat → Cd} (h : SoSt w0 Z n g cap B1 W d) (k : Below W.heap.size W W') : SoSt w0 Z n g cap B1 W' d :=
  ⟨h.1.below k, (k.block B1 (heap_lt h.2.1)).trans h.2.1, h.2.2⟩

abbrev ltC (a b : Cd) : Bool := HD.ltS a.2 b.2

/-- The two closures over the row. -/
theorem so_srt (w0 : World) (Z : Nat → Prop) (n g cap B1 B : Nat) (hB : g < B) :
    Srt Tryz.prog ltC n B (fun j => j = g) (SoSt w0 Z n g cap B1) 86 #[.pointer (some ⟨B1, 0, none⟩)] 153 #[.slice (some ⟨g, 0, none⟩) n cap, typeHandle Tryz.prog 55] where
  el := enters_of Tryz.func86 (by kernel_rfl) rfl
  low j hj := by rw [hj]; exact hB
  kept W W' d h k := h.below k
  less W d i j _ h hi hj := (less_so w0 Z n g cap B1 W d i j h hi hj).mono fun e w' k => ⟨k.1, h.below k.2, SFr.below k.2⟩
  swap W d i j _ h hi hj := by
    have hs := h.swap i j hi hj
    refine ⟨_, ?_, hs.1, ⟨hs.2.os, hs.2.tape, hs.2.output, hs.2.size, fun k hk hn => hs.2.block k hk (fun e => hn (Option.some.inj e))⟩⟩
    have hrow := h.1.row
    rw [rowS_len] at hrow
    have hc : ∀ k, k < n → ∀ u v, [(d k).1.1, (d k).1.2][u]? = some v → W.cell? ⟨g, 0 + k * 2 + u, none⟩ = some v := fun k hk u v hv => by
      have q := flat_get (rowX n d) k (by rw [rowX_len]; exact hk)
      rw [rowX_at n d k hk] at q
      match u with
      | 0 =>
        simp only [List.getElem?_cons_zero, Option.some.injEq] at hv
        have := hrow.cells (g := g) rfl _ _ q.1
        rw [Addr.add_lit] at this
        rw [← hv]; exact this
      | 1 =>
        simp only [List.getElem?_cons_succ, List.getElem?_cons_zero, Option.some.injEq] at hv
        have := hrow.cells (g := g) rfl _ _ q.2
        rw [Addr.add_lit] at this
        rw [← hv, Nat.add_assoc]; exact this
      | u + 2 => simp at hv
    have hf : ∀ o, W.frozen? ⟨g, o, none⟩ = false := fun o => by
      obtain ⟨g', _, cur, e, _, hg, _⟩ := own_block hrow (by omega)
      cases e
      exact hfz hg o
    have one : ∀ k, k < n → ∀ v ∈ [(d k).1.1, (d k).1.2], v.oneCell' = true := fun k hk => by
      have h1 := h.1.labs k (by rw [rowS_len]; exact hk)
      have h2 := h.1.smps k (by rw [rowS_len]; exact hk)
      rw [rowX_at n d k hk] at h1 h2
      obtain ⟨_, _, e1⟩ := h1.one
      obtain ⟨_, _, e2⟩ := h2.one
      exact one_two (by rw [e1]; rfl) (by rw [e2]; rfl)
    have hie : Tryz.prog.info? 55 = some srE := by kernel_rfl
    have hsz : srE.size = 2 := by kernel_rfl
    have hr := run_swap_cells (P := Tryz.prog) false 55 srE hie sr_isAgg g 0 n cap i j hi hj [(d i).1.1, (d i).1.2] [(d j).1.1, (d j).1.2] (by rw [hsz]; rfl) (by rw [hsz]; rfl) (one i hi) (one j hj) W (by rw [hsz]; exact hc i hi) (by rw [hsz]; exact hc j hj) (fun k _ => hf _) (fun k _ => hf _)
    rw [hsz] at hr
    rw [run_callFunc_extern Tryz.func153 (by kernel_rfl) (by kernel_rfl) (by kernel_rfl) (e := Extern.ReflectliteSwapper.swap false) (by kernel_rfl)]
    show Result.andThen ((Extern.ReflectliteSwapper.swap false #[.int .i64 (i : Int), .int .i64 (j : Int), .slice (some ⟨g, 0, none⟩) n cap, typeHandle Tryz.prog 55]).run Tryz.prog W) _ = _
    rw [hr]
    rfl

set_option maxRecDepth 100000 in
set_option maxHeartbeats 1600000 in
theorem sstable_two (w0 : World) (Z : Nat → Prop) (n g cap B1 : Nat) (w : World) (d : Nat → Cd) (h : SoSt w0 Z n g cap B1 w d) (h2 : 2 ≤ n) (hn : n ≤ 1000000) :
    Calls Tryz.prog 85 #[.iface 22 (.slice (some ⟨g, 0, none⟩) n cap), .func (.func 86) #[] #[.pointer (some ⟨B1, 0, none⟩)]] w fun e w' => e = .returned (.tuple #[]) ∧ (∃ f, SoSt w0 Z n g cap B1 w' f ∧ ST.Sw 0 n d f ∧ ST.Asc ltC f 0 n) ∧ SFr (fun j => j = g) w w' := by
  have hi : Tryz.prog.info? 22 = some srT := by kernel_rfl
  have hd : srT.desc = .slice 55 := by kernel_rfl
  have hie : Tryz.prog.info? 55 = some srE := by kernel_rfl
  have hpk : Tryz.prog.packed 22 = false := by kernel_rfl
  have hv := run_valueOf_slice (P := Tryz.prog) 22 55 srT hi hd (some ⟨g, 0, none⟩) n cap w
  have hs := fun w => run_swapper_slice (P := Tryz.prog) 22 55 srT srE hi hd hie 25 (fun _ => by kernel_rfl) (some ⟨g, 0, none⟩) n cap 153 (by rw [srK _ h2]; kernel_rfl) w
  have hl := fun a w ha => run_valueLen_slice (P := Tryz.prog) 22 55 srT hi hd hpk a (some ⟨g, 0, none⟩) n cap w ha
  have hk9 : ¬ Lib.swapperK n srE 25 ≤ 2 := by rw [srK _ h2]; decide
  have ht1 : typeHandle Tryz.prog 22 = .pointer (some ⟨4, 22, none⟩) := by kernel_rfl
  have ht2 : typeHandle Tryz.prog 55 = .pointer (some ⟨4, 55, none⟩) := by kernel_rfl
  simp only [if_neg hk9] at hs
  have hbel : Below w.heap.size w ((w.alloc (.cells #[.slice (some ⟨g, 0, none⟩) n cap] 22)).alloc (.cells #[.pointer (some ⟨4, 22, none⟩), .pointer (some ⟨w.heap.size, 0, none⟩), .int .u64 151] 187)) := ((Below.refl _ w).alloc (Nat.le_refl _) _).alloc (by simp) _
  have hgw : g < w.heap.size := (h.1.row.lt g rfl).2
  have HP := hid (stable_any (so_srt w0 Z n g cap B1 w.heap.size hgw) (HD.ltS_weak (fun c : Cd => c.2)) hn d _ hbel.size (h.below hbel))
  have HF := hid (SFr.below (X := fun j => j = g) hbel)
  rw [ht1] at hv
  rw [ht2] at HP
  simp only [ht1] at hl
  simp only [ht2] at hs
  clear hi hd hie hpk h hbel hk9 ht1 ht2
  go_enter Tryz.func85, Tryz.ntmps85
  go_wp2
  rw [run_callFunc_extern Tryz.func119 (by kernel_rfl) (by kernel_rfl) (by kernel_rfl) (e := fun args => Extern.ReflectliteValue.unpack (args.getD 0 (.tuple #[]))) (by kernel_rfl),
    show Sem.run Tryz.prog ((fun args : Array Value => Extern.ReflectliteValue.unpack (args.getD 0 (.tuple #[]))) #[.iface 22 (.slice (some ⟨g, 0, none⟩) n cap)]) w = _ from hv]
  simp only [Result.andThen]
  rw [Oper.upon_value]
  go_wp2
  rw [run_callFunc_extern Tryz.func120 (by kernel_rfl) (by kernel_rfl) (by kernel_rfl) (e := Extern.ReflectliteSwapper.swapper "internal/reflectlite" (Extern.ReflectliteValue.valueError "Swapper")) (by kernel_rfl), hs]
  simp only [Result.andThen]
  rw [Oper.upon_value]
  go_wp2
  rw [run_callFunc_extern Tryz.func122 (by kernel_rfl) (by kernel_rfl) (by kernel_rfl) (e := Extern.ReflectliteValue.method (Extern.ReflectliteValue.valueError "reflectlite.Value.Len" 0) Extern.ReflectliteValue.len) (by kernel_rfl),
    hl _ _ (by simp)]
  simp only [Result.andThen]
  rw [Oper.upon_value]
  go_wp2_with (go_at_call 121; refine HP.out.mono ?_; rintro e w' ⟨rfl, hR, hS⟩; have HR := hid hR; have HS := hid hS; clear hR hS)
  go_end0
  exact ⟨rfl, HR.out, HF.out.trans HS.out⟩

theorem ent_sw2 (W : World) : (callFunc 146 (#[.int .i64 ((0 : Nat) : Int), .int .i64 ((0 : Nat) : Int)] ++ #[])).run Tryz.prog W = .ok (.value (.tuple #[])) W := by kernel_rfl

theorem so_srt1 (w0 : World) (Z : Nat → Prop) (g cap B1 B : Nat) (hB : g < B) :
    Srt Tryz.prog ltC 1 B (fun j => j = g) (SoSt w0 Z 1 g cap B1) 86 #[.pointer (some ⟨B1, 0, none⟩)] 146 #[] where
  el := enters_of Tryz.func86 (by kernel_rfl) rfl
  low j hj := by rw [hj]; exact hB
  kept W W' d h k := h.below k
  less W d i j _ h hi hj := (less_so w0 Z 1 g cap B1 W d i j h hi hj).mono fun e w' k => ⟨k.1, h.below k.2, SFr.below k.2⟩
  swap W d i j _ h hi hj := by
    obtain rfl : i = 0 := by omega
    obtain rfl : j = 0 := by omega
    have e : ST.sw d 0 0 = d := by
      funext k
      unfold ST.sw
      by_cases hk : k = 0
      · rw [if_pos hk, hk]
      · rw [if_neg hk, if_neg hk]
    exact ⟨W, ent_sw2 W, by rw [e]; exact h, SFr.refl _ _⟩

set_option maxRecDepth 100000 in
set_option maxHeartbeats 1600000 in
theorem sstable_one (w0 : World) (Z : Nat → Prop) (g cap B1 : Nat) (w : World) (d : Nat → Cd) (h : SoSt w0 Z 1 g cap B1 w d) :
    Calls Tryz.prog 85 #[.iface 22 (.slice (some ⟨g, 0, none⟩) 1 cap), .func (.func 86) #[] #[.pointer (some ⟨B1, 0, none⟩)]] w fun e w' => e = .returned (.tuple #[]) ∧ (∃ f, SoSt w0 Z 1 g cap B1 w' f ∧ ST.Sw 0 1 d f ∧ ST.Asc ltC f 0 1) ∧ SFr (fun j => j = g) w w' := by
  have hi : Tryz.prog.info? 22 = some srT := by kernel_rfl
  have hd : srT.desc = .slice 55 := by kernel_rfl
  have hie : Tryz.prog.info? 55 = some srE := by kernel_rfl
  have hpk : Tryz.prog.packed 22 = false := by kernel_rfl
  have hv := run_valueOf_slice (P := Tryz.prog) 22 55 srT hi hd (some ⟨g, 0, none⟩) 1 cap w
  have hk1 : Lib.swapperK 1 srE 25 = 2 := rfl
  have hs := fun w => run_swapper_slice (P := Tryz.prog) 22 55 srT srE hi hd hie 25 (fun _ => by kernel_rfl) (some ⟨g, 0, none⟩) 1 cap 146 (by rw [hk1]; kernel_rfl) w
  have hl := fun a w ha => run_valueLen_slice (P := Tryz.prog) 22 55 srT hi hd hpk a (some ⟨g, 0, none⟩) 1 cap w ha
  have hk9 : Lib.swapperK 1 srE 25 ≤ 2 := by rw [hk1]; decide
  have ht1 : typeHandle Tryz.prog 22 = .pointer (some ⟨4, 22, none⟩) := by kernel_rfl
  simp only [if_pos hk9] at hs
  have hbel : Below w.heap.size w ((w.alloc (.cells #[.slice (some ⟨g, 0, none⟩) 1 cap] 22)).alloc (.cells #[.pointer (some ⟨4, 22, none⟩), .pointer (some ⟨w.heap.size, 0, none⟩), .int .u64 151] 187)) := ((Below.refl _ w).alloc (Nat.le_refl _) _).alloc (by simp) _
  have hgw : g < w.heap.size := (h.1.row.lt g rfl).2
  have HP := hid (stable_any (so_srt1 w0 Z g cap B1 w.heap.size hgw) (HD.ltS_weak (fun c : Cd => c.2)) (by decide) d _ hbel.size (h.below hbel))
  have HF := hid (SFr.below (X := fun j => j = g) hbel)
  rw [ht1] at hv
  simp only [ht1] at hl
  clear hi hd hie hpk h hbel hk9 hk1 ht1
  go_enter Tryz.func85, Tryz.ntmps85
  go_wp2
  rw [run_callFunc_extern Tryz.func119 (by kernel_rfl) (by kernel_rfl) (by kernel_rfl) (e := fun args => Extern.ReflectliteValue.unpack (args.getD 0 (.tuple #[]))) (by kernel_rfl),
    show Sem.run Tryz.prog ((fun args : Array Value => Extern.ReflectliteValue.unpack (args.getD 0 (.tuple #[]))) #[.iface 22 (.slice (some ⟨g, 0, none⟩) 1 cap)]) w = _ from hv]
  simp only [Result.andThen]
  rw [Oper.upon_value]
  go_wp2
  rw [run_callFunc_extern Tryz.func120 (by kernel_rfl) (by kernel_rfl) (by kernel_rfl) (e := Extern.ReflectliteSwapper.swapper "internal/reflectlite" (Extern.ReflectliteValue.valueError "Swapper")) (by kernel_rfl), hs]
  simp only [Result.andThen]
  rw [Oper.upon_value]
  go_wp2
  rw [run_callFunc_extern Tryz.func122 (by kernel_rfl) (by kernel_rfl) (by kernel_rfl) (e := Extern.ReflectliteValue.method (Extern.ReflectliteValue.valueError "reflectlite.Value.Len" 0) Extern.ReflectliteValue.len) (by kernel_rfl),
    hl _ _ (by simp)]
  simp only [Result.andThen]
  rw [Oper.upon_value]
  go_wp2_with (go_at_call 121; refine HP.out.mono ?_; rintro e w' ⟨rfl, hR, hS⟩; have HR := hid hR; have HS := hid hS; clear hR hS)
  go_end0
  exact ⟨rfl, HR.out, HF.out.trans HS.out⟩

/-- The document's sorted, of a row in order with one more behind it. -/
theorem sorted_any (w0 : World) (Z : Nat → Prop) (v : Value) (xs : List (Value × Value)) (S : List Sr) (x : Sr) (w : World) (h : RB w0 w Z v xs (S ++ [x])) (ho : HD.Ord S) (hn : HD.there S x.1 = false) (hl : ∀ i, i < S.length + 1 → (atSr (S ++ [x]) i).1.length ≤ 1000) (hs : S.length ≤ 1000) :
    Calls Tryz.prog 51 #[v] w fun e w' => e = .returned v ∧ (∃ xs', RB w0 w' Z v xs' (S.insertIdx (HD.pos S x.1) x)) ∧ SFr (fun j => v.ownBlock = some j) w w' := by
  have hlen : (S ++ [x]).length = S.length + 1 := by rw [List.length_append]; rfl
  obtain ⟨g, cap, cur, e1, e2, _⟩ := own_block h.row (by omega)
  rw [hlen] at e1
  subst e1
  have hbel : Below w.heap.size w (w.alloc (.cells #[.slice (some ⟨g, 0, none⟩) (S.length + 1) cap] 22)) := (Below.refl _ w).alloc (Nat.le_refl _) _
  have hrx : rowX (S.length + 1) (fun i => (atX xs i, atSr (S ++ [x]) i)) = xs := by
    apply List.ext_getElem
    · rw [rowX_len, h.len, hlen]
    · intro k h1 h2
      simp only [rowX, List.getElem_map, List.getElem_range]
      unfold atX
      rw [List.getD_eq_getElem?_getD, List.getElem?_eq_getElem h2]; rfl
  have hrs : rowS (S.length + 1) (fun i => (atX xs i, atSr (S ++ [x]) i)) = S ++ [x] := by
    apply List.ext_getElem
    · rw [rowS_len, hlen]
    · intro k h1 h2
      simp only [rowS, List.getElem_map, List.getElem_range]
      rw [HD.at_get]
  have hso : SoSt w0 Z (S.length + 1) g cap w.heap.size (w.alloc (.cells #[.slice (some ⟨g, 0, none⟩) (S.length + 1) cap] 22)) (fun i => (atX xs i, atSr (S ++ [x]) i)) := by
    refine ⟨?_, heap_alloc_new w _, hl⟩
    rw [hrx, hrs]
    exact h.below hbel
  have HP : Hid (Calls Tryz.prog 85 #[.iface 22 (.slice (some ⟨g, 0, none⟩) (S.length + 1) cap), .func (.func 86) #[] #[.pointer (some ⟨w.heap.size, 0, none⟩)]] (w.alloc (.cells #[.slice (some ⟨g, 0, none⟩) (S.length + 1) cap] 22)) fun e w' => e = .returned (.tuple #[]) ∧ (∃ f, SoSt w0 Z (S.length + 1) g cap w.heap.size w' f ∧ ST.Sw 0 (S.length + 1) (fun i => (atX xs i, atSr (S ++ [x]) i)) f ∧ ST.Asc ltC f 0 (S.length + 1)) ∧ SFr (fun j => j = g) (w.alloc (.cells #[.slice (some ⟨g, 0, none⟩) (S.length + 1) cap] 22)) w') := by
    rcases Nat.eq_zero_or_pos S.length with h0 | h0
    · have e : S.length + 1 = 1 := by omega
      rw [e] at hso ⊢
      exact sstable_one w0 Z g cap _ _ _ hso
    · exact sstable_two w0 Z (S.length + 1) g cap _ _ _ hso (by omega) (by omega)
  have HB := hid hbel
  have HO := hid (And.intro ho hn)
  clear hso hrx hrs hbel h ho hn hl
  go_enter Tryz.func51, Tryz.ntmps51
  go_wp2_with fail
  refine HP.out.mono ?_
  rintro e w2 ⟨rfl, ⟨f, hf, hsw, has⟩, hfr⟩
  have c0 : w2.cell? ⟨w.heap.size, 0, none⟩ = some (.slice (some ⟨g, 0, none⟩) (S.length + 1) cap) := zcell' _ _ _ _ hf.2.1 0 _ rfl
  have hres : (List.range (S.length + 1)).map (fun i => (f i).2) = S.insertIdx (HD.pos S x.1) x := by
    refine HD.sorted_is HO.out.1 HO.out.2 ?_ (fun i j h1 h2 h3 => has i j h1 h2 h3)
    exact HD.sw_map (fun c : Cd => c.2) hsw
  have HR : Hid (∃ xs', RB w0 w2 Z (.slice (some ⟨g, 0, none⟩) (S.length + 1) cap) xs' (S.insertIdx (HD.pos S x.1) x)) := ⟨_, by rw [← hres]; exact hf.1⟩
  have HF := hid (SFr.trans (SFr.below (X := fun j => (Value.slice (some ⟨g, 0, none⟩) (S.length + 1) cap).ownBlock = some j) HB.out) (⟨hfr.os, hfr.tape, hfr.output, hfr.size, fun j hj hn => hfr.block j hj (fun e => hn (by rw [e]; rfl))⟩ : SFr (fun j => (Value.slice (some ⟨g, 0, none⟩) (S.length + 1) cap).ownBlock = some j) _ w2))
  clear hf hsw has hfr hres HP
  go_wp2_with fail
  go_ret
  exact ⟨rfl, HR.out, HF.out⟩

end Go.Proofs.YtdmnlmohfaafoadGreatDoor

