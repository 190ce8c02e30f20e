/- A row of points, sorted by their labels. -/
import Derived.Test.YtdmnlmohfaafoaeGreatDoorShelfF
import Derived.Test.YtdmnlmohfaafoaeGreatDoorPEHxCmpG
import Derived.Test.YtdmnlmohfaafoaeGreatDoorPEEwBoth
namespace Go.Proofs.YtdmnlmohfaafoaeGreatDoor
open Go.RowKit Go.Shelf Go.Sort

/-- A point in a row at block R: where its labels lie, and its number. -/
structure PE (W : World) (R : Nat) where
  lo : Option Addr
  lc : Nat
  L : List LB.Lab
  v : Int
  row : LRow W lo L
  far : ∀ a, lo = some a → 0 < L.length → a.block ≠ R
  few : L.length ≤ 1000

theorem inhP (W : World) (R : Nat) : Nonempty (PE W R) := ⟨⟨none, 0, [], 0, fun i hi => absurd hi (Nat.not_lt_zero i), fun a e => (by cases e), Nat.zero_le _⟩⟩

def encP {W : World} {R : Nat} (x : PE W R) : List Value := [.slice x.lo x.L.length x.lc, .int .i64 x.v]
def cfP {W : World} {R : Nat} (x y : PE W R) : Int := LB.cmp x.L y.L

theorem swoP {W : World} {R : Nat} : SWO (ltOf (cfP : PE W R → PE W R → Int)) := by
  have e : ∀ x y : PE W R, ltOf cfP x y = decide (LB.cmp x.L y.L = -1) := fun x y => by
    unfold ltOf cfP
    rcases LB.cmp_ord.rng x.L y.L with h | h | h <;> rw [h] <;> rfl
  refine ⟨fun x => ?_, fun x y z h1 h2 => ?_, fun x y z h1 h2 => ?_⟩
  · rw [e, EV.cmp_self]; rfl
  · rw [e] at *
    simp only [decide_eq_true_eq] at *
    exact LB.cmp_ord.tr _ _ _ h1 h2
  · rw [e] at *
    simp only [decide_eq_false_iff_not] at *
    intro h3
    rcases LB.cmp_ord.rng x.L y.L with h | h | h
    · exact h1 h
    · have := EV.cmp_eq h
      rw [this] at h3
      exact h2 h3
    · exact h2 (LB.cmp_ord.tr _ _ _ (EV.cmp_gt h) h3)

theorem sw_block {W : World} {R m : Nat} [Inhabited (PE W R)] {dk : Array (PE W R)} {os : Array Obj} {j : Nat} (hj : j < W.heap.size) (hne : j ≠ R) : (sortWorldK encP 2 W R 0 m dk os).heap[j]? = W.heap[j]? := by
  unfold sortWorldK putRowK putRow mapBlock grow
  simp only
  rw [Array.getElem?_append_left (by simpa using hj), Array.getElem?_modify, if_neg (fun e => hne e.symm)]
  rfl

theorem sw_size {W : World} {R m : Nat} [Inhabited (PE W R)] {dk : Array (PE W R)} {os : Array Obj} : W.heap.size ≤ (sortWorldK encP 2 W R 0 m dk os).heap.size := by
  unfold sortWorldK putRowK
  rw [size_grow, size_putRow]
  exact Nat.le_add_right _ _

theorem PE.lrow {W : World} {R m : Nat} [Inhabited (PE W R)] {dk : Array (PE W R)} {os : Array Obj} (x : PE W R) : LRow (sortWorldK encP 2 W R 0 m dk os) x.lo x.L := fun i hi => by
  obtain ⟨b, off, e, c0, c1, hb⟩ := x.row i hi
  have hne : b ≠ R := x.far _ e (by omega)
  exact ⟨b, off, e, (World.cell?_of_block (a := ⟨b, _, none⟩) (sw_block hb hne)).trans c0, (World.cell?_of_block (a := ⟨b, _, none⟩) (sw_block hb hne)).trans c1, Nat.lt_of_lt_of_le hb sw_size⟩

theorem gpcmp_any (ao bo : Option Addr) (a b : List LB.Lab) (ca cb : Nat) (x y : Int) (w : World) (hA : LRow w ao a) (hB : LRow w bo b) (ha : a.length ≤ 1000) (hb : b.length ≤ 1000) :
    Calls Tryz.prog 181 #[.agg #[.slice ao a.length ca, .int .i64 x], .agg #[.slice bo b.length cb, .int .i64 y]] w fun e w' => e = .returned (.int .i64 (LB.cmp a b)) ∧ Gr w.heap.size w w' := by
  have hb2 : Gr w.heap.size w ((w.alloc (.cells #[.slice ao a.length ca, .int .i64 x] 55)).alloc (.cells #[.slice bo b.length cb, .int .i64 y] 55)) := ((Gr.refl _ w).alloc (Nat.le_refl _) _).alloc (by simp) _
  have HC := hid (gcmp_any ao bo a b ca cb _ (hA.below hb2.bel) (hB.below hb2.bel) ha hb)
  have HB := hid hb2
  clear hA hB hb2
  go_enter Tryz.func181, Tryz.ntmps181
  go_wp2_with fail
  refine HC.out.mono ?_
  rintro e w2 ⟨rfl, hb2⟩
  have HB2 := hid (HB.out.trans (hb2.mono HB.out.size))
  clear hb2 HC
  go_wp2_with fail
  go_ret
  exact ⟨rfl, HB2.out⟩

theorem cmpP {W : World} {R n : Nat} [Inhabited (PE W R)] : CmpLays Tryz.prog 181 #[] (encP : PE W R → List Value) 2 cfP R 0 n W := fun m os dk _ x y =>
  (gpcmp_any x.lo y.lo x.L y.L x.lc y.lc x.v y.v (sortWorldK encP 2 W R 0 m dk os) x.lrow y.lrow x.few y.few).mono fun _ _ ⟨h1, h2⟩ => ⟨h1, h2.grow⟩

def ptOf {W : World} {R : Nat} (x : PE W R) : EV.Pt := (x.L, x.v)

set_option maxHeartbeats 1000000 in
theorem sortP_any (W : World) (R cap : Nat) (d : Array (PE W R)) (hH : ∀ i (h : i < d.size), W.cell? ⟨R, i * 2, none⟩ = some (.slice d[i].lo d[i].L.length d[i].lc) ∧ W.cell? ⟨R, i * 2 + 1, none⟩ = some (.int .i64 d[i].v)) (hf : ∀ o, W.frozen? ⟨R, o, none⟩ = false) (hR : R < W.heap.size) (hn : d.size ≤ 100000) :
    Calls Tryz.prog 180 #[.slice (some ⟨R, 0, none⟩) d.size cap, .func (.func 181) #[] #[]] W fun e w' => e = .returned (.tuple #[]) ∧ ∃ l : List EV.Pt, l.Perm (d.toList.map ptOf) ∧ l.Pairwise (fun a b => LB.cmp b.1 a.1 ≠ -1) ∧ PRow w' (some ⟨R, 0, none⟩) l ∧ But R W w' := by
  obtain ⟨x0⟩ := inhP W R
  letI : Inhabited (PE W R) := ⟨x0⟩
  have eg : ∀ args w, (callFunc 181 args).run Tryz.prog w = .ok (.enter 181 args) w := enters_of Tryz.func181 (by kernel_rfl) rfl
  have hH' : HoldsK encP 2 W R 0 d := fun j hj => by
    have hj' : j < d.size * 2 := by simpa using hj
    refine ⟨?_, hf _⟩
    rw [get_flatK _ _ _ _ hj']
    have hd : j / 2 < d.size := by omega
    obtain ⟨h0, h1⟩ := hH (j / 2) hd
    rw [getElem!_pos d (j / 2) hd, Nat.zero_add]
    rcases Nat.mod_two_eq_zero_or_one j with hm | hm
    · have ej : j / 2 * 2 = j := by omega
      rw [hm]
      rw [ej] at h0
      exact h0
    · have ej : j / 2 * 2 + 1 = j := by omega
      rw [hm]
      rw [ej] at h1
      exact h1
  have hcon := AnyQ.slices_SortFunc Tryz.sortPt 2 (fun w => by kernel_rfl) (fun w => by kernel_rfl) (encP : PE W R → List Value) (fun _ => rfl) (fun x v hv => by simp [encP] at hv; rcases hv with rfl | rfl <;> rfl) cfP swoP 181 #[] R 0 cap d W eg cmpP hH' hR (by omega)
  refine Calls.mono hcon ?_
  rintro e w' ⟨rfl, d', n, os, hp, hs, rfl⟩
  have hsz := hp.1
  refine ⟨rfl, d'.toList.map ptOf, ?_, ?_, ?_, ?_⟩
  · have h := hp.2.2
    rw [← hsz, Array.extract_size] at h
    rw [hsz, Array.extract_size] at h
    exact h.map _
  · rw [List.pairwise_map, List.pairwise_iff_getElem]
    intro i j hi hj hij
    have h := hs i j (Nat.zero_le _) hij (by simpa [hsz] using hj)
    rw [getElem!_pos d' j (by simpa using hj), getElem!_pos d' i (by simpa using hi)] at h
    unfold ltOf cfP at h
    simp only [decide_eq_false_iff_not] at h
    simp only [Array.getElem_toList, ptOf]
    omega
  · have hh : HoldsK encP 2 (sortWorldK encP 2 W R 0 n d' os) R 0 d' := holdsK_grow encP 2 _ _ _ _ _ (by unfold putRowK; rw [size_putRow]; exact hR) (holdsK_putRowK encP 2 _ _ _ d d' (holdsK_ahead encP 2 _ _ _ _ _ hH') hsz)
    intro i hi
    have hi' : i < d'.size := by simpa using hi
    have c0 := (HoldsK.cell hh hi' (show 0 < 2 by decide)).1
    have c1 := (HoldsK.cell hh hi' (show 1 < 2 by decide)).1
    have ea : atP (d'.toList.map ptOf) i = ptOf d'[i] := by
      unfold atP
      simp [List.getD, hi']
    rw [ea]
    rw [getElem!_pos d' i hi'] at c0 c1
    refine ⟨R, 0, rfl, Nat.lt_of_lt_of_le hR sw_size, d'[i].lo, d'[i].lc, ?_, ?_, d'[i].lrow⟩
    · simpa [encP, ptOf] using c0
    · simpa [encP, ptOf, Nat.add_assoc] using c1
  · refine ⟨rfl, rfl, rfl, sw_size, fun j hj hne => sw_block hj hne⟩

end Go.Proofs.YtdmnlmohfaafoaeGreatDoor

