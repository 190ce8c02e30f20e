/- sort.Slice as the document's MergeSamples calls it: what a row of samples of one's own holds behind it. -/
import Derived.Test.YtdmnlmohfaafoaeShelfS
import Derived.Test.YtdmnlmohfaafoaePMHxMem
import Derived.Test.YtdmnlmohfaafoaePMBkJn
namespace Go.Proofs.Ytdmnlmohfaafoae
open Go.Shelf Go.RowKit Go.Lib Go.Sort

/-- A sample's cells. -/
def encS (s : CL.Smp) : List Value := [.int .i64 s.1, .int .i64 s.2]

def ltT (a b : CL.Smp) : Bool := decide (a.1 < b.1)

theorem swo_ltT : SWO ltT where
  irrefl := fun x => by simp [ltT]
  trans := fun x y z h1 h2 => by simp [ltT] at *; omega
  ntrans := fun x y z h1 h2 => by simp [ltT] at *; omega

theorem arr_at (l : List CL.Smp) (i : Nat) (h : i < l.length) : l.toArray[i]! = CL.at' l i := by
  simp [CL.at', h]

theorem flat_sv (l : List CL.Smp) : flatK encS 2 l.toArray = (sv l).toArray := by
  refine ext_get! (by simp [sv_length]) fun t ht => ?_
  have ht' : t < l.length * 2 := by simpa using ht
  rw [get_flatK _ _ _ _ (by simpa using ht'), arr_at l (t / 2) (by omega)]
  obtain ⟨g0, g1⟩ := sv_get l (t / 2) (by omega)
  have hs : ∀ v, (sv l)[t]? = some v → (sv l).toArray[t]! = v := fun v hv => by
    simp [hv]
  rcases Nat.mod_two_eq_zero_or_one t with hp | hp
  · rw [hp]
    have e : t / 2 * 2 = t := by omega
    rw [e] at g0
    rw [hs _ g0]; rfl
  · rw [hp]
    have e : t / 2 * 2 + 1 = t := by omega
    rw [e] at g1
    rw [hs _ g1]; rfl

/-- A row of one's own holds its samples. -/
theorem holds_own {w : World} {base g cap : Nat} {l : List CL.Smp} (h : w.ownsRow base 47 2 (.slice (some ⟨g, 0, none⟩) l.length cap) l.length (sv l)) : HoldsK encS 2 w g 0 l.toArray := by
  unfold HoldsK
  rw [flat_sv]
  intro j hj
  have hj' : j < (sv l).length := by simpa using hj
  have hj2 := hj'
  rw [sv_length] at hj2
  constructor
  · rw [Nat.zero_add, h.cellAt j hj2]
    simp [hj']
  · rcases h.2 with ⟨h1, _⟩ | ⟨g', cap', cur, h1, _, hb, _⟩
    · cases h1
    · simp only [Value.slice.injEq, Option.some.injEq, Addr.mk.injEq, and_true, true_and] at h1
      obtain ⟨rfl, rfl⟩ := h1
      simp [World.frozen?, hb]

theorem take_put (cur : Array Value) (xs : List Value) (h : xs.length ≤ cur.size) : (putCells id 0 xs.toArray cur).toList.take xs.length = xs := by
  apply List.ext_getElem?
  intro j
  by_cases hj : j < xs.length
  · rw [List.getElem?_take_of_lt hj, Array.getElem?_toList]
    simp [putCells, hj, show j < cur.size by omega]
  · rw [List.getElem?_take_eq_none (by omega), List.getElem?_eq_none (by omega)]

/-- Behind a sort the same slice owns the sorted samples. -/
theorem owns_sorted {w : World} {base g cap n : Nat} {os : Array Obj} {l l' : List CL.Smp} (h : w.ownsRow base 47 2 (.slice (some ⟨g, 0, none⟩) l.length cap) l.length (sv l)) (hl : l'.length = l.length) :
    (grow (putRowK encS 2 (Sort.ahead w n) g 0 l'.toArray) os).ownsRow base 47 2 (.slice (some ⟨g, 0, none⟩) l.length cap) l.length (sv l') := by
  rcases h.2 with ⟨h1, _⟩ | ⟨g', cap', cur, h1, hbase, hb, c1, c2, c3, c4⟩
  · cases h1
  · simp only [Value.slice.injEq, Option.some.injEq, Addr.mk.injEq, and_true, true_and] at h1
    obtain ⟨rfl, rfl⟩ := h1
    refine ⟨by rw [sv_length, hl], .inr ⟨g, cap, putCells id 0 (sv l').toArray cur, rfl, hbase, ?_, c1, c2, by simp [putCells, c3], ?_⟩⟩
    · have hg : g < w.heap.size := (Array.getElem?_eq_some_iff.1 hb).1
      unfold putRowK
      rw [flat_sv, heap_grow_old _ _ (by simpa using hg)]
      simp [putRow, mapBlock, Sort.ahead, Array.getElem?_modify, hb, onCells]
    · rw [← hl, ← sv_length]
      exact take_put cur (sv l') (by rw [sv_length, c3]; omega)

theorem grown_sorted {w : World} {g n : Nat} {os : Array Obj} (d : Array CL.Smp) : w.grownBy (grow (putRowK encS 2 (Sort.ahead w n) g 0 d) os) (some g) := by
  refine ⟨rfl, rfl, rfl, by simp [putRowK], fun k hk hne => ?_⟩
  unfold putRowK
  rw [heap_grow_old _ _ (by simpa using hk)]
  have : g ≠ k := fun e => hne (by rw [e])
  simp [putRow, mapBlock, Sort.ahead, Array.getElem?_modify, this]

noncomputable def svT : TypeInfo := (Try.prog.info? 42).get (by kernel_rfl)

noncomputable def svE : TypeInfo := (Try.prog.info? 47).get (by kernel_rfl)

theorem svK (n : Nat) (h2 : 2 ≤ n) : Lib.swapperK n svE 25 = 9 := by
  have a : svE.hasPointers = false := by kernel_rfl
  have b : svE.bytes = 16 := by kernel_rfl
  have c : (n == 0) = false := by simp; omega
  have d : (n == 1) = false := by simp; omega
  simp [Lib.swapperK, a, b, c, d]

theorem svK1 (n : Nat) (h1 : n ≤ 1) : Lib.swapperK n svE 25 = n + 1 := by
  have : n = 0 ∨ n = 1 := by omega
  rcases this with rfl | rfl <;> rfl

set_option maxHeartbeats 2000000 in
/-- The closure that tells which of two samples stands ahead. -/
theorem less_any (blk off c Bs size : Nat) (W : World) (G : Nat → Int) (hs : W.cell? ⟨Bs, 0, none⟩ = some (.slice (some ⟨blk, off, none⟩) size c))
    (hc : ∀ t, t < size → W.cell? ⟨blk, off + t * 2, none⟩ = some (.int .i64 (G t))) (i j : Nat) (hi : i < size) (hj : j < size) (_hsz : size < 4611686018427387904) :
    Calls Try.prog 50 #[.int .i64 i, .int .i64 j, .pointer (some ⟨Bs, 0, none⟩)] W fun e w' => e = .returned (.bool (decide (G i < G j))) ∧ ∃ q, w' = W.drewN q := by
  have ci := hc i hi
  have cj := hc j hj
  go_enter Try.func50, Try.ntmps50
  go_wp2
  go_quiet (fail)
  go_wp2
  go_ret
  exact ⟨rfl, nq, rfl⟩

theorem sort_two (blk off c Bs : Nat) (d : Array CL.Smp) (h2 : 2 ≤ d.size) (hsz : d.size < 4611686018427387904) (w : World) (hH : HoldsK encS 2 w blk off d) (hblk : blk < w.heap.size)
    (hBs : w.cell? ⟨Bs, 0, none⟩ = some (.slice (some ⟨blk, off, none⟩) d.size c)) (hB1 : Bs < w.heap.size) (hB2 : Bs ≠ blk) :
    Calls Try.prog 49 #[.iface 42 (.slice (some ⟨blk, off, none⟩) d.size c), .func (.func 50) #[] #[.pointer (some ⟨Bs, 0, none⟩)]] w fun e w' =>
      e = .returned (.tuple #[]) ∧ ∃ d' n os, PermIn 0 d.size d d' ∧ SortedIn ltT 0 d.size d' ∧ w' = grow (putRowK encS 2 (Sort.ahead w n) blk off d') os := by
  have hless : LessReadsK Try.prog 50 #[.pointer (some ⟨Bs, 0, none⟩)] encS 2 ltT blk off d.size w := by
    intro m os dk hs i j hi hj
    have e : sortWorldK encS 2 w blk off m dk os = putRowK encS 2 (grow (Sort.ahead w m) os) blk off dk := by
      unfold sortWorldK; rw [putRowK_grow _ _ (Sort.ahead w m) _ blk off _ hblk]
    have hHg : HoldsK encS 2 (grow (Sort.ahead w m) os) blk off d := holdsK_grow _ _ _ _ blk off d hblk (holdsK_ahead _ _ _ _ _ _ _ hH)
    refine less_any blk off c Bs d.size _ (fun t => dk[t]!.1) ?_ (fun t ht => ?_) i j hi hj (by omega)
    · rw [e, cell?_putRowK_other _ _ _ blk off dk _ (by exact hB2), cell?_grow _ _ _ (by exact hB1)]; exact hBs
    · rw [e]; exact ((holdsK_putRowK _ _ _ blk off d dk hHg hs).cell (i := t) (c := 0) (by omega) (by omega)).1
  exact Any.sort_Slice_cells_sorted Try.laysGg6 42 47 svT svE (by kernel_rfl) (by kernel_rfl) (by kernel_rfl) (by kernel_rfl) 25 (fun _ => by kernel_rfl) encS 2 (fun _ => rfl) (by kernel_rfl) (fun _ => by kernel_rfl)
    (fun x v hv => by simp [encS] at hv; rcases hv with rfl | rfl <;> rfl) ltT swo_ltT 50 _
    (enters_of Try.func50 (by kernel_rfl) rfl) blk off c d h2 hsz 75 (by rw [svK _ h2]; kernel_rfl) false
    (fun args W => run_callFunc_extern Try.func75 (by kernel_rfl) (by kernel_rfl) (by kernel_rfl) (e := Extern.ReflectliteSwapper.swap false) (by kernel_rfl) args W) w hless hH hblk

theorem perm_arr {d d' : Array CL.Smp} (h : PermIn 0 d.size d d') : d'.toList.Perm d.toList := by
  obtain ⟨hs, _, hp⟩ := h
  have e1 : d.extract 0 d.size = d := by simp
  have e2 : d'.extract 0 d.size = d' := by rw [← hs]; simp
  rw [e1, e2] at hp
  exact hp

/-- No later one stands ahead of an earlier one. -/
def NoLess (l : List CL.Smp) : Prop := l.Pairwise fun x y => x.1 ≤ y.1

theorem sorted_arr {d : Array CL.Smp} {n : Nat} (hn : n = d.size) (h : SortedIn ltT 0 n d) : NoLess d.toList := by
  subst hn
  unfold NoLess
  rw [List.pairwise_iff_getElem]
  intro i j hi hj hij
  have := h i j (by omega) hij (by simpa using hj)
  simp at hi hj
  simpa [ltT, hi, hj] using this

/-- sort.Slice over a row of one's own. -/
theorem sort_any (v : Value) (base Bs : Nat) (l : List CL.Smp) (w : World) (hown : w.ownsRow base 47 2 v l.length (sv l)) (hsz : l.length < 4611686018427387904)
    (hBs : w.cell? ⟨Bs, 0, none⟩ = some v) (hB1 : Bs < w.heap.size) (hB2 : v.ownBlock ≠ some Bs) :
    Calls Try.prog 49 #[.iface 42 v, .func (.func 50) #[] #[.pointer (some ⟨Bs, 0, none⟩)]] w fun e w' =>
      e = .returned (.tuple #[]) ∧ ∃ l', l'.Perm l ∧ NoLess l' ∧ w'.ownsRow base 47 2 v l.length (sv l') ∧ w.grownBy w' v.ownBlock := by
  by_cases h1 : l.length ≤ 1
  · have hform : ∃ p c, v = .slice p l.length c := by
      rcases hown.2 with ⟨h, hn⟩ | ⟨g, cap, cur, h, _⟩
      · exact ⟨none, 0, by rw [h, hn]⟩
      · exact ⟨_, _, h⟩
    obtain ⟨p, c, rfl⟩ := hform
    have hf : ∃ f, Try.prog.funcs.findIdx? (·.name == "internal/reflectlite" ++ ".Swapper$" ++ toString (swapperK l.length svE 25)) = some f := by
      rw [svK1 _ h1]
      have : l.length = 0 ∨ l.length = 1 := by omega
      rcases this with e | e <;> rw [e]
      · exact ⟨67, by kernel_rfl⟩
      · exact ⟨68, by kernel_rfl⟩
    obtain ⟨f, hf⟩ := hf
    refine (Any.sort_Slice_tiny Try.laysGg6 42 47 svT svE (by kernel_rfl) (by kernel_rfl) (by kernel_rfl) (by kernel_rfl) 25 (fun _ => by kernel_rfl) p l.length c h1 f hf (.func 50) #[] #[.pointer (some ⟨Bs, 0, none⟩)] w).mono ?_
    rintro e w' ⟨rfl, os, rfl⟩
    have hgr : ∀ row, w.grownBy (grow w os) row := fun row => ⟨rfl, rfl, rfl, by simp, fun k hk _ => heap_grow_old _ _ hk⟩
    refine ⟨rfl, l, List.Perm.refl _, ?_, ?_, hgr _⟩
    · match l, h1 with
      | [], _ => exact List.Pairwise.nil
      | [x], _ => exact List.pairwise_singleton _ _
    · exact ownsRow_kept_all' hown (fun k hk => (hgr none).block k (hown.lt k hk).2 (by simp))
  · rcases hown.2 with ⟨_, hn⟩ | ⟨g, cap, cur, rfl, hbase, hb, _⟩
    · omega
    · refine (sort_two g 0 cap Bs l.toArray (by simp; omega) (by simpa using hsz) w (holds_own hown) (Array.getElem?_eq_some_iff.1 hb).1 (by simpa using hBs) hB1 (fun e => hB2 (by rw [e]; rfl))).mono ?_
      rintro e w' ⟨rfl, d', n, os, hp, hs, rfl⟩
      have hsd := hp.1
      have hpl := perm_arr hp
      refine ⟨rfl, d'.toList, by simpa using hpl, sorted_arr hsd.symm hs, ?_, grown_sorted d'⟩
      have := owns_sorted (n := n) (os := os) hown (l' := d'.toList) (by simpa using hsd)
      simpa using this

end Go.Proofs.Ytdmnlmohfaafoae

