/- sort.Slice as the document's Together calls it: what a row of numbers of one's own holds behind it. -/
import Derived.Test.YtdmnlmohfaafoabDoorShelfI
import Derived.Test.YtdmnlmohfaafoabDoorRlMem
namespace Go.Proofs.YtdmnlmohfaafoabDoor
open Go.Shelf Go.RowKit Go.Lib Go.Sort

def ltI (a b : Int) : Bool := decide (a < b)

theorem swo_ltI : SWO ltI where
  irrefl := fun x => by simp [ltI]
  trans := fun x y z h1 h2 => by simp [ltI] at *; omega
  ntrans := fun x y z h1 h2 => by simp [ltI] at *; omega

/-- The cells of numbers. -/
abbrev iv (l : List Int) : List Value := l.map (Value.int .i64)

noncomputable def ivT : TypeInfo := (Tryd.prog.info? 78).get (by kernel_rfl)

noncomputable def ivE : TypeInfo := (Tryd.prog.info? 2).get (by kernel_rfl)

theorem ivK (n : Nat) (h2 : 2 ≤ n) : Lib.swapperK n ivE 6 = 5 := by
  have a : ivE.hasPointers = false := by kernel_rfl
  have b : ivE.bytes = 8 := by kernel_rfl
  have c : (n == 0) = false := by simp; omega
  have d : (n == 1) = false := by simp; omega
  simp [Lib.swapperK, a, b, c, d]

theorem ivK1 (n : Nat) (h1 : n ≤ 1) : Lib.swapperK n ivE 6 = n + 1 := by
  have : n = 0 ∨ n = 1 := by omega
  rcases this with rfl | rfl <;> rfl

set_option maxHeartbeats 2000000 in
/-- The closure that tells which of two numbers stands ahead. -/
theorem lessI_any (blk off c Bs size : Nat) (W : World) (G : Nat → Int) (hs : W.cell? ⟨Bs, 0, none⟩ = some (.slice (some ⟨blk, off, none⟩) size c))
    (hc : ∀ t, t < size → W.cell? ⟨blk, off + t, none⟩ = some (.int .i64 (G t))) (i j : Nat) (hi : i < size) (hj : j < size) (_hsz : size < 4611686018427387904) :
    Calls Tryd.prog 36 #[.int .i64 i, .int .i64 j, .pointer (some ⟨Bs, 0, none⟩)] W fun e w' => e = .returned (.bool (decide (G i < G j))) ∧ ∃ q, w' = W.drewN q := by
  have ci := hc i hi
  have cj := hc j hj
  go_enter Tryd.func36, Tryd.ntmps36
  go_wp2
  go_quiet (fail)
  go_wp2
  go_ret
  exact ⟨rfl, nq, rfl⟩

theorem sortI_two (blk off c Bs : Nat) (d : Array Int) (h2 : 2 ≤ d.size) (hsz : d.size < 4611686018427387904) (w : World) (hH : Holds (Value.int .i64) w blk off d) (hblk : blk < w.heap.size)
    (hBs : w.cell? ⟨Bs, 0, none⟩ = some (.slice (some ⟨blk, off, none⟩) d.size c)) (hB1 : Bs < w.heap.size) (hB2 : Bs ≠ blk) :
    Calls Tryd.prog 35 #[.iface 78 (.slice (some ⟨blk, off, none⟩) d.size c), .func (.func 36) #[] #[.pointer (some ⟨Bs, 0, none⟩)]] w fun e w' =>
      e = .returned (.tuple #[]) ∧ ∃ d' n os, PermIn 0 d.size d d' ∧ SortedIn ltI 0 d.size d' ∧ w' = grow (putRow (Value.int .i64) (Sort.ahead w n) blk off d') os := by
  have hless : LessReads Tryd.prog 36 #[.pointer (some ⟨Bs, 0, none⟩)] (Value.int .i64) ltI blk off d.size w := by
    intro m os dk hs i j hi hj
    have e : sortWorld (Value.int .i64) w blk off m dk os = putRow (Value.int .i64) (grow (Sort.ahead w m) os) blk off dk := by
      unfold sortWorld; rw [putRow_grow _ (Sort.ahead w m) _ blk off _ hblk]
    have hHg : Holds (Value.int .i64) (grow (Sort.ahead w m) os) blk off d := holds_grow _ _ _ blk off d hblk (holds_ahead _ _ _ _ _ _ hH)
    refine lessI_any blk off c Bs d.size _ (fun t => dk[t]!) ?_ (fun t ht => ?_) i j hi hj (by omega)
    · rw [e, cell?_putRow_other _ _ blk off dk _ (.inl hB2), cell?_grow _ _ _ (by exact hB1)]; exact hBs
    · rw [e]; exact (holds_putRow _ _ blk off d dk hHg hs t (by omega)).1
  exact Any.sort_Slice_sorted Tryd.laysGg6 78 2 ivT ivE (by kernel_rfl) (by kernel_rfl) (by kernel_rfl) (by kernel_rfl) 6 (fun _ => by kernel_rfl) (by kernel_rfl) (fun _ => by kernel_rfl) (Value.int .i64) (fun _ => rfl) ltI swo_ltI 36 _
    (enters_of Tryd.func36 (by kernel_rfl) rfl) blk off c d h2 hsz 61 (by rw [ivK _ h2]; kernel_rfl) true
    (fun args W => run_callFunc_extern Tryd.func61 (by kernel_rfl) (by kernel_rfl) (by kernel_rfl) (e := Extern.ReflectliteSwapper.swap true) (by kernel_rfl) args W) w hless hH hblk

theorem permI_arr {d d' : Array Int} (h : PermIn 0 d.size d d') : d'.toList.Perm d.toList := by
  obtain ⟨hs, _, hp⟩ := h
  have e1 : d.extract 0 d.size = d := by simp
  have e2 : d'.extract 0 d.size = d' := by rw [← hs]; simp
  rw [e1, e2] at hp
  exact hp

theorem sortedI_arr {d : Array Int} {n : Nat} (hn : n = d.size) (h : SortedIn ltI 0 n d) : d.toList.Pairwise (· ≤ ·) := by
  subst hn
  rw [List.pairwise_iff_getElem]
  intro i j hi hj hij
  have := h i j (by omega) hij (by simpa using hj)
  simp at hi hj
  simpa [ltI, hi, hj] using this

/-- sort.Slice over a row of numbers of one's own. -/
theorem sortI_any (v : Value) (base Bs : Nat) (l : List Int) (w : World) (hown : w.ownsRow base 2 1 v l.length (iv l)) (hsz : l.length < 4611686018427387904)
    (hBs : w.cell? ⟨Bs, 0, none⟩ = some v) (hB1 : Bs < w.heap.size) (hB2 : v.ownBlock ≠ some Bs) :
    Calls Tryd.prog 35 #[.iface 78 v, .func (.func 36) #[] #[.pointer (some ⟨Bs, 0, none⟩)]] w fun e w' =>
      e = .returned (.tuple #[]) ∧ ∃ l', l'.Perm l ∧ l'.Pairwise (· ≤ ·) ∧ w'.ownsRow base 2 1 v l.length (iv l') ∧ w.grownBy w' v.ownBlock := by
  by_cases h1 : l.length ≤ 1
  · have hform : ∃ p c, v = .slice p l.length c := by
      rcases hown.2 with ⟨h, hn⟩ | ⟨g, cap, cur, h, _⟩
      · exact ⟨none, 0, by rw [h, hn]⟩
      · exact ⟨_, _, h⟩
    obtain ⟨p, c, rfl⟩ := hform
    have hf : ∃ f, Tryd.prog.funcs.findIdx? (·.name == "internal/reflectlite" ++ ".Swapper$" ++ toString (swapperK l.length ivE 6)) = some f := by
      rw [ivK1 _ h1]
      have : l.length = 0 ∨ l.length = 1 := by omega
      rcases this with e | e <;> rw [e]
      · exact ⟨57, by kernel_rfl⟩
      · exact ⟨58, by kernel_rfl⟩
    obtain ⟨f, hf⟩ := hf
    refine (Any.sort_Slice_tiny Tryd.laysGg6 78 2 ivT ivE (by kernel_rfl) (by kernel_rfl) (by kernel_rfl) (by kernel_rfl) 6 (fun _ => by kernel_rfl) p l.length c h1 f hf (.func 36) #[] #[.pointer (some ⟨Bs, 0, none⟩)] w).mono ?_
    rintro e w' ⟨rfl, os, rfl⟩
    have hgr : ∀ row, w.grownBy (grow w os) row := fun row => ⟨rfl, rfl, rfl, by simp, fun k hk _ => heap_grow_old _ _ hk⟩
    refine ⟨rfl, l, List.Perm.refl _, ?_, ?_, hgr _⟩
    · match l, h1 with
      | [], _ => exact List.Pairwise.nil
      | [x], _ => exact List.pairwise_singleton _ _
    · exact ownsRow_kept_all' hown (fun k hk => (hgr none).block k (hown.lt k hk).2 (by simp))
  · rcases hown.2 with ⟨_, hn⟩ | ⟨g, cap, cur, rfl, hbase, hb, c1, c2, c3, c4⟩
    · omega
    · have hH : Holds (Value.int .i64) w g 0 l.toArray := holds_of_blockI hb (by rw [Nat.mul_one] at c4; exact c4)
      refine (sortI_two g 0 cap Bs l.toArray (by simp; omega) (by simpa using hsz) w hH (Array.getElem?_eq_some_iff.1 hb).1 (by simpa using hBs) hB1 (fun e => hB2 (by rw [e]; rfl))).mono ?_
      rintro e w' ⟨rfl, d', n, os, hp, hs, rfl⟩
      have hsd := hp.1
      have hpl := permI_arr hp
      refine ⟨rfl, d'.toList, by simpa using hpl, sortedI_arr hsd.symm hs, ?_, grownBy_sortedI d'⟩
      have := ownsRow_sortedI (n := n) (os := os) (ss := l) (ts := d'.toList) (by simpa using hsd) hbase hb c1 c2 c3
      simpa using this

end Go.Proofs.YtdmnlmohfaafoabDoor
