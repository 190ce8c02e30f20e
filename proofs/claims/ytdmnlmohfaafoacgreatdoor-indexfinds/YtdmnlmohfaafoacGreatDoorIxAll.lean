/- What (*Index).all, known and slices.Sort over numbers answer. -/
import Derived.Test.YtdmnlmohfaafoacGreatDoorIxSift
import Derived.Test.YtdmnlmohfaafoacGreatDoorShelfN
import Derived.Sort.OwnSortedInts
namespace Go.Proofs.YtdmnlmohfaafoacGreatDoor
open Go.RowKit Go.Shelf

/-- slices.Sort over a row of numbers of one's own. -/
theorem sortN_any (v : Value) (base : Nat) (l : List Int) (w : World) (h : w.ownsRow base 3 1 v l.length (nv l)) (hl : l.length ≤ 1000000) :
    Calls Tryz.prog 48 #[v] w fun e w' => e = .returned (.tuple #[]) ∧ w'.ownsRow base 3 1 v (l.mergeSort fun x y => decide (x ≤ y)).length (nv (l.mergeSort fun x y => decide (x ≤ y))) ∧ w.grownBy w' v.ownBlock := by
  rcases h.2 with ⟨rfl, h0⟩ | ⟨g, cap, cur, rfl, hg, hb, h1, h2, h3, h4⟩
  · have e : l = [] := List.length_eq_zero_iff.1 h0
    subst e
    refine (Tryz.slices_Sort_int_none none 0 w).mono ?_
    rintro e w' ⟨rfl, rfl⟩
    exact ⟨rfl, by simpa [nv] using World.ownsRow_nil w' base 3 1, World.grownBy.refl _ _⟩
  · have hH : Go.Sort.Holds (Value.int .i64) w g 0 l.toArray := holds_of_blockI hb (by simpa [nv] using h4)
    refine (Tryz.slices_Sort_int g 0 cap l w hH (Array.getElem?_eq_some_iff.1 hb).1 (by omega)).mono ?_
    rintro e w' ⟨rfl, nn, os, rfl⟩
    refine ⟨rfl, ?_, grownBy_sortedI _⟩
    have := ownsRow_sortedI (ss := l) (ts := l.mergeSort fun x y => decide (x ≤ y)) (n := nn) (os := os) (e := 3) (by simp) hg hb h1 h2 (by simpa using h3)
    simpa [nv] using this

/-- The first k numbers, and zeros behind them. -/
def upto (n k : Nat) : List Int := (IX.idx k fun _ => true) ++ List.replicate (n - k) 0

theorem idx_all_len (k : Nat) : (IX.idx k fun _ => true).length = k := by
  unfold IX.idx
  rw [List.length_map, List.filter_eq_self.2 (fun _ _ => rfl), List.length_range]

theorem upto_len (n k : Nat) (h : k ≤ n) : (upto n k).length = n := by
  unfold upto
  rw [List.length_append, idx_all_len, List.length_replicate]; omega

theorem upto_set (n k : Nat) (h : k < n) : (nv (upto n k)).set k (.int .i64 k) = nv (upto n (k + 1)) := by
  unfold upto
  rw [nv_append, nv_append, IX.idx_succ, if_pos rfl, nv_append, List.append_assoc]
  have e : n - k = (n - (k + 1)) + 1 := by omega
  rw [e, List.replicate_succ]
  rw [List.set_append_right _ _ (by rw [nv_length, idx_all_len]; exact Nat.le_refl _), nv_length, idx_all_len, Nat.sub_self]
  rfl

theorem upto_zero (n : Nat) : nv (upto n 0) = List.replicate n (.int .i64 0) := by simp [nv, upto, IX.idx]

theorem upto_all (n : Nat) : upto n n = IX.idx n fun _ => true := by simp [upto]

theorem known_any (bx : Nat) (w : World) : Calls Tryz.prog 25 #[.pointer (some ⟨bx, 0, none⟩)] w fun e w' => e = .returned (.pointer (some ⟨bx, 0, none⟩)) ∧ w' = w := by
  go_enter Tryz.func25, Tryz.ntmps25
  go_wp2_with fail
  go_ret
  exact ⟨rfl, rfl⟩

set_option maxRecDepth 100000 in
set_option maxHeartbeats 800000 in
theorem all_ix (bx N : Nat) (w : World) (hc : w.cell? ⟨bx, 0, none⟩ = some (.int .i64 N)) (hN : N ≤ 100000) : Calls Tryz.prog 30 #[.pointer (some ⟨bx, 0, none⟩)] w fun e w' => RowEnd (IX.idx N fun _ => true) w e w' := by
  obtain ⟨ii, hii, hi'⟩ := Option.map_eq_some_iff.1 Tryz.infoI
  simp only [Prod.mk.injEq] at hi'
  obtain ⟨hz0, hz1, hz2⟩ := hi'
  have HI0 := hid hii
  have HZ0 := hid hz0
  have HZ1 := hid hz1
  have HZ2 := hid hz2
  clear hii hz0 hz1 hz2
  go_enter Tryz.func30, Tryz.ntmps30
  go_wp2_with (at_make; refine wpList_make_full _ rfl _ _ 45 rfl w.heap.size 3 ii (.int .i64 0) 1 Tryz.underlying45 HI0.out HZ0.out HZ1.out .i64 .i64 _ _ N rfl rfl rfl rfl (by rw [HZ2.out]; omega) (by unfold maxLen; omega) (Nat.le_refl _) ?_; intro w0 hown0 hgrow0)
  have HO0 : Hid (w0.ownsRow w.heap.size 3 1 (.slice (some ⟨w.heap.size, 0, none⟩) N N) N (nv (upto N 0))) := by
    show World.ownsRow _ _ _ _ _ _ _
    rw [upto_zero]
    rw [Nat.mul_one] at hown0
    rw [← toList_madeCells_one]; exact hown0
  have HB0 := hid ((Below.refl w.heap.size w).grown hgrow0 (Nat.le_refl _) (fun k hk => by cases hk))
  clear hown0 hgrow0
  go_wp2_with fail
  go_loopw [12] (fun ti wr => ∃ k : Nat, k ≤ N ∧ ti = .int .i64 k ∧ wr.ownsRow w.heap.size 3 1 (.slice (some ⟨w.heap.size, 0, none⟩) N N) N (nv (upto N k)) ∧ Below w.heap.size w wr) (fun ti _ => N - (intOf ti).toNat)
  case atStart => exact ⟨0, by omega, rfl, HO0.out, HB0.out⟩
  case round =>
    obtain ⟨k, hk, rfl, hown, hbel⟩ := hrel
    have HO := hid hown
    have HBl := hid hbel
    have hsz := hbel.size
    clear hown hbel HO0 HB0
    by_cases hlt : k < N
    · have hcell : wr.cell? ⟨w.heap.size, k, none⟩ = some (.int .i64 (ai (upto N k) k)) := by
        rw [HO.out.cellAt k (by omega)]
        exact nv_get _ _ (by rw [upto_len _ _ hk]; exact hlt)
      have hfro : wr.frozen? ⟨w.heap.size, k, none⟩ = false := HO.out.frozenAt k
      have HS := hid (HO.out.stored k (.int .i64 k))
      go_wp2_with fail
      go_roundw
      case rel => exact ⟨k + 1, by omega, by go_num, by rw [← upto_set N k hlt]; exact HS.out.1, HBl.out.grown HS.out.2 hsz (fun j hj => by cases hj; exact Nat.le_refl _)⟩
      case measure => simp [intOf]; omega
    · have he : k = N := by omega
      subst he
      go_wp2_with fail
      go_ret
      refine ⟨_, rfl, ?_, HBl.out⟩
      rw [idx_all_len, ← upto_all]; exact HO.out

end Go.Proofs.YtdmnlmohfaafoacGreatDoor
