/- What sort.Strings and sameTexts of the law answer (made by mkdk.py). -/
import Derived.Test.YtdmnlmohfaafoacDoorDkTxt
import Derived.Test.YtdmnlmohfaafoacDoorShelfV
import Derived.Sort.OwnSorted
namespace Go.Proofs.YtdmnlmohfaafoacDoor
open Go.RowKit Go.Maps

/-- sort.Strings over a row of texts of one's own. -/
theorem sortT_any (v : Value) (base : Nat) (ss : List (List UInt8)) (w : World) (h : w.ownsRow base 9 1 v ss.length (ss.map encStr)) (hl : ss.length ≤ 1000000) :
    Calls Tryd.prog 27 #[v] w fun e w' => e = .returned (.tuple #[]) ∧ w'.ownsRow base 9 1 v (ss.mergeSort fun x y => decide (x ≤ y)).length ((ss.mergeSort fun x y => decide (x ≤ y)).map encStr) ∧ w.grownBy w' v.ownBlock := by
  rcases h.2 with ⟨rfl, h0⟩ | ⟨g, cap, cur, rfl, hg, hb, h1, h2, h3, h4⟩
  · have e : ss = [] := List.length_eq_zero_iff.1 h0
    subst e
    refine (Tryd.sort_Strings_none none 0 w).mono ?_
    rintro e w' ⟨rfl, rfl⟩
    exact ⟨rfl, by simpa using World.ownsRow_nil w' base 9 1, World.grownBy.refl _ _⟩
  · have hH : Go.Sort.Holds encStr w g 0 ss.toArray := holds_of_block hb (by simpa using h4)
    refine (Tryd.sort_Strings g 0 cap ss w hH (Array.getElem?_eq_some_iff.1 hb).1 (by omega)).mono ?_
    rintro e w' ⟨rfl, nn, os, rfl⟩
    refine ⟨rfl, ?_, grownBy_sorted _⟩
    have := ownsRow_sorted (ss := ss) (ts := ss.mergeSort fun x y => decide (x ≤ y)) (n := nn) (os := os) (e := 9) (by simp) hg hb h1 h2 (by simpa using h3)
    rw [List.length_mergeSort]; exact this

set_option maxRecDepth 100000 in
set_option maxHeartbeats 800000 in
theorem sameT_any (ao bo : Option Addr) (A : List (List UInt8)) (ca cb : Nat) (w : World) (hA : ∀ i, i < A.length → ∃ b off, ao = some ⟨b, off, none⟩ ∧ w.cell? ⟨b, off + i, none⟩ = some (encStr (A.getD i [])) ∧ b < w.heap.size) (hB : ∀ i, i < A.length → ∃ b off, bo = some ⟨b, off, none⟩ ∧ w.cell? ⟨b, off + i, none⟩ = some (encStr (A.getD i [])) ∧ b < w.heap.size) (ha : A.length ≤ 1000000) :
    Calls Tryd.prog 15 #[.slice ao A.length ca, .slice bo A.length cb] w fun e w' => e = .returned (.bool true) ∧ Below w.heap.size w w' := by
  have HA := hid hA
  have HBr := hid hB
  clear hA hB
  go_enter Tryd.func15, Tryd.ntmps15
  go_wp2
  go_loopw [5] (fun ti wr => ∃ i : Nat, i ≤ A.length ∧ ti = .int .i64 i ∧ Below w.heap.size w wr) (fun ti _ => A.length - (intOf ti).toNat)
  case atStart => exact ⟨0, by omega, rfl, Below.refl _ _⟩
  case round =>
    obtain ⟨i, hi, rfl, hbel⟩ := hrel
    have HBl := hid hbel
    clear hbel
    by_cases hlt : i < A.length
    · obtain ⟨b1, off, hao, hc0, hbs⟩ := HA.out i hlt
      subst hao
      have hcell0 := (HBl.out.cell (p := ⟨b1, off + i, none⟩) hbs).trans hc0
      obtain ⟨b2, off2, hbo, hd0, hbs2⟩ := HBr.out i hlt
      subst hbo
      have hdell0 := (HBl.out.cell (p := ⟨b2, off2 + i, none⟩) hbs2).trans hd0
      clear hc0 hd0
      unfold encStr at hcell0 hdell0
      generalize (⟨(A.getD i []).toArray⟩ : ByteArray) = p at *
      have hil : 0 ≤ (i : Int) ∧ (i : Int) < (A.length : Int) := by omega
      have hq : (p.toList == p.toList) = true := by simp
      go_wp2_with fail
      go_quiet (fail)
      go_wp2_with fail
      go_roundw
      case rel => exact ⟨i + 1, by omega, by go_num, below_drewN HBl.out _⟩
      case measure => simp [intOf]; omega
    · have he : i = A.length := by omega
      subst he
      go_wp2
      go_ret
      exact ⟨rfl, HBl.out⟩

end Go.Proofs.YtdmnlmohfaafoacDoor
