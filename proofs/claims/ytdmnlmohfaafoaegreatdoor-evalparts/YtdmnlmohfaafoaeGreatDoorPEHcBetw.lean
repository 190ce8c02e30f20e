/- What chunk.Between and the document's Between answer. (made by mkev.py) -/
import Derived.Test.YtdmnlmohfaafoaeGreatDoorPEHcMem
namespace Go.Proofs.YtdmnlmohfaafoaeGreatDoor
open Go.RowKit

/-- Those from one time to another. -/
def betw (f t : Int) (l : List CL.Smp) : List CL.Smp := l.filter fun s => decide (f ≤ s.1 ∧ s.1 ≤ t)

theorem betw_take (f t : Int) (l : List CL.Smp) (i : Nat) (h : i < l.length) : betw f t (l.take (i + 1)) = betw f t (l.take i) ++ (if f ≤ (CL.at' l i).1 ∧ (CL.at' l i).1 ≤ t then [CL.at' l i] else []) := by
  have e : CL.at' l i = l[i] := by simp [CL.at', h]
  unfold betw
  rw [List.take_succ_eq_append_getElem h, List.filter_append, e]
  congr 1
  by_cases hh : f ≤ l[i].1 ∧ l[i].1 ≤ t
  · rw [if_pos hh]; simp [hh]
  · rw [if_neg hh]; simp [hh]

theorem betw_len (f t : Int) (l : List CL.Smp) : (betw f t l).length ≤ l.length := List.length_filter_le _ _

set_option maxRecDepth 100000 in
set_option maxHeartbeats 1600000 in
theorem between_any (ao : Option Addr) (l : List CL.Smp) (cap : Nat) (f t : Int) (w : World) (hS : SRow w ao l) (hl : l.length ≤ 1000000) :
    Calls Tryz.prog 80 #[.slice ao l.length cap, .int .i64 f, .int .i64 t] w fun e w' => ∃ v, e = .returned v ∧ w'.ownsRow w.heap.size 78 2 v (betw f t l).length (sv (betw f t l)) ∧ Below w.heap.size w w' := by
  have HS := hid hS
  clear hS
  obtain ⟨ii, hi, hi'⟩ := Option.map_eq_some_iff.1 Tryz.info78
  simp only [Prod.mk.injEq] at hi'
  obtain ⟨hz0, hz1, hz2⟩ := hi'
  have HI0 := hid hi
  have HZ0 := hid hz0
  have HZ1 := hid hz1
  have HZ2 := hid hz2
  clear hi hz0 hz1 hz2
  go_enter Tryz.func80, Tryz.ntmps80
  go_wp2_with fail
  go_loopw [7, 12] (fun tl ti wr => ∃ k : Nat, k ≤ l.length ∧ ti = .int .i64 k ∧ wr.ownsRow w.heap.size 78 2 tl (betw f t (l.take k)).length (sv (betw f t (l.take k))) ∧ Below w.heap.size w wr) (fun _ ti _ => l.length - (intOf ti).toNat)
  case atStart => exact ⟨0, by omega, rfl, World.ownsRow_nil _ _ _ _, Below.refl _ _⟩
  case round =>
    obtain ⟨k, hk, rfl, hown, hbel⟩ := hrel
    have HO := hid hown
    have HB := hid hbel
    have hsz := hbel.size
    clear hown hbel
    by_cases hlt : k < l.length
    · obtain ⟨b, off, hao, _, _, _⟩ := HS.out k hlt
      subst hao
      obtain ⟨c0, c1⟩ := HS.out.at HB.out k hlt
      have HT := hid (betw_take f t l k hlt)
      have hbl : (betw f t (l.take k)).length ≤ 1000000 := by
        have h1 := betw_len f t (l.take k)
        have h2 : (l.take k).length ≤ k := List.length_take_le _ _
        omega
      generalize CL.at' l k = x at *
      obtain ⟨x1, x2⟩ := x
      simp only at c0 c1
      by_cases hin : f ≤ x1 ∧ x1 ≤ t
      · obtain ⟨hi1, hi2⟩ := hin
        have HT2 : Hid (betw f t (l.take (k + 1)) = betw f t (l.take k) ++ [(x1, x2)]) := by
          show _ = _
          rw [HT.out, if_pos ⟨hi1, hi2⟩]
        go_wp2_with (at_builtin; refine wpList_append_own _ rfl (.tmp 26) (.tmp 28) 59 rfl w.heap.size 78 ii (.agg #[.int .i64 0, .int .i64 0]) 2 16 Tryz.underlying59 HI0.out HZ0.out HZ1.out HZ2.out rfl (by decide) _ (betw f t (l.take k)).length (sv (betw f t (l.take k))) rfl ((HO.out.alloc _).alloc _) ⟨wr.heap.size + 1, 0, none⟩ 1 1 [.int .i64 x1, .int .i64 x2] rfl rfl (two_news' _ _ (by simp) _ _ _) (two_i64 _ _) (by unfold maxLen; omega) (by omega) (by simp; omega) ?_)
        intro v7 w7 hown7 hgrow _
        have HO7 := hid hown7
        have HB7 := hid (((HB.out.alloc hsz _).alloc (by simp; omega) _).grown hgrow (by simp; omega) (fun j hj => (HO.out.lt j hj).1))
        clear hown7 hgrow
        go_wp2_with fail
        go_roundw
        case rel =>
          refine ⟨k + 1, by omega, by go_num, ?_, HB7.out⟩
          rw [HT2.out, List.length_append, sv_append]
          exact HO7.out
        case measure => simp [intOf]; omega
      · have HT2 : Hid (betw f t (l.take (k + 1)) = betw f t (l.take k)) := by
          show _ = _
          rw [HT.out, if_neg hin, List.append_nil]
        by_cases h1 : f ≤ x1
        · have h2 : ¬ x1 ≤ t := fun h => hin ⟨h1, h⟩
          clear hin
          go_wp2_with fail
          go_roundw
          case rel =>
            refine ⟨k + 1, by omega, by go_num, ?_, HB.out.alloc hsz _⟩
            rw [HT2.out]
            exact HO.out.alloc _
          case measure => simp [intOf]; omega
        · clear hin
          go_wp2_with fail
          go_roundw
          case rel =>
            refine ⟨k + 1, by omega, by go_num, ?_, HB.out.alloc hsz _⟩
            rw [HT2.out]
            exact HO.out.alloc _
          case measure => simp [intOf]; omega
    · have he : k = l.length := by omega
      subst he
      have HO1 : Hid (wr.ownsRow w.heap.size 78 2 u7 (betw f t l).length (sv (betw f t l))) := by
        show World.ownsRow _ _ _ _ _ _ _
        have := HO.out
        rw [List.take_of_length_le (Nat.le_refl _)] at this
        exact this
      go_wp2_with fail
      go_ret
      exact ⟨_, rfl, HO1.out, HB.out⟩

end Go.Proofs.YtdmnlmohfaafoaeGreatDoor

