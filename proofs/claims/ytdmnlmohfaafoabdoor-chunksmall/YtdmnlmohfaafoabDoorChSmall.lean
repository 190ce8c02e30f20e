/- raingaugekeep.ChunkSmall, walked: samples at even steps, of one value, take two bits each, but for the first ones. -/
import Derived.Test.YtdmnlmohfaafoabDoorChKeep
namespace Go.Proofs.YtdmnlmohfaafoabDoor
open Go.RowKit

def evenL (f s v : Int) (n : Nat) : List CL.Smp := (List.range n).map fun (i : Nat) => (f + (i : Int) * s, v)

theorem evenL_len (f s v : Int) (n : Nat) : (evenL f s v n).length = n := by simp [evenL]
theorem evenL_at (f s v : Int) (n i : Nat) (h : i < n) : CL.at' (evenL f s v n) i = (f + (i : Int) * s, v) := by simp [evenL, CL.at', h]
theorem evenL_succ (f s v : Int) (n : Nat) : evenL f s v (n + 1) = evenL f s v n ++ [(f + (n : Int) * s, v)] := by simp [evenL, List.range_succ]

theorem mul_bound (s : Int) (i : Nat) (h1 : 1 ≤ s) (h2 : s ≤ 1048576) (hi : i ≤ 200) : 0 ≤ (i : Int) * s ∧ (i : Int) * s ≤ 209715200 := by
  have a : 0 ≤ (i : Int) * s := Int.mul_nonneg (by omega) (by omega)
  have b : (i : Int) * s ≤ 200 * s := Int.mul_le_mul_of_nonneg_right (by omega) (by omega)
  omega

theorem evenL_rs (f s v : Int) (n : Nat) (hf1 : -1099511627776 ≤ f) (hf2 : f ≤ 1099511627776) (h1 : 1 ≤ s) (h2 : s ≤ 1048576) (hn : n ≤ 200) (hv1 : -9223372036854775808 ≤ v) (hv2 : v ≤ 9223372036854775807) : ∀ x ∈ evenL f s v n, CL.Rs x := by
  intro x hx
  simp only [evenL, List.mem_map, List.mem_range] at hx
  obtain ⟨i, hi, rfl⟩ := hx
  have := mul_bound s i h1 h2 (by omega)
  exact ⟨⟨by simp only []; omega, by simp only []; omega⟩, hv1, hv2⟩

set_option maxHeartbeats 800000 in
theorem chs_out (f s v n : Int) (w : World) (h : f < -1099511627776 ∨ 1099511627776 < f ∨ s < 1 ∨ 1048576 < s) :
    Calls Tryd.prog 4 #[.int .i64 f, .int .i64 s, .int .i64 v, .int .i64 n] w fun e w' => e = .returned (.bool true) ∧ w' = w := by
  by_cases h1 : f < -1099511627776
  · go_enter Tryd.func4, Tryd.ntmps4
    go_wp2
    go_ret
    exact ⟨rfl, rfl⟩
  · by_cases h2 : 1099511627776 < f
    · go_enter Tryd.func4, Tryd.ntmps4
      go_wp2
      go_ret
      exact ⟨rfl, rfl⟩
    · by_cases h3 : s < 1
      · go_enter Tryd.func4, Tryd.ntmps4
        go_wp2
        go_ret
        exact ⟨rfl, rfl⟩
      · have h4 : 1048576 < s := by omega
        clear h
        go_enter Tryd.func4, Tryd.ntmps4
        go_wp2
        go_ret
        exact ⟨rfl, rfl⟩

set_option maxRecDepth 100000 in
set_option maxHeartbeats 1600000 in
theorem chs_any (f s v n : Int) (w : World) (hf1 : ¬ f < -1099511627776) (hf2 : ¬ 1099511627776 < f) (h1 : ¬ s < 1) (h2 : ¬ 1048576 < s) (hv1 : -9223372036854775808 ≤ v) (hv2 : v ≤ 9223372036854775807)
    (hW : Wids w) (hG : 0 < w.heap.size) :
    Calls Tryd.prog 4 #[.int .i64 f, .int .i64 s, .int .i64 v, .int .i64 n] w fun e w' => e = .returned (.bool true) ∧ Below w.heap.size w w' := by
  have HW := hid hW
  clear hW
  obtain ⟨i, hi, hi'⟩ := Option.map_eq_some_iff.1 Tryd.info35
  simp only [Prod.mk.injEq] at hi'
  obtain ⟨hz0, hz1, hz2⟩ := hi'
  have HI0 := hid hi
  have HZ0 := hid hz0
  have HZ1 := hid hz1
  have HZ2 := hid hz2
  clear hi hz0 hz1 hz2
  go_enter Tryd.func4, Tryd.ntmps4
  go_wp2_with fail
  refine (chunked_any w HW.out hG).mono ?_
  rintro e w1 ⟨rfl, hb1⟩
  have HB1 := hid hb1
  have hs1 := hb1.size
  clear hb1
  go_wp2_with fail
  refine (pick_any n 200 _ (by omega) (by omega)).mono ?_
  rintro e w2 ⟨⟨m, hm, rfl⟩, rfl⟩
  go_wp2_with fail
  go_loopw [9, 10] (fun tl ti wr => ∃ k : Nat, k ≤ m ∧ ti = .int .i64 k ∧ wr.ownsRow w.heap.size 35 2 tl k (sv (evenL f s v k)) ∧ Below w.heap.size w wr) (fun _ ti _ => m - (intOf ti).toNat)
  case atStart => exact ⟨0, by omega, rfl, World.ownsRow_nil _ _ _ _, HB1.out⟩
  case round =>
    obtain ⟨k, hk, rfl, hown, hbel⟩ := hrel
    have HO := hid hown
    have HB := hid hbel
    have hsz := hbel.size
    clear hown hbel
    by_cases hlt : k < m
    · have hmb := mul_bound s k (by omega) (by omega) (by omega)
      have hw1 : IntKind.i64.wrap ((k : Int) * s) = (k : Int) * s := by rw [IntKind.wrap_i64]; omega
      have hw2 : IntKind.i64.wrap (f + (k : Int) * s) = f + (k : Int) * s := by rw [IntKind.wrap_i64]; omega
      go_wp2_with (at_builtin; refine wpList_append_own _ rfl (.tmp 36) (.tmp 44) 22 rfl w.heap.size 35 i (.agg #[.int .i64 0, .int .i64 0]) 2 16 Tryd.underlying22 HI0.out HZ0.out HZ1.out HZ2.out rfl (by decide) _ k (sv (evenL f s v k)) rfl (HO.out.alloc _) ⟨wr.heap.size, 0, none⟩ 1 1 [.int .i64 (f + (k : Int) * s), .int .i64 v] rfl rfl (two_news _ _ _ _) (two_i64 _ _) (by unfold maxLen; omega) (by omega) (by simp; omega) ?_)
      intro v' w3 hown3 hgrow _
      have HO3 := hid hown3
      have HB3 := hid ((HB.out.alloc hsz _).grown hgrow (by simp; omega) (fun j hj => (HO.out.lt j hj).1))
      clear hown3 hgrow
      go_wp2_with fail
      go_roundw
      case rel =>
        refine ⟨k + 1, by omega, by go_num, ?_, HB3.out⟩
        rw [evenL_succ, sv_append]
        exact HO3.out
      case measure => simp [intOf]; omega
    · have he : k = m := by omega
      subst he
      have hlen := evenL_len f s v k
      have HL := hid hlen
      have HSm := hid (CL.even_small (evenL f s v k) f s v k hlen (fun i hi => evenL_at f s v k i hi))
      have HRs := hid (evenL_rs f s v k (by omega) (by omega) (by omega) (by omega) (by omega) hv1 hv2)
      have HO1 : Hid (wr.ownsRow w.heap.size 35 2 u9 (evenL f s v k).length (sv (evenL f s v k))) := by
        show World.ownsRow _ _ _ _ _ _ _
        rw [hlen]; exact HO.out
      generalize evenL f s v k = l at *
      obtain ⟨ao, cap, hv, hS⟩ := SRow.of_own HO1.out
      subst hv
      have HS := hid hS
      clear hS
      have hle : l.length ≤ 200 := by omega
      have hlk1 : (l.length : Int) ≤ k := by omega
      have hlk2 : (k : Int) ≤ l.length := by omega
      clear hlen HO HO1
      rcases hr : CL.right l with _ | _
      · have HRt := hid hr
        clear hr
        go_wp2_with fail
        refine (right_any ao l cap _ HS.out HRs.out (by omega)).mono ?_
        rintro e w3 ⟨rfl, hb3⟩
        rw [HRt.out]
        have HB3 := hid (HB.out.trans (hb3.mono hsz))
        clear hb3
        go_wp2_with fail
        go_ret
        exact ⟨rfl, HB3.out⟩
      · have HRt := hid hr
        clear hr
        go_wp2_with fail
        refine (right_any ao l cap _ HS.out HRs.out (by omega)).mono ?_
        rintro e w3 ⟨rfl, hb3⟩
        rw [HRt.out]
        have HB3 := hid (HB.out.trans (hb3.mono hsz))
        have HS3 := hid (HS.out.below hb3)
        have hs3 := HB3.out.size
        clear hb3
        go_wp2_with fail
        refine (write_ok ao l cap _ HS3.out HRs.out (HW.out.below HB3.out hG) (by omega) HRt.out).mono ?_
        rintro e w4 ⟨rfl, hb4⟩
        have HB4 := hid (HB3.out.trans (hb4.mono hs3))
        have hts : (8 : Int) * ((strOf (BL.pk (CL.chB l))).size : Int) ≤ 280 + 2 * (k : Int) + 8 := by
          have a := HSm.out
          rw [str_size, BL.pk_length]; omega
        have htb : ((strOf (BL.pk (CL.chB l))).size : Int) ≤ 1000 := by omega
        clear hb4
        generalize strOf (BL.pk (CL.chB l)) = t at *
        go_wp2_with fail
        go_ret
        exact ⟨rfl, HB4.out⟩

end Go.Proofs.YtdmnlmohfaafoabDoor
