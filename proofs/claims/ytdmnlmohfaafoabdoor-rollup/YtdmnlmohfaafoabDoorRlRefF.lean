/- What the document's Floor and buckets answer. -/
import Derived.Test.YtdmnlmohfaafoabDoorRlFn
namespace Go.Proofs.YtdmnlmohfaafoabDoor
open Go.RowKit

theorem quo_flr (t span : Int) (hs : 1 ≤ span) (ht : -9007199254740992 ≤ t ∧ t ≤ 9007199254740992) (hs2 : span ≤ 1099511627776) :
    (-9007199254740992 ≤ t.tdiv span ∧ t.tdiv span ≤ 9007199254740992) ∧ (t < t.tdiv span * span → (t.tdiv span - 1) * span = CL.flr t span) ∧ (¬ t < t.tdiv span * span → t.tdiv span * span = CL.flr t span) ∧ (-9007199254740992 ≤ t.tdiv span * span ∧ t.tdiv span * span ≤ 9007199254740992) ∧ (-9008298766368768 ≤ CL.flr t span ∧ CL.flr t span ≤ 9007199254740992) := by
  obtain ⟨r1, r2, r3, r4⟩ := rem_flr t span hs
  have e : t.tdiv span * span + t.tmod span = t := Int.tdiv_mul_add_tmod t span
  have hq : (t.tdiv span).natAbs ≤ t.natAbs := by
    rw [Int.natAbs_tdiv]; exact Nat.div_le_self _ _
  have hsub : (t.tdiv span - 1) * span = t.tdiv span * span - span := by rw [Int.sub_mul, Int.one_mul]
  have hf := CL.flr_le t span hs
  have hm : -9007199254740992 ≤ t.tdiv span * span ∧ t.tdiv span * span ≤ 9007199254740992 := by
    have h1 : (t.tdiv span * span).natAbs ≤ t.natAbs := by
      rw [Int.natAbs_mul, Int.natAbs_tdiv]; exact Nat.div_mul_le_self _ _
    omega
  rw [hsub]
  generalize t.tdiv span * span = qs at *
  generalize t.tdiv span = q at *
  generalize t.tmod span = r at *
  generalize CL.flr t span = F at *
  refine ⟨by omega, fun h => ?_, fun h => ?_, hm, by omega⟩
  · have := r3 (by omega); omega
  · have := r4 (by omega); omega

set_option maxHeartbeats 400000 in
theorem rfloor_any (t span : Int) (w : World) (hs : 1 ≤ span ∧ span ≤ 1099511627776) (ht : -9007199254740992 ≤ t ∧ t ≤ 9007199254740992) :
    Calls Tryd.prog 20 #[.int .i64 t, .int .i64 span] w fun e w' => e = .returned (.int .i64 (CL.flr t span)) ∧ w' = w := by
  obtain ⟨q1, q2, q3, q4, q5⟩ := quo_flr t span hs.1 ht hs.2
  have h0 : span ≠ 0 := by omega
  have hn1 : span ≠ -1 := by omega
  have hw0 : wrap64 (t.tdiv span) = t.tdiv span := by unfold wrap64; omega
  have hw1 : wrap64 (t.tdiv span * span) = t.tdiv span * span := by unfold wrap64; omega
  have hw2 : wrap64 (t.tdiv span - 1) = t.tdiv span - 1 := by unfold wrap64; omega
  by_cases hlt : t < t.tdiv span * span
  · have HF := hid (q2 hlt)
    have HW3 : Hid (wrap64 ((t.tdiv span - 1) * span) = CL.flr t span) := by
      show _ = _
      rw [HF.out]; unfold wrap64; omega
    clear q2 q3
    generalize CL.flr t span = F at *
    go_enter Tryd.func20, Tryd.ntmps20
    go_wp2
    go_ret
    exact ⟨ret_int HW3.out, rfl⟩
  · have HF := hid (q3 hlt)
    clear q2 q3
    generalize CL.flr t span = F at *
    go_enter Tryd.func20, Tryd.ntmps20
    go_wp2
    go_ret
    exact ⟨ret_int HF.out, rfl⟩

/-- A sample's bucket as it stands. -/
def bk0 (s : CL.Smp) : CL.Bkt := ⟨s.1, 1, s.2, s.2, s.2⟩

theorem bk0_take (l : List CL.Smp) (k : Nat) (h : k < l.length) : (l.take (k + 1)).map bk0 = (l.take k).map bk0 ++ [⟨(CL.at' l k).1, 1, (CL.at' l k).2, (CL.at' l k).2, (CL.at' l k).2⟩] := by
  rw [← CL.take_nxt l k h, List.map_append, List.map_singleton]; rfl

set_option maxRecDepth 100000 in
set_option maxHeartbeats 1600000 in
theorem rbuckets_any (ao : Option Addr) (l : List CL.Smp) (cap : Nat) (w : World) (hS : SRow w ao l) (hl : l.length ≤ 1000) :
    Calls Tryd.prog 30 #[.slice ao l.length cap] w fun e w' => ∃ v, e = .returned v ∧ w'.ownsRow w.heap.size 72 5 v (l.map bk0).length (bv (l.map bk0)) ∧ Below w.heap.size w w' := by
  have HS := hid hS
  clear hS
  obtain ⟨ii, hi, hi'⟩ := Option.map_eq_some_iff.1 Tryd.info72
  simp only [Prod.mk.injEq] at hi'
  obtain ⟨hz0, hz1, hz2⟩ := hi'
  have HI0 := hid hi
  have HZ0 := hid hz0
  have HZ1 := hid hz1
  have HZ2 := hid hz2
  clear hi hz0 hz1 hz2
  go_enter Tryd.func30, Tryd.ntmps30
  go_wp2_with fail
  go_loopw [3, 8] (fun tv ti wr => ∃ k : Nat, k ≤ l.length ∧ ti = .int .i64 k ∧ wr.ownsRow w.heap.size 72 5 tv ((l.take k).map bk0).length (bv ((l.take k).map bk0)) ∧ Below w.heap.size w wr) (fun _ ti _ => l.length - (intOf ti).toNat)
  case atStart => exact ⟨0, by omega, rfl, World.ownsRow_nil _ _ _ _, Below.refl _ _⟩
  case round =>
    obtain ⟨k, hk, rfl, hown, hbel⟩ := hrel
    have HO := hid hown
    have HBl := hid hbel
    have hsz := hbel.size
    have hgl : ((l.take k).map bk0).length ≤ 1000 := by rw [List.length_map, List.length_take]; omega
    clear hown hbel
    by_cases hlt : k < l.length
    · obtain ⟨b, off, hao, hc0, hc1, hbs⟩ := HS.out k hlt
      subst hao
      have c0 := (HBl.out.cell (p := ⟨b, off + k * 2, none⟩) hbs).trans hc0
      have c1 := (HBl.out.cell (p := ⟨b, off + k * 2 + 1, none⟩) hbs).trans hc1
      have HT := hid (bk0_take l k hlt)
      clear hc0 hc1
      generalize (l.take k).map bk0 = G at *
      generalize (CL.at' l k).1 = T at *
      generalize (CL.at' l k).2 = V at *
      go_wp2_with (at_builtin; refine wpList_append_own _ rfl (.tmp 12) (.tmp 22) 37 rfl w.heap.size 72 ii (.agg #[.int .i64 0, .int .i64 0, .int .i64 0, .int .i64 0, .int .i64 0]) 5 40 Tryd.underlying37 HI0.out HZ0.out HZ1.out HZ2.out rfl (by decide) u3 G.length (bv G) rfl ((HO.out.alloc _).alloc _) ⟨wr.heap.size + 1, 0, none⟩ 1 1 (cb ⟨T, 1, V, V, V⟩) rfl rfl (by have h := five_news (wr.alloc (boxS T V)) ⟨T, 1, V, V, V⟩; simpa using h) (cb_i64 _) (by unfold maxLen; omega) (by omega) (by simp; omega) ?_; intro v7 w7 hown7 hgrow7 _; have HO7 := hid hown7; have HB7 := hid (((HBl.out.alloc hsz _).alloc (by simp; omega) _).grown hgrow7 (by simp; omega) (fun j hj => (HO.out.lt j hj).1)); clear hown7 hgrow7)
      refine ⟨⟨k + 1, by omega, by go_num, ?_, HB7.out⟩, ?_⟩
      · rw [HT.out, bv_append, bv_one, List.length_append]; exact HO7.out
      · simp [intOf]; omega
    · have he : k = l.length := by omega
      subst he
      have HO2 : Hid (wr.ownsRow w.heap.size 72 5 u3 (l.map bk0).length (bv (l.map bk0))) := by
        have := HO.out
        rw [List.take_of_length_le (Nat.le_refl _)] at this
        exact this
      clear HO hgl
      go_wp2_with fail
      go_ret
      exact ⟨_, rfl, HO2.out, HBl.out⟩

end Go.Proofs.YtdmnlmohfaafoabDoor
