/- What the law CodeBack answers (made by mkcb.py). -/
import Derived.Test.YtdmnlmohfaafoadDoorCbLaw
namespace Go.Proofs.YtdmnlmohfaafoadDoor
open Go.RowKit

theorem shS_sh {l : List Sr} (h : shS l = true) (hR : ∀ i, i < l.length → ∀ s ∈ (atSr l i).2, CL.Rs s) : SrSh l ∧ l.length ≤ 20 ∧ SrFew l := by
  have h1 := of_decide_eq_true h
  refine ⟨⟨by omega, fun i hi => ?_⟩, h1.1, ⟨by omega, fun i hi => ?_⟩⟩
  · obtain ⟨h2, h3⟩ := h1.2 i hi
    have h4 := of_decide_eq_true h2
    refine ⟨fun j hj => ?_, h4.1, by omega, hR i hi⟩
    have := h4.2 j hj
    omega
  · obtain ⟨h2, h3⟩ := h1.2 i hi
    have h4 := of_decide_eq_true h2
    omega

set_option maxRecDepth 100000 in
set_option maxHeartbeats 1600000 in
theorem cback_any (ao : Option Addr) (l : List Sr) (cap : Nat) (s : ByteArray) (k : Int) (w : World) (hR : SrRow w ao l) (hRs : ∀ i, i < l.length → ∀ s ∈ (atSr l i).2, CL.Rs s) (hq : shS l = true) (hs : s.size ≤ 1500) (hW : Wids w) :
    Calls Tryd.prog 6 #[.slice ao l.length cap, .string s, .int .i64 k] w fun e w' => e = .returned (.bool true) ∧ Below w.heap.size w w' := by
  have hG : 1 < w.heap.size := World.block_lt_of_cell? _ _ (hW 0 (by omega))
  obtain ⟨hsh, hl20, hfew⟩ := shS_sh hq hRs
  have HC0 := shS_any ao l cap w hR
  rw [hq] at HC0
  have HC0 := hid HC0
  have HC1 := hid (coded_any w hW)
  have HR := hid hR
  have HSh := hid hsh
  have HFw := hid hfew
  have HW := hid hW
  have hs1 : ¬ (1500 : Int) < (s.size : Int) := by omega
  clear hR hRs hq hsh hfew hW
  go_enter Tryd.func6, Tryd.ntmps6
  go_wp2_with fail
  refine HC0.out.mono ?_
  rintro e w1 ⟨rfl, rfl⟩
  go_wp2_with fail
  refine HC1.out.mono ?_
  rintro e w2 ⟨rfl, hb1⟩
  have HB1 := hid hb1
  have HC2 := hid (preads_any s w2 (by omega) (HW.out.below hb1 hG) (Nat.lt_of_lt_of_le hG hb1.size))
  clear hb1 HC0 HC1
  go_wp2_with fail
  refine HC2.out.mono ?_
  rintro e w3 ⟨hb3, hend⟩
  have HB2 := hid (HB1.out.trans (hb3.mono HB1.out.size))
  clear hb3 HC2
  rcases hend with ⟨m, v, h1, rfl, hO⟩ | ⟨_, rfl⟩
  · have hsl : s.data.toList.length = s.size := by rw [Array.length_toList]; rfl
    obtain ⟨m1, m2, m3⟩ := read_sh h1 (by omega)
    obtain ⟨aoM, cM, hv, hrow⟩ := SrRow.of_own hO
    clear h1 hO
    generalize m.map toSr = M at *
    have HCm := hid (cser_any aoM M cM w3 hrow m1 (HW.out.below HB2.out hG) (Nat.lt_of_lt_of_le hG HB2.out.size))
    have HM2 := hid m2
    have HM3 := hid m3
    clear hsl m1 m2 m3 hrow
    subst hv
    go_wp2_with fail
    refine HCm.out.mono ?_
    intro e wm hend
    obtain ⟨rfl, hbm⟩ := hend.good HM2.out
    rw [HM3.out, sb_of]
    have HB3 := hid (HB2.out.trans (hbm.mono HB2.out.size))
    clear hend hbm HCm
    have HC4 := cser_any ao l cap wm (HR.out.below HB3.out) HSh.out (HW.out.below HB3.out hG) (Nat.lt_of_lt_of_le hG HB3.out.size)
    have HC4 := hid HC4
    go_wp2_with fail
    refine HC4.out.mono ?_
    rintro e w4 ⟨hb4, hend⟩
    have HB4 := hid (HB3.out.trans (hb4.mono HB3.out.size))
    clear hb4 HC4
    rcases hend with ⟨hok, rfl⟩ | ⟨i, b, _, _, _, rfl, _⟩
    · have hln := wAll_len HSh.out hl20
      have HWB := hid (write_back HSh.out hok)
      have HPt := hid (fun k hk => write_part HSh.out hl20 hok (k := k) hk)
      generalize CD.wAll chE (l.map srOf) = T at *
      have HC5 := preads_any (sb T) w4 (by rw [sb_size]; omega) (HW.out.below HB4.out hG) (Nat.lt_of_lt_of_le hG HB4.out.size)
      rw [sb_data] at HC5
      have HC5 := hid HC5
      clear hok
      go_wp2_with fail
      refine HC5.out.mono ?_
      intro e w5 hend
      obtain ⟨ao5, n5, c5, rfl, hn5, hrow5, hb5⟩ := hend.good HWB.out
      rw [toSr_srOf] at hrow5
      have HB5 := hid (HB4.out.trans (hb5.mono HB4.out.size))
      rw [List.length_map] at hn5
      have HC6 := hid (sameSrK_any ao5 ao l c5 cap w5 hrow5 (HR.out.below HB5.out) HFw.out)
      clear hend hrow5 hb5 HC5
      subst hn5
      go_wp2_with fail
      refine HC6.out.mono ?_
      rintro e w6 ⟨rfl, hb6⟩
      have HB6 := hid (HB5.out.trans (hb6.mono HB5.out.size))
      have hsz : (sb T).size = T.length := sb_size T
      have HC7 := cpick_any k T.length w6 (by omega) (by omega)
      rw [← hsz] at HC7
      have HC7 := hid HC7
      have HSz := hid hsz
      clear hb6 HC6 hsz
      go_wp2_with fail
      refine HC7.out.mono ?_
      rintro e w7 ⟨⟨k7, hk7, rfl⟩, rfl⟩
      have hx1 := sb_take T k7
      have hkz : k7 ≤ (sb T).size := by omega
      have HC8 := preads_any (sb (T.take k7)) w7 (by rw [sb_size, List.length_take]; omega) (HW.out.below HB6.out hG) (Nat.lt_of_lt_of_le hG HB6.out.size)
      rw [sb_data] at HC8
      have HC8 := hid HC8
      have HNo := hid (HPt.out k7 (by have := HSz.out; omega))
      clear HC7 HPt hk7
      go_wp2_with fail
      refine HC8.out.mono ?_
      rintro e w8 ⟨hb8, hend⟩
      have HB8 := hid (HB6.out.trans (hb8.mono HB6.out.size))
      clear hb8 HC8
      rcases hend with ⟨m, v, h1, _⟩ | ⟨_, rfl⟩
      · exact absurd h1 (HNo.out m)
      · go_wp2_with fail
        go_ret
        exact ⟨rfl, HB8.out⟩
    · go_wp2_with fail
      go_ret
      exact ⟨rfl, HB4.out⟩
  · have HB3 := HB2
    have HC4 := cser_any ao l cap w3 (HR.out.below HB3.out) HSh.out (HW.out.below HB3.out hG) (Nat.lt_of_lt_of_le hG HB3.out.size)
    have HC4 := hid HC4
    go_wp2_with fail
    refine HC4.out.mono ?_
    rintro e w4 ⟨hb4, hend⟩
    have HB4 := hid (HB3.out.trans (hb4.mono HB3.out.size))
    clear hb4 HC4
    rcases hend with ⟨hok, rfl⟩ | ⟨i, b, _, _, _, rfl, _⟩
    · have hln := wAll_len HSh.out hl20
      have HWB := hid (write_back HSh.out hok)
      have HPt := hid (fun k hk => write_part HSh.out hl20 hok (k := k) hk)
      generalize CD.wAll chE (l.map srOf) = T at *
      have HC5 := preads_any (sb T) w4 (by rw [sb_size]; omega) (HW.out.below HB4.out hG) (Nat.lt_of_lt_of_le hG HB4.out.size)
      rw [sb_data] at HC5
      have HC5 := hid HC5
      clear hok
      go_wp2_with fail
      refine HC5.out.mono ?_
      intro e w5 hend
      obtain ⟨ao5, n5, c5, rfl, hn5, hrow5, hb5⟩ := hend.good HWB.out
      rw [toSr_srOf] at hrow5
      have HB5 := hid (HB4.out.trans (hb5.mono HB4.out.size))
      rw [List.length_map] at hn5
      have HC6 := hid (sameSrK_any ao5 ao l c5 cap w5 hrow5 (HR.out.below HB5.out) HFw.out)
      clear hend hrow5 hb5 HC5
      subst hn5
      go_wp2_with fail
      refine HC6.out.mono ?_
      rintro e w6 ⟨rfl, hb6⟩
      have HB6 := hid (HB5.out.trans (hb6.mono HB5.out.size))
      have hsz : (sb T).size = T.length := sb_size T
      have HC7 := cpick_any k T.length w6 (by omega) (by omega)
      rw [← hsz] at HC7
      have HC7 := hid HC7
      have HSz := hid hsz
      clear hb6 HC6 hsz
      go_wp2_with fail
      refine HC7.out.mono ?_
      rintro e w7 ⟨⟨k7, hk7, rfl⟩, rfl⟩
      have hx1 := sb_take T k7
      have hkz : k7 ≤ (sb T).size := by omega
      have HC8 := preads_any (sb (T.take k7)) w7 (by rw [sb_size, List.length_take]; omega) (HW.out.below HB6.out hG) (Nat.lt_of_lt_of_le hG HB6.out.size)
      rw [sb_data] at HC8
      have HC8 := hid HC8
      have HNo := hid (HPt.out k7 (by have := HSz.out; omega))
      clear HC7 HPt hk7
      go_wp2_with fail
      refine HC8.out.mono ?_
      rintro e w8 ⟨hb8, hend⟩
      have HB8 := hid (HB6.out.trans (hb8.mono HB6.out.size))
      clear hb8 HC8
      rcases hend with ⟨m, v, h1, _⟩ | ⟨_, rfl⟩
      · exact absurd h1 (HNo.out m)
      · go_wp2_with fail
        go_ret
        exact ⟨rfl, HB8.out⟩
    · go_wp2_with fail
      go_ret
      exact ⟨rfl, HB4.out⟩

end Go.Proofs.YtdmnlmohfaafoadDoor
