/- BlockTells, by what block's functions tell. -/
import Derived.Test.YtdmnlmohfaafoaeGreatDoorPTBkRefW
import Derived.Test.YtdmnlmohfaafoaeGreatDoorPTBkRefD
import Derived.Test.YtdmnlmohfaafoaeGreatDoorPTBtIs
import Derived.Test.YtdmnlmohfaafoaeGreatDoorPTCsSame
import Derived.Test.YtdmnlmohfaafoaeGreatDoorPTCsShortL
namespace Go.Proofs.YtdmnlmohfaafoaeGreatDoor
open Go.RowKit

theorem bk_sh {l : List Sr} (h : shS l = true) (hR : ∀ i, i < l.length → ∀ s ∈ (atSr l i).2, CL.Rs s) : SrSh l ∧ l.length ≤ 20 := by
  have h1 := of_decide_eq_true h
  refine ⟨⟨by omega, fun i hi => ?_⟩, h1.1⟩
  obtain ⟨h2, h3⟩ := h1.2 i hi
  have h4 := of_decide_eq_true h2
  refine ⟨fun j hj => ?_, h4.1, by omega, hR i hi⟩
  have := h4.2 j hj
  omega

/-- An error of package api, or none. -/
def ErV (c : Int) (v : Value) : Prop := (c = 0 ∧ v = .nilIface) ∨ (c ≠ 0 ∧ v = .iface 26 (.int .i64 c))

theorem bare_er (c : Int) (v : Value) (w : World) (h : ErV c v) (hE : ErrT w) :
    Calls Tryz.prog 8 #[v, .int .i64 c] w fun e w' => e = .returned (.bool true) ∧ Below w.heap.size w w' := by
  rcases h with ⟨rfl, rfl⟩ | ⟨_, rfl⟩
  · exact (bare_nil 0 w).mono fun e w' h => ⟨by rw [h.1]; rfl, h.2⟩
  · exact (bare_errno c c w hE).mono fun e w' h => ⟨by rw [h.1]; simp, h.2⟩

theorem bk_neqS (a : ByteArray) (w : World) : (binOp .neq 9 (.string a) (.string a)).run Tryz.prog w = .ok (.bool false) w := by
  go_simp
theorem bk_neqB (a : Bool) (w : World) : (binOp .neq 4 (.bool a) (.bool a)).run Tryz.prog w = .ok (.bool false) w := by
  cases a <;> kernel_rfl

theorem bk_ldB (b : Nat) (tp old : Int) (ao : Option Addr) (n c : Nat) (w : World) (h : w.heap[b]? = some (.cells #[.int .i64 tp, .int .i64 old, .slice ao n c] 25)) : (Instr.loadAt 25 (.pointer (some ⟨b, 0, none⟩))).run Tryz.prog w = .ok (.agg #[.int .i64 tp, .int .i64 old, .slice ao n c]) w := by
  have hs : (Tryz.prog.info? 25).map (·.size) = some 3 := by kernel_rfl
  have c0 : w.cell? ⟨b, 0, none⟩ = some (.int .i64 tp) := zcell1 _ _ _ _ h 0 _ rfl
  have c1 : w.cell? ⟨b, 1, none⟩ = some (.int .i64 old) := zcell1 _ _ _ _ h 1 _ rfl
  have c2 : w.cell? ⟨b, 2, none⟩ = some (.slice ao n c) := zcell1 _ _ _ _ h 2 _ rfl
  clear h
  go_simp

theorem drew_below {B : Nat} (w : World) (n : Nat) (_h : B ≤ w.heap.size) : Below B w (w.drewN n) := ⟨rfl, rfl, rfl, Nat.le_refl _, fun _ _ => rfl⟩

set_option maxRecDepth 100000 in
set_option maxHeartbeats 3200000 in
theorem btells_any (ao : Option Addr) (S : List Sr) (cap : Nat) (tp old : Int) (s : List UInt8) (w : World) (hS : SrRow w ao S) (hR : ∀ i, i < S.length → ∀ x ∈ (atSr S i).2, CL.Rs x) (hE : ErrT w) (hF : FineT w) (h1 : -9223372036854775808 ≤ tp ∧ tp ≤ 9223372036854775807) (h2 : -9223372036854775808 ≤ old ∧ old ≤ 9223372036854775807)
    (hW : shS S = true → ∀ W, Below w.heap.size w W → Calls Tryz.prog 7 #[.agg #[.int .i64 tp, .int .i64 old, .slice ao S.length cap]] W fun e w' => PWBEnd W tp old S e w')
    (hRt : shS S = true → ∀ W, Below w.heap.size w W → Calls Tryz.prog 9 #[.agg #[.int .i64 tp, .int .i64 old, .slice ao S.length cap]] W fun e w' => e = .returned (.bool (BK.right tp old S)) ∧ Below W.heap.size W w')
    (hRd : s.length ≤ 1500 → ∀ W, Below w.heap.size w W → Calls Tryz.prog 12 #[.string (sb s)] W fun e w' => PRBEnd W s e w') :
    Calls Tryz.prog 3 #[.slice ao S.length cap, .int .i64 tp, .int .i64 old, .string (sb s)] w fun e w' => e = .returned (.bool true) ∧ Below w.heap.size w w' := by
  have HS := hid hS
  have HR := hid hR
  have HE := hid hE
  have HF := hid hF
  have H12 := hid (And.intro h1 h2)
  have HWr := hid hW
  have HRt := hid hRt
  have HRd := hid hRd
  have hsz : (sb s).size = s.length := sb_size s
  clear hS hR hE hF h1 h2 hW hRt hRd
  go_enter Tryz.func3, Tryz.ntmps3
  go_wp2_with fail
  refine (shS_any ao S cap w HS.out).mono ?_
  rintro e w1 ⟨rfl, rfl⟩
  rcases hsh : shS S with _ | _
  · go_wp2_with fail
    go_ret
    exact ⟨rfl, Below.refl _ _⟩
  · by_cases hlong : 1500 < s.length
    · have hl' : (1500 : Int) < (s.length : Int) := by omega
      go_wp2_with fail
      go_ret
      exact ⟨rfl, Below.refl _ _⟩
    · have hl' : ¬ (1500 : Int) < (s.length : Int) := by omega
      obtain ⟨hssh, hs20⟩ := bk_sh hsh HR.out
      have HSh := hid hssh
      have HW2 := hid (HWr.out hsh)
      have HR2 := hid (HRt.out hsh)
      have HD2 := hid (HRd.out (by omega))
      clear hsh hssh HWr HRt HRd
      have hb0 : Below w1.heap.size w1 (w1.alloc (.cells #[.int .i64 tp, .int .i64 old, .slice ao S.length cap] 25)) := (Below.refl _ w1).alloc (Nat.le_refl _) _
      have HB0 := hid hb0
      have HX0 := hid (heap_alloc_new w1 (.cells #[.int .i64 tp, .int .i64 old, .slice ao S.length cap] 25))
      clear hb0
      go_wp2_with fail
      generalize w1.alloc (.cells #[.int .i64 tp, .int .i64 old, .slice ao S.length cap] 25) = w2 at HB0 HX0 ⊢
      have HF2 := hid (show FineT w2 from ⟨(HB0.out.cell (p := ⟨0, 0, none⟩) (World.block_lt_of_cell? _ _ HF.out.1)).trans HF.out.1, (HB0.out.cell (p := ⟨0, 1, none⟩) (World.block_lt_of_cell? _ _ HF.out.2)).trans HF.out.2⟩)
      refine (rwblock_any ao S cap tp old w2 (HS.out.below HB0.out) HSh.out (by omega) HF2.out H12.out.1 H12.out.2).mono ?_
      rintro e w3 ⟨hb3, hend⟩
      obtain ⟨ws, c1, rfl, hws⟩ : ∃ ws c1, e = .returned (.tuple #[.string ws, .int .i64 c1]) ∧ ((BK.right tp old S = true ∧ ws = sb (BK.bytes tp old S) ∧ c1 = 0) ∨ (BK.right tp old S = false ∧ ws = ⟨#[]⟩ ∧ c1 = 1)) := by
        rcases hend with ⟨h, rfl⟩ | ⟨h, rfl⟩
        · exact ⟨_, _, rfl, .inl ⟨h, rfl, rfl⟩⟩
        · exact ⟨_, _, rfl, .inr ⟨h, rfl, rfl⟩⟩
      have HB3 := hid (HB0.out.trans (hb3.mono HB0.out.size))
      have HX3 := hid ((hb3.block _ (heap_lt HX0.out)).trans HX0.out)
      have HWs := hid hws
      clear hb3 hend hws HX0 HB0
      go_wp2_with fail
      refine (HW2.out w3 HB3.out).mono ?_
      rintro e w4 ⟨hb4, hend⟩
      obtain ⟨ev, rfl, hev⟩ : ∃ ev, e = .returned (.tuple #[.string ws, ev]) ∧ ErV c1 ev := by
        rcases hend with ⟨h, rfl⟩ | ⟨h, rfl⟩
        · rcases HWs.out with ⟨_, rfl, rfl⟩ | ⟨h2, _⟩
          · exact ⟨_, rfl, .inl ⟨rfl, rfl⟩⟩
          · rw [h] at h2; cases h2
        · rcases HWs.out with ⟨h2, _⟩ | ⟨_, rfl, rfl⟩
          · rw [h] at h2; cases h2
          · exact ⟨_, rfl, .inr ⟨by decide, rfl⟩⟩
      have HB4 := hid (HB3.out.trans (hb4.mono HB3.out.size))
      have HX4 := hid ((hb4.block _ (heap_lt HX3.out)).trans HX3.out)
      have HBr : Hid (∀ W, Below w4.heap.size w4 W → Calls Tryz.prog 8 #[ev, .int .i64 c1] W fun e w' => e = .returned (.bool true) ∧ Below w4.heap.size w4 w') := fun W hW => (bare_er c1 ev W hev (HE.out.below (HB4.out.trans (hW.mono HB4.out.size)) HE.out.lt)).mono fun e w' h => ⟨h.1, hW.trans (h.2.mono hW.size)⟩
      have HP : Hid (∀ W, Below w4.heap.size w4 W → Calls Tryz.prog 9 #[.agg #[.int .i64 tp, .int .i64 old, .slice ao S.length cap]] W fun e w' => e = .returned (.bool (BK.right tp old S)) ∧ Below w4.heap.size w4 w') := fun W hW => (HR2.out W (HB4.out.trans (hW.mono HB4.out.size))).mono fun e w' h => ⟨h.1, hW.trans (h.2.mono hW.size)⟩
      have HQ : Hid (∀ W, Below w4.heap.size w4 W → Calls Tryz.prog 10 #[.agg #[.int .i64 tp, .int .i64 old, .slice ao S.length cap]] W fun e w' => e = .returned (.bool (BK.right tp old S)) ∧ Below w4.heap.size w4 w') := fun W hW => (rbright_any ao S cap tp old W (HS.out.below (HB4.out.trans (hW.mono HB4.out.size))) (by omega) (fun i hi => by have := HSh.out.2 i hi; omega) (fun i hi => (HSh.out.2 i hi).1)).mono fun e w' h => ⟨h.1, hW.trans (h.2.mono hW.size)⟩
      have hevs : ev = .nilIface ∨ ev = .iface 26 (.int .i64 c1) := by
        rcases hev with ⟨_, h⟩ | ⟨_, h⟩
        · exact .inl h
        · exact .inr h
      generalize hrt : BK.right tp old S = rt at *
      have HX5 : Hid (∀ W, Below w4.heap.size w4 W → W.heap[w1.heap.size]? = some (.cells #[.int .i64 tp, .int .i64 old, .slice ao S.length cap] 25)) := fun W hW => (hW.block _ (heap_lt HX4.out)).trans HX4.out
      clear hb4 hend HWs HX3 HB3 hev hrt HW2 HR2
      go_upto_region 6 with fail
      refine wp_region_class (fun W => Below w4.heap.size w4 W) (by kernel_rfl) (by kernel_rfl) (Below.refl _ w4).drew ?_
      refine q_run (ev) (by kernel_rfl) (fun W hW => by kernel_rfl) ?_
      go_frame
      refine q_run (.int .i64 c1) (by kernel_rfl) (fun W hW => by kernel_rfl) ?_
      go_frame
      refine q_call (.bool true) (by kernel_rfl) (fun W => by kernel_rfl) HBr.out ?_
      go_frame
      refine q_run (.bool false) (by kernel_rfl) (fun W hW => by kernel_rfl) ?_
      go_frame
      refine q_run (.bool false) (by kernel_rfl) (fun W hW => by kernel_rfl) ?_
      go_frame
      refine q_run (.string ws) (by kernel_rfl) (fun W hW => by kernel_rfl) ?_
      go_frame
      refine q_run (.string ws) (by kernel_rfl) (fun W hW => by kernel_rfl) ?_
      go_frame
      refine q_run (.bool false) (by kernel_rfl) (fun W hW => by go_simp) ?_
      go_frame
      refine q_run (.bool false) (by kernel_rfl) (fun W hW => by kernel_rfl) ?_
      go_frame
      refine q_run (.bool false) (by kernel_rfl) (fun W hW => by kernel_rfl) ?_
      go_frame
      refine q_run (.int .i64 tp) (by kernel_rfl) (fun W hW => by kernel_rfl) ?_
      go_frame
      refine q_run (.int .i64 old) (by kernel_rfl) (fun W hW => by kernel_rfl) ?_
      go_frame
      refine q_run (.slice ao S.length cap) (by kernel_rfl) (fun W hW => by kernel_rfl) ?_
      go_frame
      refine q_run (.agg #[.int .i64 tp, .int .i64 old, .slice ao S.length cap]) (by kernel_rfl) (fun W hW => by kernel_rfl) ?_
      go_frame
      refine q_call (.bool rt) (by kernel_rfl) (fun W => by kernel_rfl) HP.out ?_
      go_frame
      refine q_load (.agg #[.int .i64 tp, .int .i64 old, .slice ao S.length cap]) (by kernel_rfl) rfl (by kernel_rfl) (fun W hW => bk_ldB _ _ _ _ _ _ W (HX5.out W hW)) ?_
      go_frame
      refine q_call (.bool rt) (by kernel_rfl) (fun W => by kernel_rfl) HQ.out ?_
      go_frame
      refine q_run (.bool false) (by kernel_rfl) (fun W hW => by cases rt <;> kernel_rfl) ?_
      go_frame
      refine q_run (.bool false) (by kernel_rfl) (fun W hW => by kernel_rfl) ?_
      go_frame
      refine wpQuiet_nil ?_
      intro w5 hb5
      have HB5 := hid (HB4.out.trans (hb5.mono HB4.out.size))
      clear hb5 HBr HP HQ HX5 HX4 HB4
      go_wp2_with fail
      refine (rrblock_any s w5 (by omega)).mono ?_
      rintro e w6 ⟨hb6, hend6⟩
      obtain ⟨t2, o2, l2, ao2, cap2, c2, rfl, hs2, hk2⟩ : ∃ t2 o2 l2 ao2 cap2 c2, e = .returned (.tuple #[.agg #[.int .i64 t2, .int .i64 o2, .slice ao2 l2.length cap2], .int .i64 c2]) ∧ SrRow w6 ao2 l2 ∧ ((∃ l, rBlk s = some (t2, o2, l) ∧ l2 = l.map toSr ∧ c2 = 0) ∨ (rBlk s = none ∧ t2 = 0 ∧ o2 = 0 ∧ l2 = [] ∧ c2 = 3)) := by
        rcases hend6 with ⟨t2, o2, l, v, h1, rfl, h3⟩ | ⟨h1, rfl⟩
        · obtain ⟨a2, k2, ev2, hr2⟩ := SrRow.of_own h3
          subst ev2
          exact ⟨t2, o2, l.map toSr, a2, k2, 0, rfl, hr2, .inl ⟨l, h1, rfl, rfl⟩⟩
        · exact ⟨0, 0, [], none, 0, 3, rfl, fun i hi => by simp at hi, .inr ⟨h1, rfl, rfl, rfl, rfl⟩⟩
      have HFew : Hid (SrFew l2) := by
        rcases hk2 with ⟨l, h1, rfl, _⟩ | ⟨_, _, _, rfl, _⟩
        · exact rBlk_few h1 (by omega)
        · exact srFew_nil
      have hal6 : Below w6.heap.size w6 (w6.alloc (.cells #[.int .i64 t2, .int .i64 o2, .slice ao2 l2.length cap2] 25)) := (Below.refl _ w6).alloc (Nat.le_refl _) _
      have HB7 := hid ((HB5.out.trans (hb6.mono HB5.out.size)).trans (hal6.mono (Nat.le_trans HB5.out.size hb6.size)))
      have HX7 := hid (heap_alloc_new w6 (.cells #[.int .i64 t2, .int .i64 o2, .slice ao2 l2.length cap2] 25))
      have HS7 := hid (hs2.below hal6)
      have HK2 := hid hk2
      clear hb6 hend6 hs2 hk2 hal6 HB5
      go_wp2_with fail
      generalize w6.alloc (.cells #[.int .i64 t2, .int .i64 o2, .slice ao2 l2.length cap2] 25) = w7 at HB7 HX7 HS7 ⊢
      generalize w6.heap.size = b14 at HX7 ⊢
      refine (HD2.out w7 HB7.out).mono ?_
      rintro e w8 ⟨hb8, hend8⟩
      obtain ⟨ao3, cap3, ev3, rfl, hs3, hev3⟩ : ∃ ao3 cap3 ev3, e = .returned (.tuple #[.agg #[.int .i64 t2, .int .i64 o2, .slice ao3 l2.length cap3], ev3]) ∧ SrRow w8 ao3 l2 ∧ ErV c2 ev3 := by
        rcases hend8 with ⟨t3, o3, l, a3, k3, h1, rfl, h3⟩ | ⟨h1, rfl⟩
        · rcases HK2.out with ⟨l', h2, rfl, rfl⟩ | ⟨h2, _⟩
          · rw [h1] at h2
            cases h2
            exact ⟨a3, k3, _, rfl, h3, .inl ⟨rfl, rfl⟩⟩
          · rw [h1] at h2; cases h2
        · rcases HK2.out with ⟨l', h2, _⟩ | ⟨_, rfl, rfl, rfl, rfl⟩
          · rw [h1] at h2; cases h2
          · exact ⟨none, 0, _, rfl, fun i hi => by simp at hi, .inr ⟨by decide, rfl⟩⟩
      have hal8 : Below w8.heap.size w8 (w8.alloc (.cells #[.int .i64 t2, .int .i64 o2, .slice ao3 l2.length cap3] 34)) := (Below.refl _ w8).alloc (Nat.le_refl _) _
      have HB9 := hid ((HB7.out.trans (hb8.mono HB7.out.size)).trans (hal8.mono (Nat.le_trans HB7.out.size hb8.size)))
      have HX9 := hid ((hal8.block _ (Nat.lt_of_lt_of_le (heap_lt HX7.out) hb8.size)).trans ((hb8.block _ (heap_lt HX7.out)).trans HX7.out))
      have HY9 := hid (heap_alloc_new w8 (.cells #[.int .i64 t2, .int .i64 o2, .slice ao3 l2.length cap3] 34))
      have HS9 := hid ((HS7.out.below hb8).below hal8)
      have HT9 := hid (hs3.below hal8)
      have HEv := hid hev3
      have hevs3 : ev3 = .nilIface ∨ ev3 = .iface 26 (.int .i64 c2) := by
        rcases hev3 with ⟨_, h⟩ | ⟨_, h⟩
        · exact .inl h
        · exact .inr h
      clear hb8 hend8 hs3 hev3 hal8 HK2 HD2 HX7 HS7 HB7
      go_wp2_with fail
      generalize w8.alloc (.cells #[.int .i64 t2, .int .i64 o2, .slice ao3 l2.length cap3] 34) = w9 at HB9 HX9 HY9 HS9 HT9 ⊢
      generalize w8.heap.size = b15 at HY9 ⊢
      refine (bare_er c2 ev3 w9 HEv.out (HE.out.below HB9.out HE.out.lt)).mono ?_
      rintro e wA ⟨rfl, hbA⟩
      have hXA := (hbA.block _ (heap_lt HX9.out)).trans HX9.out
      have hYA := (hbA.block _ (heap_lt HY9.out)).trans HY9.out
      have x0 : wA.cell? ⟨b14, 0, none⟩ = some (.int .i64 t2) := zcell1 _ _ _ _ hXA 0 _ rfl
      have x1 : wA.cell? ⟨b14, 1, none⟩ = some (.int .i64 o2) := zcell1 _ _ _ _ hXA 1 _ rfl
      have x2 : wA.cell? ⟨b14, 2, none⟩ = some (.slice ao2 l2.length cap2) := zcell1 _ _ _ _ hXA 2 _ rfl
      have y0 : wA.cell? ⟨b15, 0, none⟩ = some (.int .i64 t2) := zcell1 _ _ _ _ hYA 0 _ rfl
      have y1 : wA.cell? ⟨b15, 1, none⟩ = some (.int .i64 o2) := zcell1 _ _ _ _ hYA 1 _ rfl
      have y2 : wA.cell? ⟨b15, 2, none⟩ = some (.slice ao3 l2.length cap3) := zcell1 _ _ _ _ hYA 2 _ rfl
      have HBA := hid (HB9.out.trans (hbA.mono HB9.out.size))
      have HSm := hid (sameSr_any ao3 ao2 l2 cap3 cap2 wA (HT9.out.below hbA) (HS9.out.below hbA) HFew.out)
      clear hbA hXA hYA HX9 HY9 HS9 HT9 HB9
      go_wp2_with fail
      refine HSm.out.mono ?_
      rintro e wB ⟨rfl, nB, rfl⟩
      have HBB := hid (HBA.out.trans (drew_below wA nB HBA.out.size))
      clear HSm HBA
      go_wp2_with fail
      go_ret
      exact ⟨rfl, HBB.out⟩

end Go.Proofs.YtdmnlmohfaafoaeGreatDoor

