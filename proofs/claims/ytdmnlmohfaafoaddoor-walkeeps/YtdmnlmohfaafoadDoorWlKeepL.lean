/- WalKeeps, walked. -/
import Derived.Test.YtdmnlmohfaafoadDoorWlNoted
import Derived.Test.YtdmnlmohfaafoadDoorWlApp
import Derived.Test.YtdmnlmohfaafoadDoorDkPick
import Derived.Test.YtdmnlmohfaafoadDoorDkBare
import Derived.Deep.CutBlock
import Derived.Deep.DeepCutAuto
namespace Go.Proofs.YtdmnlmohfaafoadDoor
open Go.RowKit Go.Maps

/-- A note of the law's: what is done, with what. -/
structure Nk where
  a : Int
  s : ByteArray
  l : List ByteArray

def nkD : Nk := ⟨0, ByteArray.empty, []⟩
def atN (l : List Nk) (i : Nat) : Nk := l.getD i nkD

/-- Notes in memory. -/
def NkRow (w : World) (ao : Option Addr) (l : List Nk) : Prop :=
  ∀ i, i < l.length → ∃ b off, ao = some ⟨b, off, none⟩ ∧ w.cell? ⟨b, off + i * 3, none⟩ = some (.int .i64 (atN l i).a) ∧ w.cell? ⟨b, off + i * 3 + 1, none⟩ = some (.string (atN l i).s) ∧ b < w.heap.size ∧
    ∃ lo cap, w.cell? ⟨b, off + i * 3 + 2, none⟩ = some (.slice lo (atN l i).l.length cap) ∧ NRow w lo (atN l i).l

/-- Numbers in memory. -/
def CRow (w : World) (ao : Option Addr) (C : List Int) : Prop :=
  ∀ i, i < C.length → ∃ b off, ao = some ⟨b, off, none⟩ ∧ w.cell? ⟨b, off + i, none⟩ = some (.int .i64 (C.getD i 0)) ∧ b < w.heap.size

/-- What holds at the loop's head. -/
def KI (w : World) (bd k : Nat) (bw : Nat) (v : Value) (wr : World) : Prop :=
  ∃ Z D now, WS w bd (4 + 12 * k) bw D (-1) false wr Z ∧ WL.Set kpt frs D now ∧ (∀ s ∈ now, s.size ≤ 300) ∧ now.length ≤ 10 + k ∧ TxR wr Z v now ∧ ∀ m c, v = .slice none m c → m = 0 ∧ c = 0

abbrev zTx : ByteArray := ⟨#[122]⟩

theorem wal_of {w : World} {Z : Nat → Prop} {bw bd cnt : Nat} {D : DK.M} {p : Int} {dn : Bool} (h : Wl w Z bw bd cnt D p dn) : w.heap[bw]? = some (.cells #[.pointer (some ⟨bd, 0, none⟩), .bool dn] 75) := by
  obtain ⟨_, _, h1, _⟩ := h
  exact h1

theorem app_own3 (W1 : World) (o : Obj) : OwnT ((W1.alloc o).alloc (.cells #[] 9)) W1.heap.size (.slice (some ⟨W1.heap.size + 1, 0, none⟩) 0 0) [] := by
  have := empty_own (W1.alloc o) W1.heap.size (by simp)
  simpa using this

theorem app_row2 {W1 w12 : World} {xs : ByteArray} (h : World.grownBy (((W1.alloc (.cells #[] 9)).alloc (.cells #[.string xs] 9)).drew) w12 (some W1.heap.size)) : NRow w12 (some ⟨W1.heap.size + 1, 0, none⟩) [xs] := by
  refine one_row ((h.block (W1.heap.size + 1) (by show _ < ((W1.alloc _).alloc _).heap.size; simp) (by simp)).trans ?_)
  have := heap_alloc_new (W1.alloc (.cells #[] 9)) (.cells #[.string xs] 9)
  have e : (W1.alloc (.cells #[] 9)).heap.size = W1.heap.size + 1 := by simp
  rw [e] at this
  exact this

theorem app_row3 {W1 w12 : World} {xs : ByteArray} (h : World.grownBy (((W1.alloc (.cells #[.string xs] 9)).alloc (.cells #[] 9)).drew) w12 (some (W1.heap.size + 1))) : NRow w12 (some ⟨W1.heap.size, 0, none⟩) [xs] := by
  refine one_row ((h.block W1.heap.size (by show _ < ((W1.alloc _).alloc _).heap.size; simp; omega) (by simp)).trans ?_)
  exact (Below.heap_alloc _ _ _ (by simp)).trans (heap_alloc_new W1 _)

theorem app_below {W1 Wx w' : World} {g m c : Nat} (hb : Below W1.heap.size W1 Wx) (hg : W1.heap.size ≤ g) (h : Wx.grownBy w' (Value.slice (some ⟨g, 0, none⟩) m c).ownBlock) : Below W1.heap.size W1 w' :=
  hb.grown h hb.size (fun j hj => by
    have : g = j := Option.some.inj hj
    omega)

theorem app_below2 {W1 Wx w' : World} {v : Value} {A : List ByteArray} (hb : Below W1.heap.size W1 Wx) (hO : OwnT Wx W1.heap.size v A) (h : Wx.grownBy w' v.ownBlock) : Below W1.heap.size W1 w' :=
  hb.grown h hb.size (fun j hj => (World.ownsRow.lt hO j hj).1)

set_option maxRecDepth 100000 in
set_option maxHeartbeats 1600000 in
theorem wkeeps_any (ao co : Option Addr) (l : List Nk) (C : List Int) (cl cc : Nat) (w : World) (hL : NkRow w ao l) (hC : CRow w co C) (hE : ErrT w) :
    Calls Tryd.prog 4 #[.slice ao l.length cl, .slice co C.length cc] w fun e w' => e = .returned (.bool true) ∧ Below w.heap.size w w' := by
  have HL := hid hL
  have HC := hid hC
  have HE := hid hE
  clear hL hC hE
  by_cases hl : 30 < l.length
  · have hl' : (30 : Int) < (l.length : Int) := by omega
    go_enter Tryd.func4, Tryd.ntmps4
    go_wp2_with fail
    go_ret
    exact ⟨rfl, Below.refl _ _⟩
  · have hl' : ¬ (30 : Int) < (l.length : Int) := by omega
    by_cases hcl : 30 < C.length
    · have hcl' : (30 : Int) < (C.length : Int) := by omega
      go_enter Tryd.func4, Tryd.ntmps4
      go_wp2_with fail
      go_ret
      exact ⟨rfl, Below.refl _ _⟩
    · have hcl' : ¬ (30 : Int) < (C.length : Int) := by omega
      go_enter Tryd.func4, Tryd.ntmps4
      go_wp2_with fail
      refine (noted_any w).mono ?_
      rintro en w1 ⟨rfl, hb1⟩
      have HB1 := hid hb1
      have HO := hid (open_any (Z := fun j => j = w1.heap.size) (N := 0) (Dk.zero w1) (fun j hj => hj) (fun j hj => by simp; omega) rdy_zero (fun s hs => by cases hs) (DK.Fine.none 0) (by omega) (by omega))
      clear hb1
      go_wp2_with fail
      refine HO.out.mono ?_
      rintro en w2 ⟨bw, v, D2, Z2, rfl, hS2, hW2, hO2, hn2, x2, z2⟩
      have hb0 : Below w.heap.size w (w1.alloc (.cells #[.map none, .bool false, .int .i64 0] 26)) := HB1.out.alloc HB1.out.size _
      have hs1 : (w1.alloc (.cells #[.map none, .bool false, .int .i64 0] 26)).heap.size = w1.heap.size + 1 := by simp
      have hKI : KI w w1.heap.size 0 bw (.slice none 0 0) w2 := by
        have := HB1.out.size
        refine ⟨fun j => Z2 j ∧ j < w2.heap.size, D2, [], ⟨hW2.narrow, fun j hj => ⟨?_, hj.2⟩, hb0.trans (x2.toBelow (fun j hj => by omega) (by omega))⟩, hS2, fun s hs => (by cases hs), by simp, ⟨none, 0, rfl, fun i hi => by simp at hi, fun h => by simp at h⟩, fun m c h => by cases h; exact ⟨rfl, rfl⟩⟩
        rcases z2 j hj.1 with h | h
        · omega
        · omega
      have HKI := hid hKI
      obtain ⟨av, cv, rfl, _, _⟩ := hO2.row
      clear hS2 hW2 hO2 hn2 x2 z2 hb0 hKI HO hs1
      go_wp2_with fail
      go_loopw [6, 8, 9, 10] (fun t6 t8 t9 ti wr => ∃ (i b : Nat), i ≤ l.length ∧ ti = .int .i64 i ∧ t6 = .pointer (some ⟨b, 0, none⟩) ∧ t8 = .nilIface ∧ KI w w1.heap.size i b t9 wr) (fun _ _ _ ti _ => l.length - (intOf ti).toNat)
      case atStart => exact ⟨0, bw, by omega, rfl, rfl, rfl, HKI.out⟩
      case round =>
        obtain ⟨i, b, hi, rfl, rfl, rfl, hki⟩ := hrel
        clear HKI
        by_cases hlt : i < l.length
        · obtain ⟨Z, D, now, hws, hset, h300, hnl, ⟨no, nc, rfl, hnr, hnz⟩, hnil⟩ := hki
          obtain ⟨b0, off, hao, hc0, hc1, hb0, lo, lc, hc2, hrl⟩ := HL.out i hlt
          subst hao
          have hB := hws.bel
          have hcell0 := (hB.cell (p := ⟨b0, off + i * 3, none⟩) hb0).trans hc0
          have hcell1 := (hB.cell (p := ⟨b0, off + i * 3 + 1, none⟩) hb0).trans hc1
          have hcell2 := (hB.cell (p := ⟨b0, off + i * 3 + 2, none⟩) hb0).trans hc2
          have HRL := hid hrl
          have HWS := hid hws
          have HSet := hid hset
          have H300 := hid h300
          have HNR := hid hnr
          have HNZ := hid hnz
          have HNil : Hid (no = none → now.length = 0 ∧ nc = 0) := fun h => hnil _ _ (by rw [h])
          have HB := hid hB
          have hsz := hB.size
          clear hrl hws hset h300 hnr hnz hnil hB hc0 hc1 hc2
          generalize atN l i = x at *
          obtain ⟨xa, xs, xl⟩ := x
          simp only at hcell0 hcell1 hcell2 HRL
          by_cases hxs : 300 < xs.size
          · have hxs' : (300 : Int) < (xs.size : Int) := by omega
            have HQ := hid (HB.out.alloc hsz (.cells #[.int .i64 xa, .string xs, .slice lo xl.length lc] 46))
            go_wp2_with fail
            go_ret
            exact ⟨rfl, HQ.out⟩
          · have hxs' : ¬ (300 : Int) < (xs.size : Int) := by omega
            by_cases hxl : 10 < xl.length
            · have hxl' : (10 : Int) < (xl.length : Int) := by omega
              have HQ := hid (HB.out.alloc hsz (.cells #[.int .i64 xa, .string xs, .slice lo xl.length lc] 46))
              go_wp2_with fail
              go_ret
              exact ⟨rfl, HQ.out⟩
            · have hxl' : ¬ (10 : Int) < (xl.length : Int) := by omega
              go_upto_region 16 with fail
              generalize hobj : (.cells #[.int .i64 xa, .string xs, .slice lo xl.length lc] 46 : Obj) = obj at *
              have hbx : (wr.alloc obj).heap[wr.heap.size]? = some (.cells #[.int .i64 xa, .string xs, .slice lo xl.length lc] 46) := by rw [hobj]; exact heap_alloc_new wr _
              have HBW : Hid (Below wr.heap.size wr (wr.alloc obj)) := (Below.refl _ wr).alloc (Nat.le_refl _) _
              have hbl : wr.heap.size < (wr.alloc obj).heap.size := heap_lt hbx
              clear hobj
              generalize wr.alloc obj = W1 at *
              generalize hbxe : wr.heap.size = bx at *
              have d0 := zcell _ bx _ _ hbx 0 _ rfl
              have d1 := zcell _ bx _ _ hbx 1 _ rfl
              have d2 := zcell _ bx _ _ hbx 2 _ rfl
              have HBX := hid hbx
              have hnr1 : NRow W1 no now := HNR.out.below (by rw [hbxe]; exact HBW.out)
              have HNR1 := hid hnr1
              clear hbx hnr1
              go_cut [12] (fun s12 wx => ∃ ao cap, s12 = .slice ao (now ++ [xs]).length cap ∧ OwnT wx W1.heap.size s12 (now ++ [xs]) ∧ Below W1.heap.size W1 wx)
              case first =>
                have HX1 := hid ((Below.heap_alloc W1 (.cells #[] 9) bx hbl).trans HBX.out)
                have HX2 := hid ((Below.heap_alloc (W1.alloc (.cells #[] 9)) (.cells #[.string xs] 9) bx (by simp; omega)).trans HX1.out)
                have HX3 := hid ((Below.heap_alloc (W1.alloc (.cells #[.string xs] 9)) (.cells #[] 9) bx (by simp; omega)).trans ((Below.heap_alloc W1 (.cells #[.string xs] 9) bx hbl).trans HBX.out))
                have HY1 : Hid (Below W1.heap.size W1 (W1.alloc (.cells #[] 9))) := (Below.refl _ W1).alloc (Nat.le_refl _) _
                have HY2 : Hid (Below W1.heap.size W1 ((W1.alloc (.cells #[] 9)).alloc (.cells #[.string xs] 9))) := HY1.out.alloc HY1.out.size _
                have HY3 : Hid (Below W1.heap.size W1 ((W1.alloc (.cells #[.string xs] 9)).alloc (.cells #[] 9))) := ((Below.refl _ W1).alloc (Nat.le_refl _) _).alloc (by simp) _
                go_region_law (first
                  | (refine step_append_txt rfl (.tmp 61) (.tmp 62) rfl W1.heap.size (.slice (some ⟨W1.heap.size, 0, none⟩) 0 0) [] (by simp [Act.eval]) ((empty_own W1 _ (Nat.le_refl _)).heap rfl) no now nc (by simp [Act.eval]) HNil.out ((HNR1.out.alloc (.cells #[] 9)).heap rfl) (by simp; omega) (by simp <;> omega) ?_; intro v12 w12 ho12 hg12; have e12 := zcell _ bx _ _ ((hg12.block bx (by first | exact heap_lt HX1.out | exact heap_lt HX2.out | exact heap_lt HX3.out) (by simp [Value.ownBlock]; omega)).trans (by first | exact HX1.out | exact HX2.out | exact HX3.out)) 1 _ rfl; have HB12 : Hid (Below W1.heap.size W1 w12) := (by first | exact app_below (below_drewN HY1.out 1) (by first | exact Nat.le_refl _ | omega) hg12 | exact app_below (below_drewN HY2.out 1) (by first | exact Nat.le_refl _ | omega) hg12 | exact app_below (below_drewN HY3.out 1) (by first | exact Nat.le_refl _ | omega) hg12); have HO12 := hid ho12; have HG12 := hid hg12; clear ho12 hg12)
                  | (refine step_append_txt rfl (.tmp 61) (.tmp 62) rfl W1.heap.size (.slice (some ⟨W1.heap.size, 0, none⟩) 0 0) [] (by simp [Act.eval]) (((empty_own W1 _ (Nat.le_refl _)).alloc (.cells #[.string xs] 9)).heap rfl) no now nc (by simp [Act.eval]) HNil.out (((HNR1.out.alloc (.cells #[] 9)).alloc (.cells #[.string xs] 9)).heap rfl) (by simp; omega) (by simp <;> omega) ?_; intro v12 w12 ho12 hg12; have e12 := zcell _ bx _ _ ((hg12.block bx (by first | exact heap_lt HX1.out | exact heap_lt HX2.out | exact heap_lt HX3.out) (by simp [Value.ownBlock]; omega)).trans (by first | exact HX1.out | exact HX2.out | exact HX3.out)) 1 _ rfl; have HB12 : Hid (Below W1.heap.size W1 w12) := (by first | exact app_below (below_drewN HY1.out 1) (by first | exact Nat.le_refl _ | omega) hg12 | exact app_below (below_drewN HY2.out 1) (by first | exact Nat.le_refl _ | omega) hg12 | exact app_below (below_drewN HY3.out 1) (by first | exact Nat.le_refl _ | omega) hg12); have HO12 := hid ho12; have HG12 := hid hg12; clear ho12 hg12)
                  | (refine step_append_txt rfl (.tmp 61) (.tmp 62) rfl W1.heap.size (.slice (some ⟨W1.heap.size + 1, 0, none⟩) 0 0) [] (by simp [Act.eval]) ((app_own3 W1 (.cells #[.string xs] 9)).heap rfl) no now nc (by simp [Act.eval]) HNil.out (((HNR1.out.alloc (.cells #[.string xs] 9)).alloc (.cells #[] 9)).heap rfl) (by simp; omega) (by simp <;> omega) ?_; intro v12 w12 ho12 hg12; have e12 := zcell _ bx _ _ ((hg12.block bx (by first | exact heap_lt HX1.out | exact heap_lt HX2.out | exact heap_lt HX3.out) (by simp [Value.ownBlock]; omega)).trans (by first | exact HX1.out | exact HX2.out | exact HX3.out)) 1 _ rfl; have HB12 : Hid (Below W1.heap.size W1 w12) := (by first | exact app_below (below_drewN HY1.out 1) (by first | exact Nat.le_refl _ | omega) hg12 | exact app_below (below_drewN HY2.out 1) (by first | exact Nat.le_refl _ | omega) hg12 | exact app_below (below_drewN HY3.out 1) (by first | exact Nat.le_refl _ | omega) hg12); have HO12 := hid ho12; have HG12 := hid hg12; clear ho12 hg12)
                  | (refine step_append_txt rfl (.tmp 63) (.tmp 66) rfl W1.heap.size v12 ([] ++ now) (by simp [Act.eval]) (by first | exact HO12.out | exact (OwnT.alloc HO12.out (.cells #[.string xs] 9)).heap rfl) (some ⟨_, 0, none⟩) [xs] 1 (by simp [Act.eval]; rfl) (fun h => by cases h) (by first | exact app_row2 HG12.out | exact app_row3 HG12.out | exact (one_row (heap_alloc_new w12 _)).heap rfl) (by simp; omega) (by have := HG12.out.size; simp at this ⊢; omega) ?_; intro v13 w13 ho13 hg13; have HB13 : Hid (Below W1.heap.size W1 w13) := (by first | exact app_below2 HB12.out HO12.out hg13 | exact app_below2 (HB12.out.alloc HB12.out.size (.cells #[.string xs] 9)) (OwnT.alloc HO12.out (.cells #[.string xs] 9)) hg13); have HO13 := hid ho13; clear ho13 hg13))
                all_goals
                  go_wp2_with fail
                  go_meet
                  case rel =>
                    have hO : OwnT w13 W1.heap.size v13 (now ++ [xs]) := HO13.out
                    obtain ⟨a13, c13, h13, _, _⟩ := hO.row
                    exact ⟨a13, c13, h13, hO, HB13.out⟩
              case rest =>
                obtain ⟨ta, tc, hta, htO, htB⟩ := hcut
                have hBc : Below bx wr wc := by
                  have h1 : Below bx W1 wc := htB.mono (Nat.le_of_lt hbl)
                  have h2 := HBW.out
                  exact h2.trans h1
                have hbxc := (htB.block bx hbl).trans HBX.out
                have d0 := zcell _ bx _ _ hbxc 0 _ rfl
                have d1 := zcell _ bx _ _ hbxc 1 _ rfl
                have d2 := zcell _ bx _ _ hbxc 2 _ rfl
                have hBw : Below w.heap.size w wc := HB.out.trans (hBc.mono hsz)
                obtain ⟨T, hTd⟩ : ∃ T : List ByteArray, T = if xa = 1 then xl else now ++ [xs] := ⟨_, rfl⟩
                have htx0 : TxR wc Z u12 (now ++ [xs]) := by
                  refine own_txr htO (fun g hg hz => ?_)
                  have h1 := (World.ownsRow.lt htO g hg).1
                  have h2 := (HWS.out.hi g hz).2
                  omega
                have htx1 : TxR wc Z (.slice lo xl.length lc) xl := by
                  refine ⟨lo, lc, rfl, HRL.out.below hBw, fun hp a ha => ?_⟩
                  obtain ⟨b1, off1, h0, _, h1⟩ := HRL.out 0 hp
                  rw [ha] at h0
                  cases h0
                  have h2 := hBw.size
                  refine ⟨fun hz => ?_, by show b1 < _; omega⟩
                  have h3 : w.heap.size ≤ b1 := (HWS.out.hi _ hz).1
                  omega
                have HT0 := hid htx0
                have HT1 := hid htx1
                have HBc := hid hBc
                have HBXc := hid hbxc
                have HBw := hid hBw
                have HTd := hid hTd
                subst hta
                clear htO htB hBc hbxc hBw htx0 htx1 hTd
                go_upto_if 70 with fail
                go_cut [12] (fun s12 wx => wx = wc ∧ TxR wc Z s12 T ∧ ∀ s ∈ T, s.size ≤ 300)
                case first =>
                  by_cases hxa : xa = 1
                  · have HTe : Hid (T = xl) := by
                      show _ = _
                      rw [HTd.out, if_pos hxa]
                    subst hxa
                    go_wp2_with fail
                    go_loopw [13] (fun tj wq => ∃ j : Nat, j ≤ xl.length ∧ tj = .int .i64 j ∧ wq = wc ∧ ∀ k, k < j → (LB.an xl k).size ≤ 300) (fun tj _ => xl.length - (intOf tj).toNat)
                    case atStart => exact ⟨0, by omega, rfl, rfl, by omega⟩
                    case round =>
                      obtain ⟨j, hj, rfl, rfl, hok⟩ := hrel
                      have HOK := hid hok
                      clear hok
                      by_cases hjl : j < xl.length
                      · obtain ⟨b1, off1, hlo, hk0, hbs1⟩ := HRL.out j hjl
                        subst hlo
                        have hkc := (HBw.out.cell (p := ⟨b1, off1 + j, none⟩) hbs1).trans hk0
                        have HS : Hid ((LB.an xl j).size ≤ 300 → ∀ k, k < j + 1 → (LB.an xl k).size ≤ 300) := fun h k hk => by
                          by_cases he : k = j
                          · rw [he]; exact h
                          · exact HOK.out k (by omega)
                        clear hk0
                        generalize LB.an xl j = y at *
                        by_cases hy : 300 < y.size
                        · have hy' : (300 : Int) < (y.size : Int) := by omega
                          go_wp2_with fail
                          go_ret
                          exact ⟨rfl, HBw.out⟩
                        · have hy' : ¬ (300 : Int) < (y.size : Int) := by omega
                          have HS2 := hid (HS.out (by omega))
                          clear HS
                          go_wp2_with fail
                          go_roundw
                          case rel => exact ⟨j + 1, by omega, by go_num, by first | rfl | trivial, HS2.out⟩
                          case measure => simp [intOf]; omega
                      · have he : j = xl.length := by omega
                        subst he
                        have HQ : Hid (∀ s ∈ T, s.size ≤ 300) := fun s hs => by
                          rw [HTe.out] at hs
                          obtain ⟨k, hk, rfl⟩ := List.mem_iff_getElem.1 hs
                          have := HOK.out k hk
                          unfold LB.an at this
                          rw [List.getD_eq_getElem?_getD, List.getElem?_eq_getElem hk] at this
                          exact this
                        go_wp2_with fail
                        go_meet
                        case rel => exact ⟨by first | rfl | trivial, by rw [HTe.out]; exact HT1.out, HQ.out⟩
                  · have HTe : Hid (T = now ++ [xs]) := by
                      show _ = _
                      rw [HTd.out, if_neg hxa]
                    have hxb : (xa == 1) = false := by simpa using hxa
                    have HQ : Hid (∀ s ∈ T, s.size ≤ 300) := fun s hs => by
                      rw [HTe.out] at hs
                      rcases List.mem_append.1 hs with h1 | h1
                      · exact H300.out s h1
                      · rw [List.mem_singleton.1 h1]; omega
                    go_wp2_with fail
                    go_meet
                    case rel => exact ⟨rfl, by rw [HTe.out]; have h1 := HT0.out; rw [List.length_append] at h1; exact h1, HQ.out⟩
                case rest =>
                  obtain ⟨rfl, hTx, hT3⟩ := hcut
                  have hws0 := HWS.out.below (w' := wc) (by rw [hbxe]; exact HBc.out)
                  have hnx : TxR wc Z (.slice no now.length nc) now := TxR.below (w := wr) ⟨no, nc, rfl, HNR.out, fun hp a ha => by rw [hbxe]; exact HNZ.out hp a ha⟩ (by rw [hbxe]; exact HBc.out)
                  have hbz : ¬ Z bx := fun hz => by have := (HWS.out.hi bx hz).2; omega
                  have hTl : T.length ≤ 11 + i := by
                    rw [HTd.out]
                    split
                    · omega
                    · rw [List.length_append]; simp only [List.length_cons, List.length_nil]; omega
                  have HTx := hid hTx
                  have HT3 := hid hT3
                  have HW0 := hid hws0
                  have HNX := hid hnx
                  have HBZ := hid hbz
                  clear hTx hT3 hws0 hnx hbz HWS HBc HT0 HT1
                  go_upto_if 89 with fail
                  go_cut [14] (fun s14 wx => ∃ (k : Nat) (p : Int) (Z' : Nat → Prop), s14 = .int .i64 k ∧ k < 60 ∧ -1 ≤ p ∧ WS w w1.heap.size (4 + 12 * i) b D p false wx Z' ∧ Keeps Z wc Z' wx)
                  case first =>
                    by_cases hC0 : 0 < C.length
                    · have hC0' : (0 : Int) < (C.length : Int) := by omega
                      have hml : i % C.length < C.length := Nat.mod_lt _ hC0
                      obtain ⟨b2, off2, hco, hk2, hbs2⟩ := HC.out (i % C.length) hml
                      subst hco
                      have hkc := (HBw.out.cell (p := ⟨b2, off2 + i % C.length, none⟩) hbs2).trans hk2
                      clear hk2
                      generalize C.getD (i % C.length) 0 = cw at *
                      have HPk := hid (pk_any cw 9 wc (by omega) (by omega))
                      have hk9 := DK.pk_lt cw (n := 9) (by omega)
                      generalize DK.pk cw 9 = k9 at *
                      have HCut := hid (wcut_any HW0.out.wl ((k9 : Int) - 3) (by omega))
                      go_wp2_with fail
                      refine HPk.out.mono ?_
                      rintro en wq ⟨rfl, rfl⟩
                      clear HPk
                      go_wp2_with fail
                      refine HCut.out.mono ?_
                      rintro en wq ⟨rfl, hEq⟩
                      obtain ⟨Z', hws', hkp'⟩ := HW0.out.end hEq
                      have hkc2 := (hws'.bel.cell (p := ⟨b2, off2 + i % C.length, none⟩) hbs2).trans ((HBw.out.cell (p := ⟨b2, off2 + i % C.length, none⟩) hbs2).symm.trans hkc)
                      have HW' := hid hws'
                      have HK' := hid hkp'
                      clear hEq hws' hkp' HCut hkc
                      go_wp2_with fail
                      refine (pk_any (wrap64 (cw.tdiv 9)) 60 wq (by omega) (by omega)).mono ?_
                      rintro en wz ⟨rfl, rfl⟩
                      have hk60 := DK.pk_lt (wrap64 (cw.tdiv 9)) (n := 60) (by omega)
                      generalize DK.pk (wrap64 (cw.tdiv 9)) 60 = k60 at *
                      go_wp2_with fail
                      go_meet
                      case rel => exact ⟨k60, _, Z', rfl, hk60, by omega, HW'.out, HK'.out⟩
                    · have hC0' : ¬ (0 : Int) < (C.length : Int) := by omega
                      go_wp2_with fail
                      go_meet
                      case rel => exact ⟨0, -1, Z, rfl, by omega, by omega, HW0.out, XFr.refl _ _, fun j hj => .inl hj⟩
                  case rest =>
                    obtain ⟨k, p, Zc, rfl, hk, hp, hwsc, hkpc⟩ := hcut
                    have hbc := (hkpc.out (heap_lt HBXc.out) HBZ.out)
                    have hbxd := hbc.2.trans HBXc.out
                    have e0 := zcell _ bx _ _ hbxd 0 _ rfl
                    have e1 := zcell _ bx _ _ hbxd 1 _ rfl
                    have e2 := zcell _ bx _ _ hbxd 2 _ rfl
                    have htc := HTx.out.keep hkpc
                    have hnc := HNX.out.keep hkpc
                    have hFD : DK.Fine 12080 D := HSet.out.fine (by
                      have h1 := joined_size 300 now H300.out
                      have h2 : (300 + 2) * now.length ≤ 302 * 40 := Nat.mul_le_mul_left _ (by omega)
                      omega)
                    have hlc : NRow wc lo xl := HRL.out.below hwsc.bel
                    have HBXd := hid hbxd
                    have HBZd := hid hbc.1
                    have HTc := hid htc
                    have HNc := hid hnc
                    have HWc := hid hwsc
                    have HFD := hid hFD
                    have HLc := hid hlc
                    clear hkpc hbc hbxd htc hnc hwsc hFD hlc d0 d1 d2 HBXc HBZ HTx HNX HW0
                    go_upto_if 112 with fail
                    go_cut [8] (fun s8 wx => ∃ (c : Int) (D' : DK.M) (p' : Int) (Z' : Nat → Prop), s8 = er c ∧ WS w w1.heap.size (8 + 12 * i) b D' p' (decide (c ≠ 0)) wx Z' ∧ Keeps Zc wc Z' wx ∧ DK.Fine 30000 D' ∧ ((c = 0 ∧ WL.Set kpt frs D' T) ∨ (c = 14 ∧ ∀ k, WL.Rdy kpt frs (DK.start D' k) now ∨ WL.Rdy kpt frs (DK.start D' k) T)))
                    case first =>
                      by_cases hxa : xa = 1
                      · have HTe : Hid (T = xl) := by
                          show _ = _
                          rw [HTd.out, if_pos hxa]
                        have hsm : ∀ s ∈ xl, s.size ≤ 300 := by rw [← HTe.out]; exact HT3.out
                        have hbig : (xl.any fun s => decide (60000 < s.size)) = false := by
                          rw [List.any_eq_false]
                          intro s hs
                          have := hsm s hs
                          simp; omega
                        have HM := set_any HWc.out.wl HFD.out (by omega) lo xl lc HLc.out (by omega) (by omega)
                        rw [hbig] at HM
                        have HM := hid HM
                        have HOut := hid (WL.set_out HSet.out xl hp)
                        have HFo : Hid (DK.Fine 30000 (WL.repl kpt frs (WL.joined xl) D p).2.1) := by
                          have h1 := joined_size 300 xl hsm
                          have h2 : (300 + 2) * xl.length ≤ 302 * 10 := Nat.mul_le_mul_left _ (by omega)
                          exact (repl_fine HFD.out).mono (by omega)
                        generalize WL.repl kpt frs (WL.joined xl) D p = O at *
                        clear hsm hbig
                        subst hxa
                        go_wp2_with fail
                        refine HM.out.mono ?_
                        intro en wx hP
                        obtain ⟨rfl, hE⟩ := hP.good
                        obtain ⟨Z', hws', hkp'⟩ := HWc.out.end hE
                        have HQ : Hid (∃ (c : Int) (D' : DK.M) (p' : Int) (Z' : Nat → Prop), er O.1 = er c ∧ WS w w1.heap.size (8 + 12 * i) b D' p' (decide (c ≠ 0)) wx Z' ∧ Keeps Zc wc Z' wx ∧ DK.Fine 30000 D' ∧ ((c = 0 ∧ WL.Set kpt frs D' T) ∨ (c = 14 ∧ ∀ k, WL.Rdy kpt frs (DK.start D' k) now ∨ WL.Rdy kpt frs (DK.start D' k) T))) := by
                          have e4 : 4 + 12 * i + 4 = 8 + 12 * i := by omega
                          rw [e4] at hws'
                          refine ⟨O.1, O.2.1, O.2.2, Z', rfl, hws', hkp', HFo.out, ?_⟩
                          rw [HTe.out]
                          rcases HOut.out with ⟨D', p', h1, h2, _⟩ | ⟨_, D', p', h1, h2⟩
                          · rw [h1]; exact .inl ⟨rfl, h2⟩
                          · rw [h1]; exact .inr ⟨rfl, fun k => .inl (h2 k)⟩
                        clear hP hE hws' hkp' HM HOut HFo
                        generalize er O.1 = v8 at *
                        go_wp2_with fail
                        go_meet
                        case rel => exact HQ.out
                      · have HTe : Hid (T = now ++ [xs]) := by
                          show _ = _
                          rw [HTd.out, if_neg hxa]
                        have hxb : (xa == 1) = false := by simpa using hxa
                        have hbig : decide (60000 < xs.size) = false := decide_eq_false (by omega)
                        have HM := add_any HWc.out.wl HFD.out (by omega) xs (by omega)
                        rw [hbig] at HM
                        have HM := hid HM
                        have HOut := hid (WL.add_out HSet.out (s := xs) (by omega) hp)
                        have HFo : Hid (DK.Fine 30000 (WL.addO kpt xs D p).2.1) := (addO_fine HFD.out).mono (by rw [WL.enc_size]; omega)
                        generalize WL.addO kpt xs D p = O at *
                        clear hbig
                        go_wp2_with fail
                        refine HM.out.mono ?_
                        intro en wx hP
                        obtain ⟨rfl, hE⟩ := hP.good
                        obtain ⟨Z', hws', hkp'⟩ := HWc.out.end hE
                        have HQ : Hid (∃ (c : Int) (D' : DK.M) (p' : Int) (Z' : Nat → Prop), er O.1 = er c ∧ WS w w1.heap.size (8 + 12 * i) b D' p' (decide (c ≠ 0)) wx Z' ∧ Keeps Zc wc Z' wx ∧ DK.Fine 30000 D' ∧ ((c = 0 ∧ WL.Set kpt frs D' T) ∨ (c = 14 ∧ ∀ k, WL.Rdy kpt frs (DK.start D' k) now ∨ WL.Rdy kpt frs (DK.start D' k) T))) := by
                          have e4 : 4 + 12 * i + 4 = 8 + 12 * i := by omega
                          rw [e4] at hws'
                          refine ⟨O.1, O.2.1, O.2.2, Z', rfl, hws', hkp', HFo.out, ?_⟩
                          rw [HTe.out]
                          rcases HOut.out with ⟨D', p', h1, h2, _⟩ | ⟨_, D', p', h1, h2⟩
                          · rw [h1]; exact .inl ⟨rfl, h2⟩
                          · rw [h1]; exact .inr ⟨rfl, h2⟩
                        clear hP hE hws' hkp' HM HOut HFo
                        generalize er O.1 = v8 at *
                        go_wp2_with fail
                        go_meet
                        case rel => exact HQ.out
                    case rest =>
                      obtain ⟨c, D', p', Z', rfl, hwsp, hkpp, hFp, hcc⟩ := hcut
                      have htp := HTc.out.keep hkpp
                      have hnp := HNc.out.keep hkpp
                      have hEp : ErrT wc := HE.out.below hwsp.bel HE.out.lt
                      have hbp := hkpp.out (heap_lt HBXd.out) HBZd.out
                      have HFp := hid hFp
                      rcases hcc with ⟨rfl, hS'⟩ | ⟨rfl, hR'⟩
                      · have hdn : decide ((0 : Int) ≠ 0) = false := by decide
                        rw [hdn] at hwsp
                        rw [er_zero]
                        have HDn := hid (down_any (wal_of hwsp.wl))
                        obtain ⟨ns, hns⟩ : ∃ ns, ns = T := ⟨T, rfl⟩
                        have HRd : Hid (WL.Rdy kpt frs (DK.start D' (k : Int)) ns) := by
                          show WL.Rdy _ _ _ _
                          rw [hns]; exact WL.start_rdy hS' _
                        have HS3 : Hid (∀ s ∈ ns, s.size ≤ 300) := by
                          show ∀ s ∈ ns, s.size ≤ 300
                          rw [hns]; exact HT3.out
                        have HSm : Hid (WL.Sm ns) := fun s hs => by have := HS3.out s hs; omega
                        have HLn : Hid (ns.length ≤ 11 + i) := by
                          show ns.length ≤ 11 + i
                          rw [hns]; exact hTl
                        have HNs := hid hns
                        have HW3 := hid hwsp
                        have HT3' := hid htp
                        have HN3 := hid hnp
                        clear hwsp hkpp hFp htp hnp hEp hbp hS' hns hdn e0 e1 e2 HWc HTc HNc HLc HFD HBXd HBZd
                        go_wp2_with fail
                        refine (tell_nil wc).mono ?_
                        rintro en w3 ⟨rfl, rfl⟩
                        go_wp2_with fail
                        refine HDn.out.mono ?_
                        rintro en w3' ⟨rfl, rfl⟩
                        clear HDn
                        have HFs : Hid (DK.Fine 1000000000 D') := HFp.out.mono (by omega)
                        have HStart := hid (wstart_any HW3.out.wl (k : Int) (by omega) (by omega) HFs.out)
                        have HFo : Hid (DK.Fine 30000 (DK.start D' (k : Int))) := HFp.out.start _
                        go_wp2_with fail
                        refine HStart.out.mono ?_
                        rintro en w4 ⟨rfl, hE4⟩
                        obtain ⟨Z4, hws4, hkp4⟩ := HW3.out.end hE4
                        have HOpen := hid (wopen_any hws4.wl HRd.out HSm.out HFo.out (by omega) (by omega))
                        have HW4 := hid hws4
                        have HT4 := hid (HT3'.out.keep hkp4)
                        have HN4 := hid (HN3.out.keep hkp4)
                        clear hE4 hws4 hkp4 HStart HFs HFo HRd HT3' HN3 HW3
                        go_wp2_with fail
                        refine HOpen.out.mono ?_
                        rintro en w5 ⟨bw5, v5, D5, Z5, rfl, hS5, hW5, hO5, hn5, x5, z5⟩
                        obtain ⟨hws5, hkp5⟩ := HW4.out.on hW5 x5 z5
                        have htx5 : TxR w5 (fun j => Z5 j ∧ j < w5.heap.size) v5 ns := own_txr hO5 (fun g hg hz => hn5 g hg hz.1)
                        have hnil5 : ∀ m c, v5 = .slice none m c → m = 0 ∧ c = 0 := fun m c h => by
                          rcases hO5.2 with ⟨h1, _⟩ | ⟨g, cp, cu, h1, _⟩
                          · rw [h1] at h; cases h; exact ⟨rfl, rfl⟩
                          · rw [h1] at h; cases h
                        have HKI : Hid (∀ n, KI w w1.heap.size (i + 1) bw5 v5 (w5.drewN n)) := fun n => by
                          have hd : Below w5.heap.size w5 (w5.drewN n) := below_drewN (Below.refl _ _) n
                          have hb1 := hws5.below hd
                          refine ⟨_, D5, ns, ⟨hb1.wl.mono (by omega), hb1.hi, hb1.bel⟩, hS5, HS3.out, by have := HLn.out; omega, htx5.below hd, hnil5⟩
                        have HT5 := hid (HT4.out.keep hkp5)
                        have HN5 := hid (HN4.out.keep hkp5)
                        obtain ⟨a5, c5, rfl, hr5, _⟩ := hO5.row
                        obtain ⟨at5, ct5, hv12, hrt5, _⟩ := HT5.out
                        obtain ⟨an5, cn5, hv9, hrn5, _⟩ := HN5.out
                        cases hv9
                        subst hv12
                        have hln := HLn.out
                        have HSa := hid (sameKT_any a5 at5 ns T c5 ct5 w5 hr5 hrt5 (by omega) (by omega))
                        have HSb := hid (fun n => sameKT_any a5 no ns now c5 nc (w5.drewN n) hr5 hrn5 (by omega) (by omega))
                        clear hS5 hW5 hO5 hn5 x5 z5 hws5 hkp5 htx5 hnil5 hr5 hrt5 hrn5 HOpen HW4 HT4 HN4 HT5 HN5
                        go_wp2_with fail
                        refine HSa.out.mono ?_
                        rintro en w6 ⟨rfl, n6, rfl⟩
                        clear HSa
                        have hq : decide (ns = T) = true := decide_eq_true HNs.out
                        rw [hq]
                        clear HSb hq
                        go_wp2_with fail
                        go_roundw
                        case rel => exact ⟨i + 1, bw5, by omega, by go_num, rfl, rfl, HKI.out n6⟩
                        case measure => simp [intOf]; omega

                      · have hdn : decide ((14 : Int) ≠ 0) = true := by decide
                        rw [hdn] at hwsp
                        rw [er_non (by omega)]
                        obtain ⟨ns, hns, hRd, hS3, hLn⟩ : ∃ ns, (ns = T ∨ ns = now) ∧ WL.Rdy kpt frs (DK.start D' (k : Int)) ns ∧ (∀ s ∈ ns, s.size ≤ 300) ∧ ns.length ≤ 11 + i := by
                          rcases hR' (k : Int) with h1 | h1
                          · exact ⟨now, .inr rfl, h1, H300.out, by omega⟩
                          · exact ⟨T, .inl rfl, h1, HT3.out, hTl⟩
                        have HRd := hid hRd
                        have HS3 := hid hS3
                        have HSm : Hid (WL.Sm ns) := fun s hs => by have := HS3.out s hs; omega
                        have HLn := hid hLn
                        have HNs := hid hns
                        have HWp := hid hwsp
                        have HTp := hid htp
                        have HNp := hid hnp
                        have HTell := hid (tell_errno 14 wc hEp)
                        clear hwsp hkpp hFp htp hnp hEp hbp hR' hns hRd hS3 hLn hdn e0 e1 e2 HWc HTc HNc HLc HFD HBXd HBZd
                        go_wp2_with fail
                        refine HTell.out.mono ?_
                        rintro en w3 ⟨rfl, hb3⟩
                        have hws3 := HWp.out.below hb3
                        have HDn := hid (down_any (wal_of hws3.wl))
                        have hbig : decide (60000 < zTx.size) = false := by decide
                        have HA := add_any hws3.wl HFp.out (by omega) zTx (by omega)
                        rw [hbig] at HA
                        have HA := hid HA
                        have HWq := hid hws3
                        have HTq := hid (HTp.out.below hb3)
                        have HNq := hid (HNp.out.below hb3)
                        clear hb3 hws3 hbig HTell HWp HTp HNp
                        go_wp2_with fail
                        refine HDn.out.mono ?_
                        rintro en w3' ⟨rfl, rfl⟩
                        clear HDn
                        go_wp2_with fail
                        refine HA.out.mono ?_
                        intro en wz hP
                        obtain ⟨rfl, hEz⟩ := hP.down
                        obtain ⟨Zz, hwsz, hkpz⟩ := HWq.out.end hEz
                        have HTell := hid (tell_errno 6 wz (HE.out.below hwsz.bel HE.out.lt))
                        have HWz := hid hwsz
                        have HTz := hid (HTq.out.keep hkpz)
                        have HNz := hid (HNq.out.keep hkpz)
                        clear hP hEz hwsz hkpz HA HWq HTq HNq
                        go_wp2_with fail
                        refine HTell.out.mono ?_
                        rintro en wy ⟨rfl, hby⟩
                        have HW3 := hid (HWz.out.below hby)
                        have HT3' := hid (HTz.out.below hby)
                        have HN3 := hid (HNz.out.below hby)
                        clear hby HTell HWz HTz HNz
                        have HFs : Hid (DK.Fine 1000000000 D') := HFp.out.mono (by omega)
                        have HStart := hid (wstart_any HW3.out.wl (k : Int) (by omega) (by omega) HFs.out)
                        have HFo : Hid (DK.Fine 30000 (DK.start D' (k : Int))) := HFp.out.start _
                        go_wp2_with fail
                        refine HStart.out.mono ?_
                        rintro en w4 ⟨rfl, hE4⟩
                        obtain ⟨Z4, hws4, hkp4⟩ := HW3.out.end hE4
                        have HOpen := hid (wopen_any hws4.wl HRd.out HSm.out HFo.out (by omega) (by omega))
                        have HW4 := hid hws4
                        have HT4 := hid (HT3'.out.keep hkp4)
                        have HN4 := hid (HN3.out.keep hkp4)
                        clear hE4 hws4 hkp4 HStart HFs HFo HRd HT3' HN3 HW3
                        go_wp2_with fail
                        refine HOpen.out.mono ?_
                        rintro en w5 ⟨bw5, v5, D5, Z5, rfl, hS5, hW5, hO5, hn5, x5, z5⟩
                        obtain ⟨hws5, hkp5⟩ := HW4.out.on hW5 x5 z5
                        have htx5 : TxR w5 (fun j => Z5 j ∧ j < w5.heap.size) v5 ns := own_txr hO5 (fun g hg hz => hn5 g hg hz.1)
                        have hnil5 : ∀ m c, v5 = .slice none m c → m = 0 ∧ c = 0 := fun m c h => by
                          rcases hO5.2 with ⟨h1, _⟩ | ⟨g, cp, cu, h1, _⟩
                          · rw [h1] at h; cases h; exact ⟨rfl, rfl⟩
                          · rw [h1] at h; cases h
                        have HKI : Hid (∀ n, KI w w1.heap.size (i + 1) bw5 v5 (w5.drewN n)) := fun n => by
                          have hd : Below w5.heap.size w5 (w5.drewN n) := below_drewN (Below.refl _ _) n
                          have hb1 := hws5.below hd
                          refine ⟨_, D5, ns, ⟨hb1.wl.mono (by omega), hb1.hi, hb1.bel⟩, hS5, HS3.out, by have := HLn.out; omega, htx5.below hd, hnil5⟩
                        have HT5 := hid (HT4.out.keep hkp5)
                        have HN5 := hid (HN4.out.keep hkp5)
                        obtain ⟨a5, c5, rfl, hr5, _⟩ := hO5.row
                        obtain ⟨at5, ct5, hv12, hrt5, _⟩ := HT5.out
                        obtain ⟨an5, cn5, hv9, hrn5, _⟩ := HN5.out
                        cases hv9
                        subst hv12
                        have hln := HLn.out
                        have HSa := hid (sameKT_any a5 at5 ns T c5 ct5 w5 hr5 hrt5 (by omega) (by omega))
                        have HSb := hid (fun n => sameKT_any a5 no ns now c5 nc (w5.drewN n) hr5 hrn5 (by omega) (by omega))
                        clear hS5 hW5 hO5 hn5 x5 z5 hws5 hkp5 htx5 hnil5 hr5 hrt5 hrn5 HOpen HW4 HT4 HN4 HT5 HN5
                        go_wp2_with fail
                        refine HSa.out.mono ?_
                        rintro en w6 ⟨rfl, n6, rfl⟩
                        clear HSa
                        by_cases hnT : ns = T
                        · have hq : decide (ns = T) = true := decide_eq_true hnT
                          rw [hq]
                          clear HSb hq hnT
                          go_wp2_with fail
                          go_roundw
                          case rel => exact ⟨i + 1, bw5, by omega, by go_num, rfl, rfl, HKI.out n6⟩
                          case measure => simp [intOf]; omega
                        · have hq : decide (ns = T) = false := decide_eq_false hnT
                          have hq2 : decide (ns = now) = true := decide_eq_true (HNs.out.resolve_left hnT)
                          rw [hq]
                          have HSc := HSb.out n6
                          rw [hq2] at HSc
                          have HSc := hid HSc
                          clear HSb hq hq2 hnT
                          go_wp2_with fail
                          refine HSc.out.mono ?_
                          rintro en w7 ⟨rfl, n7, rfl⟩
                          rw [World.drewN_drewN]
                          clear HSc
                          go_wp2_with fail
                          go_roundw
                          case rel => exact ⟨i + 1, bw5, by omega, by go_num, rfl, rfl, HKI.out _⟩
                          case measure => simp [intOf]; omega

        · have he : i = l.length := by omega
          subst he
          obtain ⟨Z, D, now, hws, _⟩ := hki
          have HB := hid hws.bel
          clear hws
          go_wp2
          go_ret
          exact ⟨rfl, HB.out⟩

end Go.Proofs.YtdmnlmohfaafoadDoor
