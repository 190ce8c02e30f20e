/- WalPlays, walked. -/
import Derived.Test.YtdmnlmohfaafoadDoorWlRow
import Derived.Test.YtdmnlmohfaafoadDoorWlLong
import Derived.Test.YtdmnlmohfaafoadDoorDkBare
import Derived.Deep.CutBlock
import Derived.Deep.DeepCutAuto
namespace Go.Proofs.YtdmnlmohfaafoadDoor
open Go.RowKit Go.Maps

/-- A note of the law's. -/
structure Nl where
  a : Int
  l : List ByteArray

def nlD : Nl := ⟨0, []⟩
def atL (l : List Nl) (i : Nat) : Nl := l.getD i nlD

/-- Notes in memory. -/
def NlRow (w : World) (ao : Option Addr) (l : List Nl) : Prop :=
  ∀ i, i < l.length → ∃ b off, ao = some ⟨b, off, none⟩ ∧ w.cell? ⟨b, off + i * 2, none⟩ = some (.int .i64 (atL l i).a) ∧ b < w.heap.size ∧
    ∃ lo cap, w.cell? ⟨b, off + i * 2 + 1, none⟩ = some (.slice lo (atL l i).l.length cap) ∧ NRow w lo (atL l i).l

/-- What holds at the loop's head. -/
def PI (w : World) (bd k : Nat) (bw : Nat) (v : Value) (wr : World) : Prop :=
  ∃ Z D want, WS w bd (4 + 90 * k) bw D (-1) false wr Z ∧ WL.Set kpt frs D want ∧ (∀ s ∈ want, s.size ≤ 60000) ∧ want.length ≤ 20 * k ∧ OwnT wr w.heap.size v want ∧ ∀ g, v.ownBlock = some g → ¬ Z g

theorem wal_of' {w : World} {Z : Nat → Prop} {bw bd cnt : Nat} {D : DK.M} {p : Int} {dn : Bool} (h : Wl w Z bw bd cnt D p dn) : w.heap[bw]? = some (.cells #[.pointer (some ⟨bd, 0, none⟩), .bool dn] 75) := by
  obtain ⟨_, _, h1, _⟩ := h
  exact h1

theorem PI.of {w W : World} {bd k c bw : Nat} {D : DK.M} {Z : Nat → Prop} {v : Value} {want : List ByteArray} (h1 : WS w bd c bw D (-1) false W Z) (h2 : c ≤ 4 + 90 * k) (h3 : WL.Set kpt frs D want) (h4 : ∀ s ∈ want, s.size ≤ 60000) (h5 : want.length ≤ 20 * k) (h6 : OwnT W w.heap.size v want) (h7 : ∀ g, v.ownBlock = some g → ¬ Z g) : PI w bd k bw v W :=
  ⟨Z, D, want, ⟨h1.wl.mono h2, h1.hi, h1.bel⟩, h3, h4, h5, h6, h7⟩

theorem want_fine {D : DK.M} {want : List ByteArray} (h : WL.Set kpt frs D want) (h1 : ∀ s ∈ want, s.size ≤ 60000) (h2 : want.length ≤ 900) : DK.Fine 54001800 D := h.fine (by
  have h3 := joined_size 60000 want h1
  have h4 : (60000 + 2) * want.length ≤ 60002 * 900 := Nat.mul_le_mul_left _ h2
  omega)

abbrev bigB (M : List ByteArray) : Bool := M.any fun s => decide (60000 < s.size)

abbrev yTx : ByteArray := ⟨#[121]⟩
abbrev xTy : ByteArray := ⟨#[120]⟩

theorem xTy_list : xTy.toList = [120] := by rw [Lib.toList_data]
theorem yTx_list : yTx.toList = [121] := by rw [Lib.toList_data]
theorem xTy_arg : ((60000 : Int) + (((xTy[0]'(by decide)).toNat : Int) - 120) % 256) = ((60000 : Nat) : Int) := by decide
theorem yTx_arg : ((60000 : Int) + (((yTx[0]'(by decide)).toNat : Int) - 120) % 256) = ((60001 : Nat) : Int) := by decide

set_option maxRecDepth 100000 in
set_option maxHeartbeats 1600000 in
theorem wplays_any (ao : Option Addr) (l : List Nl) (cl : Nat) (w : World) (hL : NlRow w ao l) (hE : ErrT w) :
    Calls Tryd.prog 3 #[.slice ao l.length cl] w fun e w' => e = .returned (.bool true) ∧ Below w.heap.size w w' := by
  have HL := hid hL
  have HE := hid hE
  clear hL hE
  by_cases hl : 40 < l.length
  · have hl' : (40 : Int) < (l.length : Int) := by omega
    go_enter Tryd.func3, Tryd.ntmps3
    go_wp2_with fail
    go_ret
    exact ⟨rfl, Below.refl _ _⟩
  · have hl' : ¬ (40 : Int) < (l.length : Int) := by omega
    have HO := hid (open_any (Z := fun j => j = w.heap.size) (N := 0) (Dk.zero w) (fun j hj => hj) (fun j hj => by simp; omega) rdy_zero (fun s hs => by cases hs) (DK.Fine.none 0) (by omega) (by omega))
    go_enter Tryd.func3, Tryd.ntmps3
    go_wp2_with fail
    refine HO.out.mono ?_
    rintro en w2 ⟨bw, v, D2, Z2, rfl, hS2, hW2, hO2, hn2, x2, z2⟩
    have hb0 : Below w.heap.size w (w.alloc (.cells #[.map none, .bool false, .int .i64 0] 26)) := (Below.refl _ w).alloc (Nat.le_refl _) _
    have hs1 : (w.alloc (.cells #[.map none, .bool false, .int .i64 0] 26)).heap.size = w.heap.size + 1 := by simp
    have hWS2 : WS w w.heap.size 4 bw D2 (-1) false w2 (fun j => Z2 j ∧ j < w2.heap.size) := by
      refine ⟨hW2.narrow, fun j hj => ⟨?_, hj.2⟩, hb0.trans (x2.toBelow (fun j hj => by omega) (by omega))⟩
      rcases z2 j hj.1 with h | h <;> omega
    have HS2 := hid hS2
    have HW2 := hid hWS2
    obtain ⟨av, cv, rfl, _, _⟩ := hO2.row
    have HBare := hid (bare_errno 7 7 w2 (HE.out.below hWS2.bel HE.out.lt))
    clear hS2 hW2 hO2 hn2 x2 z2 hb0 HO hs1 hWS2
    go_wp2_with fail
    refine (open_nil w2).mono ?_
    rintro en w3 ⟨rfl, rfl⟩
    go_wp2_with fail
    refine HBare.out.mono ?_
    rintro en w4 ⟨rfl, hb4⟩
    have HPI : Hid (PI w w.heap.size 0 bw (.slice none 0 0) w4) := ⟨_, D2, [], HW2.out.below hb4, HS2.out, fun s hs => (by cases hs), by simp, ⟨rfl, .inl ⟨rfl, rfl⟩⟩, fun g hg => by cases hg⟩
    have e7 : ((7 : Int) == 7) = true := by decide
    rw [e7]
    clear hb4 HBare HW2 HS2 e7
    go_wp2_with fail
    go_loopw [4, 10, 11] (fun t4 t10 ti wr => ∃ (i b : Nat), i ≤ l.length ∧ ti = .int .i64 i ∧ t4 = .pointer (some ⟨b, 0, none⟩) ∧ PI w w.heap.size i b t10 wr) (fun _ _ ti _ => l.length - (intOf ti).toNat)
    case atStart => exact ⟨0, bw, by omega, rfl, rfl, HPI.out⟩
    case round =>
      obtain ⟨i, b, hi, rfl, rfl, hpi⟩ := hrel
      clear HPI
      obtain ⟨Z, D, want, hws, hset, h6, hwl, hwo, hwz⟩ := hpi
      obtain ⟨wo, wc', hwv, _, _⟩ := hwo.row
      have HWS := hid hws
      have HSet := hid hset
      have H6 := hid h6
      have HWO := hid hwo
      have HWZ := hid hwz
      have HB := hid hws.bel
      have hsz := hws.bel.size
      by_cases hlt : i < l.length
      · obtain ⟨b0, off, hao, hc0, hb0, lo, lc, hc2, hrl⟩ := HL.out i hlt
        subst hao
        have hcell0 := (hws.bel.cell (p := ⟨b0, off + i * 2, none⟩) hb0).trans hc0
        have hcell2 := (hws.bel.cell (p := ⟨b0, off + i * 2 + 1, none⟩) hb0).trans hc2
        have HRL := hid hrl
        clear hrl hws hset h6 hwo hwz hc0 hc2
        generalize atL l i = x at *
        obtain ⟨xa, xl⟩ := x
        simp only at hcell0 hcell2 HRL
        by_cases hxl : 20 < xl.length
        · have hxl' : (20 : Int) < (xl.length : Int) := by omega
          have hBW : Below wr.heap.size wr (wr.alloc (.cells #[.int .i64 xa, .slice lo xl.length lc] 36)) := (Below.refl _ wr).alloc (Nat.le_refl _) _
          have HQ : Hid (PI w w.heap.size (i + 1) b u10 (wr.alloc (.cells #[.int .i64 xa, .slice lo xl.length lc] 36))) := PI.of (HWS.out.below hBW) (by omega) HSet.out H6.out (by omega) (OwnT.below HWO.out hBW) HWZ.out
          clear hBW
          subst hwv
          go_wp2_with fail
          go_roundw
          case rel => exact ⟨i + 1, b, by omega, by go_num, rfl, HQ.out⟩
          case measure => simp [intOf]; omega
        · have hxl' : ¬ (20 : Int) < (xl.length : Int) := by omega
          go_upto_region 13 with fail
          generalize hobj : (.cells #[.int .i64 xa, .slice lo xl.length lc] 36 : Obj) = obj at *
          have hbx : (wr.alloc obj).heap[wr.heap.size]? = some (.cells #[.int .i64 xa, .slice lo xl.length lc] 36) := by rw [hobj]; exact heap_alloc_new wr _
          have HBW : Hid (Below wr.heap.size wr (wr.alloc obj)) := (Below.refl _ wr).alloc (Nat.le_refl _) _
          have hbl : wr.heap.size < (wr.alloc obj).heap.size := heap_lt hbx
          clear hobj
          generalize wr.alloc obj = W1 at *
          have HW1 := hid (HWS.out.below HBW.out)
          have HO1 := hid (OwnT.below HWO.out HBW.out)
          have hoz : ∀ g, u10.ownBlock = some g → g < wr.heap.size := fun g hg => (World.ownsRow.lt HWO.out g hg).2
          have HOZ := hid hoz
          generalize hbxe : wr.heap.size = bx at *
          have d0 := zcell _ bx _ _ hbx 0 _ rfl
          have d1 := zcell _ bx _ _ hbx 1 _ rfl
          have HBX := hid hbx
          have HBw1 := hid (HB.out.trans (HBW.out.mono (by omega)))
          clear hbx hoz
          go_wp2_with fail
          go_loopw [13, 14, 15] (fun t13 t14 t15 wq => ∃ (j : Nat) (M : List ByteArray) (er : Int), j ≤ xl.length ∧ t15 = .int .i64 j ∧ M.length = j ∧ (∀ s ∈ M, s.size ≤ 60001) ∧ t14 = .int .i64 er ∧ ((bigB M = true ∧ er = 1) ∨ (bigB M = false ∧ er = 0)) ∧ OwnT wq W1.heap.size t13 M ∧ Below W1.heap.size W1 wq) (fun _ _ t15 _ => xl.length - (intOf t15).toNat)
          case atStart => exact ⟨0, [], 0, by omega, rfl, rfl, fun s hs => (by cases hs), rfl, .inr ⟨rfl, rfl⟩, ⟨rfl, .inl ⟨rfl, rfl⟩⟩, Below.refl _ _⟩
          case round =>
            obtain ⟨j, M, eb, hj, rfl, hMl, hM, rfl, heb, hMo, hMb⟩ := hrel
            have HEB := hid heb
            have HM := hid hM
            have HMo := hid hMo
            have HMb := hid hMb
            have hbxq := (hMb.block bx hbl).trans HBX.out
            have f0 := zcell _ bx _ _ hbxq 0 _ rfl
            have f1 := zcell _ bx _ _ hbxq 1 _ rfl
            have hszq := hMb.size
            clear hM hMb hbxq d0 d1 heb
            by_cases hjl : j < xl.length
            · obtain ⟨b1, off1, hlo, hk0, hbs1⟩ := HRL.out j hjl
              subst hlo
              have hkc := (HMb.out.cell (p := ⟨b1, off1 + j, none⟩) (by have := HBw1.out.size; show b1 < _; omega)).trans ((HBw1.out.cell (p := ⟨b1, off1 + j, none⟩) hbs1).trans hk0)
              clear hk0
              generalize LB.an xl j = s at *
              by_cases hs3 : 300 < s.size
              · have hs3' : (300 : Int) < (s.size : Int) := by omega
                have HQ := hid (HBw1.out.trans (HMb.out.mono (by have := HBw1.out.size; omega)))
                go_wp2_with fail
                go_ret
                exact ⟨rfl, HQ.out⟩
              · have hs3' : ¬ (300 : Int) < (s.size : Int) := by omega
                have hsb : s.size ≤ 300 := by omega
                go_upto_region 22 with fail
                go_cut [88] (fun s88 wx => wx = wr ∧ ∃ q : Bool, s88 = .bool q ∧ (q = true → s = xTy ∨ s = yTx))
                case first =>
                  by_cases hsx : s = xTy
                  · subst hsx
                    go_wp2_with fail
                    go_meet
                    case rel => exact ⟨by first | rfl | trivial, true, rfl, fun _ => by simp⟩
                  · have hx1 : (s.toList == xTy.toList) = false := by rw [LB.beq_eq]; exact decide_eq_false hsx
                    have hx2 : ¬ s.toList = [120] := fun h => by
                      rw [← xTy_list] at h
                      rw [h] at hx1
                      simp at hx1
                    by_cases hsy : s = yTx
                    · subst hsy
                      go_wp2_with fail
                      go_meet
                      case rel => exact ⟨by first | rfl | trivial, true, rfl, fun _ => by simp⟩
                    · have hy1 : (s.toList == yTx.toList) = false := by rw [LB.beq_eq]; exact decide_eq_false hsy
                      have hy2 : ¬ s.toList = [121] := fun h => by
                        rw [← yTx_list] at h
                        rw [h] at hy1
                        simp at hy1
                      have hy3 : (s.toList == [121]) = false := by simpa using hy2
                      go_wp2_with fail
                      go_meet
                      case rel => exact ⟨by first | rfl | trivial, false, by first | rfl | simp [hx2] | rw [hy3], fun h => by cases h⟩
                case rest =>
                  obtain ⟨rfl, q, rfl, hq⟩ := hcut
                  have HQ0 := hid hq
                  clear hq
                  go_upto_if 88 with fail
                  go_cut [16] (fun s16 wx => ∃ t : ByteArray, s16 = .string t ∧ t.size ≤ 60001 ∧ Below wc.heap.size wc wx)
                  case first =>
                    cases q with
                    | true =>
                      rcases HQ0.out rfl with hs | hs
                      · subst hs
                        go_wp2_with fail
                        rw [xTy_arg]
                        refine (long_any 60000 wc (by omega)).mono ?_
                        rintro en wy ⟨t, rfl, ht, hby⟩
                        have HT := hid ht
                        have HBY := hid hby
                        clear ht hby
                        go_wp2_with fail
                        go_meet
                        case rel => exact ⟨t, rfl, by rw [HT.out]; omega, HBY.out⟩
                      · subst hs
                        go_wp2_with fail
                        rw [yTx_arg]
                        refine (long_any 60001 wc (by omega)).mono ?_
                        rintro en wy ⟨t, rfl, ht, hby⟩
                        have HT := hid ht
                        have HBY := hid hby
                        clear ht hby
                        go_wp2_with fail
                        go_meet
                        case rel => exact ⟨t, rfl, by rw [HT.out]; omega, HBY.out⟩
                    | false =>
                      go_wp2_with fail
                      go_meet
                      case rel => exact ⟨s, rfl, by omega, Below.refl _ _⟩
                  case rest =>
                    obtain ⟨t, rfl, ht, hbq⟩ := hcut
                    have HMo2 := hid (OwnT.below HMo.out hbq)
                    have HMb2 := hid (HMb.out.trans (hbq.mono hszq))
                    have HM2 : Hid (∀ s ∈ M ++ [t], s.size ≤ 60001) := fun s hs => by
                      rcases List.mem_append.1 hs with h1 | h1
                      · exact HM.out s h1
                      · rw [List.mem_singleton.1 h1]; exact ht
                    obtain ⟨ma, mc, hmv, _, _⟩ := HMo.out.row
                    rw [hMl] at hmv
                    subst hmv
                    have hszq2 := HMb2.out.size
                    clear hbq HMo HMb HM f0 f1 hkc
                    generalize hwq : wc = wq at *
                    by_cases hb : 60000 < t.size
                    · have hbt : (60000 : Int) < (t.size : Int) := by omega
                      have HNB : Hid (bigB (M ++ [t]) = true) := by
                        show List.any _ _ = true
                        rw [List.any_append]
                        simp [hb]
                      go_wp2_with (at_builtin; refine wpList_append_one rfl (.tmp 98) (.tmp 100) rfl W1.heap.size (.slice ma j mc) M rfl (OwnT.alloc HMo2.out (.cells #[.string t] 9)) wq.heap.size t rfl (by simp) (by omega) (by simp; omega) ?_)
                      intro v7 w7 ho7 hg7 _
                      have HB7 : Hid (Below W1.heap.size W1 w7) := ((HMb2.out.alloc HMb2.out.size (.cells #[.string t] 9)).grown hg7 (by simp; omega) (fun g hg => (World.ownsRow.lt HMo2.out g hg).1))
                      have HO7 := hid ho7
                      obtain ⟨a7, c7, hv7, _, _⟩ := ho7.row
                      subst hv7
                      clear ho7 hg7
                      go_wp2_with fail
                      go_roundw
                      case rel => exact ⟨j + 1, M ++ [t], _, by omega, by go_num, by rw [List.length_append, hMl]; rfl, HM2.out, rfl, .inl ⟨HNB.out, rfl⟩, by first | exact HO7.out | (have h9 := HO7.out; rw [List.length_append] at h9; exact h9), HB7.out⟩
                      case measure => simp [intOf]; omega
                    · have hbt : ¬ (60000 : Int) < (t.size : Int) := by omega
                      have HNB : Hid ((bigB (M ++ [t]) = true ∧ eb = 1) ∨ (bigB (M ++ [t]) = false ∧ eb = 0)) := by
                        have e1 : bigB (M ++ [t]) = bigB M := by
                          show List.any _ _ = List.any _ _
                          rw [List.any_append]
                          simp [hb]
                        show _ ∨ _
                        rw [e1]; exact HEB.out
                      go_wp2_with (at_builtin; refine wpList_append_one rfl (.tmp 98) (.tmp 100) rfl W1.heap.size (.slice ma j mc) M rfl (OwnT.alloc HMo2.out (.cells #[.string t] 9)) wq.heap.size t rfl (by simp) (by omega) (by simp; omega) ?_)
                      intro v7 w7 ho7 hg7 _
                      have HB7 : Hid (Below W1.heap.size W1 w7) := ((HMb2.out.alloc HMb2.out.size (.cells #[.string t] 9)).grown hg7 (by simp; omega) (fun g hg => (World.ownsRow.lt HMo2.out g hg).1))
                      have HO7 := hid ho7
                      obtain ⟨a7, c7, hv7, _, _⟩ := ho7.row
                      subst hv7
                      clear ho7 hg7
                      go_wp2_with fail
                      go_roundw
                      case rel => exact ⟨j + 1, M ++ [t], _, by omega, by go_num, by rw [List.length_append, hMl]; rfl, HM2.out, rfl, HNB.out, by first | exact HO7.out | (have h9 := HO7.out; rw [List.length_append] at h9; exact h9), HB7.out⟩
                      case measure => simp [intOf]; omega
            · have he : j = xl.length := by omega
              subst he
              have hws2 := HW1.out.below HMb.out
              have hwo2 := OwnT.below HO1.out HMb.out
              have htx2 : TxR wr (ZR Z u10) u13 M := by
                refine own_txr HMo.out (fun g hg hz => ?_)
                have h1 := (World.ownsRow.lt HMo.out g hg).1
                rcases hz with hz | hz
                · have h2 := (HWS.out.hi g hz).2
                  omega
                · have h2 := HOZ.out g hz
                  omega
              have hE2 : ErrT wr := HE.out.below hws2.bel HE.out.lt
              have HW2 := hid hws2
              have HO2 := hid hwo2
              have HT2 := hid htx2
              have HE2 := hid hE2
              have HMl := hid hMl
              obtain ⟨ma, mc, hmv, hmr, _⟩ := HMo.out.row
              rw [hMl] at hmv
              clear hws2 hwo2 htx2 hE2 hmr HBX
              go_upto_block 4 with fail
              generalize wr = W2 at *
              go_cut [4, 10] (fun s4 s10 wx => ∃ b' : Nat, s4 = .pointer (some ⟨b', 0, none⟩) ∧ PI w w.heap.size (i + 1) b' s10 wx)
              case first =>
                have hFD := want_fine HSet.out H6.out (by omega)
                have HFD := hid hFD
                have hmt := HT2.out
                obtain ⟨ma', mc', hmv', hmr, hmz⟩ := hmt
                have hme : ma' = ma ∧ mc' = mc := by
                  rw [hmv] at hmv'
                  have := Value.slice.inj hmv'
                  exact ⟨this.1.symm, this.2.2.symm⟩
                obtain ⟨rfl, rfl⟩ := hme
                have HMR := hid hmr
                clear hmv' hmr hmz hFD
                by_cases hx0 : xa = 0
                · subst hx0
                  subst hmv
                  subst hwv
                  go_wp2_with fail
                  go_loopw [10, 17] (fun t10 t17 wq => ∃ (k : Nat) (Zk : Nat → Prop) (Dk : DK.M) (wk : List ByteArray), k ≤ xl.length ∧ t17 = .int .i64 k ∧ WS w w.heap.size (4 + 90 * i + 4 * k) b Dk (-1) false wq Zk ∧ WL.Set kpt frs Dk wk ∧ (∀ s ∈ wk, s.size ≤ 60000) ∧ wk.length ≤ 20 * i + k ∧ OwnT wq w.heap.size t10 wk ∧ (∀ g, t10.ownBlock = some g → ¬ Zk g) ∧ TxR wq (ZR Zk t10) (.slice ma' xl.length mc') M) (fun _ t17 _ => xl.length - (intOf t17).toNat)
                  case atStart => exact ⟨0, Z, D, want, by omega, rfl, HW2.out, HSet.out, H6.out, by omega, HO2.out, HWZ.out, HT2.out⟩
                  case round =>
                    obtain ⟨k, Zk, Dk, wk, hk, rfl, hwsk, hsetk, h6k, hlk, hok, hzk, htk⟩ := hrel
                    obtain ⟨wok, wck, hvk, _, _⟩ := hok.row
                    have HWk := hid hwsk
                    have HSk := hid hsetk
                    have H6k := hid h6k
                    have HOk := hid hok
                    have HZk := hid hzk
                    have HTk := hid htk
                    have hszk := hwsk.bel.size
                    subst hvk
                    by_cases hkl : k < xl.length
                    · obtain ⟨ma2, mc2, hv2, hr2, _⟩ := htk
                      have hm2 : ma2 = ma' := (Value.slice.inj hv2).1.symm
                      subst hm2
                      have hMl' : M.length = xl.length := HMl.out
                      obtain ⟨b1, off1, hlo, hk0, hbs1⟩ := hr2 k (by omega)
                      subst hlo
                      have hsz6 := HM.out _ (an_mem M k (by omega))
                      have hFk := want_fine HSk.out H6k.out (by omega)
                      generalize LB.an M k = s at *
                      have HA := add_any hwsk.wl hFk (by omega) s (by omega)
                      clear hwsk hsetk h6k hok hzk hr2 hv2 hMl' hFk
                      by_cases hb : 60000 < s.size
                      · have hb' : (60000 : Int) < (s.size : Int) := by omega
                        rw [decide_eq_true hb] at HA
                        have HA := hid HA
                        go_wp2_with fail
                        refine HA.out.mono ?_
                        intro en w5 hP
                        obtain ⟨rfl, hE5⟩ := hP.big
                        obtain ⟨Z5, hws5, hkp5⟩ := HWk.out.end hE5
                        have ho5 := OwnT.keep HOk.out hkp5 HZk.out
                        have HBr := hid (bare_errno 1 1 w5 (HE.out.below hws5.bel HE.out.lt))
                        have HW5 := hid hws5
                        have HO5 := hid ho5.1
                        have HZ5 := hid ho5.2
                        have HT5 := hid (HTk.out.keep hkp5.zr)
                        clear hP hE5 hws5 hkp5 ho5 HA HWk HOk HZk HTk
                        go_wp2_with fail
                        refine HBr.out.mono ?_
                        rintro en w6 ⟨rfl, hb6⟩
                        have HW6 := hid (HW5.out.below hb6)
                        have HO6 := hid (OwnT.below HO5.out hb6)
                        have HT6 := hid (HT5.out.below hb6)
                        have e11 : ((1 : Int) == 1) = true := by decide
                        rw [e11]
                        clear hb6 HW5 HO5 HT5 HBr e11
                        go_wp2_with fail
                        go_roundw
                        case rel => exact ⟨k + 1, Z5, Dk, wk, by omega, by go_num, by have h9 := HW6.out; exact ⟨h9.wl.mono (by omega), h9.hi, h9.bel⟩, HSk.out, H6k.out, by omega, HO6.out, HZ5.out, HT6.out⟩
                        case measure => simp [intOf]; omega
                      · have hb' : ¬ (60000 : Int) < (s.size : Int) := by omega
                        rw [decide_eq_false hb] at HA
                        obtain ⟨D', p', hD', hS', hp'⟩ : ∃ D' p', WL.addO kpt s Dk (-1) = (0, D', p') ∧ WL.Set kpt frs D' (wk ++ [s]) ∧ (-1 = (-1 : Int) → p' = -1) := by
                          rcases WL.add_out (p := -1) HSk.out (s := s) (by omega) (by omega) with ⟨D', p', h1, h2, h3⟩ | ⟨h1, _⟩
                          · exact ⟨D', p', h1, h2, h3⟩
                          · exact absurd rfl h1
                        obtain rfl := hp' rfl
                        rw [hD'] at HA
                        have HA := hid HA
                        have HS' := hid hS'
                        clear hD' hS' hp'
                        go_wp2_with fail
                        refine HA.out.mono ?_
                        intro en w5 hP
                        obtain ⟨rfl, hE5⟩ := hP.ok
                        obtain ⟨Z5, hws5, hkp5⟩ := HWk.out.end hE5
                        have ho5 := OwnT.keep HOk.out hkp5 HZk.out
                        have ht5 := HTk.out.keep hkp5.zr
                        have hk5 : w5.cell? ⟨b1, off1 + k, none⟩ = some (.string s) := by
                          obtain ⟨ma3, mc3, hv3, hr3, hz3⟩ := HTk.out
                          have hm3 := (Value.slice.inj hv3).1
                          have hnz := (hz3 (by have := HMl.out; omega) _ hm3.symm).1
                          have h9 := ((hkp5.zr (v := .slice wok wk.length wck)).out (j := b1) hbs1 hnz).2
                          rw [← hk0]
                          simp [World.cell?, h9]
                        have HW5 := hid hws5
                        have HO5 := hid ho5.1
                        have HZ5 := hid ho5.2
                        have HT5 := hid ht5
                        have hsz5 := hws5.bel.size
                        clear hP hE5 hws5 hkp5 ho5 ht5 HA HWk HOk HZk HTk hk0
                        go_wp2_with (at_builtin; refine wpList_append_one rfl (.tmp 133) (.tmp 138) rfl w.heap.size (.slice wok wk.length wck) wk rfl (OwnT.alloc HO5.out (.cells #[.string s] 9)) w5.heap.size s rfl (by simp) (by omega) (by simp; omega) ?_)
                        intro v7 w7 ho7 hg7 hl7
                        have hb5 : Below w5.heap.size w5 (w5.alloc (.cells #[.string s] 9)) := (Below.refl _ w5).alloc (Nat.le_refl _) _
                        have HW7 := hid ((HW5.out.below hb5).grown hg7 (fun g hg => ⟨HZ5.out g hg, (World.ownsRow.lt HO5.out g hg).1⟩))
                        have HZ7 : Hid (∀ g, v7.ownBlock = some g → ¬ Z5 g) := fun g hg hz => by
                          rcases hl7 with h9 | h9
                          · rw [h9] at hg
                            exact HZ5.out g hg hz
                          · rw [h9] at hg
                            have h10 : w5.heap.size + 1 = g := Option.some.inj hg
                            have h11 := (HW5.out.hi g hz).2
                            omega
                        have hl8 : v7.ownBlock = (Value.slice wok wk.length wck).ownBlock ∨ v7.ownBlock = some (w5.alloc (.cells #[.string s] 9)).heap.size := by
                          rw [show (w5.alloc (.cells #[.string s] 9)).heap.size = w5.heap.size + 1 by simp]; exact hl7
                        have HT7 := hid ((HT5.out.below hb5).keep (Keeps.grown (Z := Z5) hg7 hl8))
                        have HO7 := hid ho7
                        have H67 : Hid (∀ x ∈ wk ++ [s], x.size ≤ 60000) := fun x hx => by
                          rcases List.mem_append.1 hx with h9 | h9
                          · exact H6k.out x h9
                          · rw [List.mem_singleton.1 h9]; omega
                        have hln7 : (wk ++ [s]).length ≤ 20 * i + (k + 1) := by rw [List.length_append]; simp only [List.length_cons, List.length_nil]; omega
                        have HLN7 := hid hln7
                        obtain ⟨a7, c7, hv7, _, _⟩ := ho7.row
                        rw [List.length_append] at hv7
                        subst hv7
                        clear ho7 hg7 hl7 hl8 hb5 hln7 HW5 HO5 HZ5 HT5
                        go_wp2_with fail
                        go_roundw
                        case rel => exact ⟨k + 1, Z5, D', wk ++ [s], by omega, by go_num, by have h9 := HW7.out; exact ⟨h9.wl.mono (by omega), h9.hi, h9.bel⟩, HS'.out, H67.out, HLN7.out, HO7.out, HZ7.out, HT7.out⟩
                        case measure => simp [intOf]; omega
                    · have he2 : k = xl.length := by omega
                      subst he2
                      clear hwsk hsetk h6k hok hzk htk
                      go_wp2_with fail
                      go_meet
                      case rel => exact ⟨b, rfl, PI.of HWk.out (by omega) HSk.out H6k.out (by omega) HOk.out HZk.out⟩
                · have hb0 : (xa == 0) = false := by simpa using hx0
                  by_cases hx1 : xa = 1
                  · subst hx1
                    have hMl' : M.length = xl.length := HMl.out
                    have HA := set_any HW2.out.wl HFD.out (by omega) ma' M mc' HMR.out (by omega) (by omega)
                    have hMZ : ∀ g, u13.ownBlock = some g → ¬ Z g := fun g hg hz => by
                      have h1 := (World.ownsRow.lt HMo.out g hg).1
                      have h2 := (HWS.out.hi g hz).2
                      omega
                    have HMZ := hid hMZ
                    have hlow : w.heap.size ≤ W1.heap.size := HBw1.out.size
                    have HMo3 := hid (OwnT.low HMo.out hlow)
                    clear hMZ hlow
                    rw [hMl'] at HA
                    subst hmv
                    subst hwv
                    rcases HEB.out with ⟨hbg, rfl⟩ | ⟨hbg, rfl⟩
                    · rw [show (M.any fun s => decide (60000 < s.size)) = true from hbg] at HA
                      have HA := hid HA
                      clear hMl'
                      go_wp2_with fail
                      refine HA.out.mono ?_
                      intro en w5 hP
                      obtain ⟨rfl, hE5⟩ := hP.big
                      obtain ⟨Z5, hws5, hkp5⟩ := HW2.out.end hE5
                      have ho5 := OwnT.keep HO2.out hkp5 HWZ.out
                      have HBr := hid (bare_errno 1 1 w5 (HE.out.below hws5.bel HE.out.lt))
                      have HW5 := hid hws5
                      have HO5 := hid ho5.1
                      have HZ5 := hid ho5.2
                      clear hP hE5 hws5 hkp5 ho5 HA
                      go_wp2_with fail
                      refine HBr.out.mono ?_
                      rintro en w6 ⟨rfl, hb6⟩
                      have HW6 := hid (HW5.out.below hb6)
                      have HO6 := hid (OwnT.below HO5.out hb6)
                      have e11 : ((1 : Int) == 1) = true := by decide
                      rw [e11]
                      clear hb6 HW5 HO5 HBr e11
                      go_wp2_with fail
                      go_meet
                      case rel => exact ⟨b, rfl, PI.of HW6.out (by omega) HSet.out H6.out (by omega) HO6.out HZ5.out⟩
                    · rw [show (M.any fun s => decide (60000 < s.size)) = false from hbg] at HA
                      obtain ⟨D', p', hD', hS', hp'⟩ : ∃ D' p', WL.repl kpt frs (WL.joined M) D (-1) = (0, D', p') ∧ WL.Set kpt frs D' M ∧ (-1 = (-1 : Int) → p' = -1) := by
                        rcases WL.set_out (p := -1) HSet.out M (by omega) with ⟨D', p', h1, h2, h3⟩ | ⟨h1, _⟩
                        · exact ⟨D', p', h1, h2, h3⟩
                        · exact absurd rfl h1
                      obtain rfl := hp' rfl
                      rw [hD'] at HA
                      have HA := hid HA
                      have HS' := hid hS'
                      have H6' := hid (big_small hbg)
                      have HL' : Hid (M.length ≤ 20 * (i + 1)) := by show M.length ≤ _; omega
                      clear hD' hS' hp' hMl' hbg
                      go_wp2_with fail
                      refine HA.out.mono ?_
                      intro en w5 hP
                      obtain ⟨rfl, hE5⟩ := hP.ok
                      obtain ⟨Z5, hws5, hkp5⟩ := HW2.out.end hE5
                      have ho5 := OwnT.keep HMo3.out hkp5 HMZ.out
                      have HBr := hid (bare_nil 0 w5)
                      have HW5 := hid hws5
                      have HO5 := hid ho5.1
                      have HZ5 := hid ho5.2
                      clear hP hE5 hws5 hkp5 ho5 HA
                      go_wp2_with fail
                      refine HBr.out.mono ?_
                      rintro en w6 ⟨rfl, hb6⟩
                      have HW6 := hid (HW5.out.below hb6)
                      have HO6 := hid (OwnT.below HO5.out hb6)
                      have e11 : ((0 : Int) == 0) = true := by decide
                      rw [e11]
                      clear hb6 HW5 HO5 HBr e11
                      go_wp2_with fail
                      go_meet
                      case rel => exact ⟨b, rfl, PI.of HW6.out (by omega) HS'.out H6'.out HL'.out HO6.out HZ5.out⟩
                  · have hb1 : (xa == 1) = false := by simpa using hx1
                    by_cases hx2 : xa = 2
                    · subst hx2
                      have HOp := hid (wopen_any HW2.out.wl HSet.out.rdy (fun s hs => by have := H6.out s hs; omega) HFD.out (by omega) (by omega))
                      subst hmv
                      subst hwv
                      go_wp2_with fail
                      refine HOp.out.mono ?_
                      rintro en w5 ⟨bw5, v5, D5, Z5, rfl, hS5, hW5, hO5, hn5, x5, z5⟩
                      obtain ⟨hws5, hkp5⟩ := HW2.out.on hW5 x5 z5
                      obtain ⟨hwo5, hwz5⟩ := OwnT.keep HO2.out hkp5 HWZ.out
                      obtain ⟨a5, c5, rfl, hr5, _⟩ := hO5.row
                      obtain ⟨a6, c6, hv6, hr6, _⟩ := hwo5.row
                      have hv6' := Value.slice.inj hv6
                      obtain ⟨rfl, _, rfl⟩ := hv6'
                      have HSa := sameLT_any a5 wo want want c5 wc' w5 hr5 hr6 (by omega) (by omega)
                      rw [decide_eq_true (rfl : want = want)] at HSa
                      have HSa := hid HSa
                      have HW5 := hid hws5
                      have HO5 := hid hwo5
                      have HZ5 := hid hwz5
                      have HS5 := hid hS5
                      clear hS5 hW5 hO5 hn5 x5 z5 hws5 hkp5 hwo5 hwz5 hr5 hr6 HOp hv6
                      go_wp2_with fail
                      refine HSa.out.mono ?_
                      rintro en w6 ⟨rfl, n6, rfl⟩
                      have hb6 : Below w5.heap.size w5 (w5.drewN n6) := below_drewN (Below.refl _ _) n6
                      have HW6 := hid (HW5.out.below hb6)
                      have HO6 := hid (OwnT.below HO5.out hb6)
                      clear HSa hb6 HW5 HO5
                      go_wp2_with fail
                      go_meet
                      case rel => exact ⟨bw5, rfl, PI.of HW6.out (by omega) HS5.out H6.out (by omega) HO6.out HZ5.out⟩
                    · have hb2 : (xa == 2) = false := by simpa using hx2
                      subst hmv
                      subst hwv
                      go_wp2_with fail
                      go_meet
                      case rel => exact ⟨b, rfl, PI.of HW2.out (by omega) HSet.out H6.out (by omega) HO2.out HWZ.out⟩
              case rest =>
                obtain ⟨b', rfl, hPI⟩ := hcut
                obtain ⟨Z', D', want', h1, h2, h3, h4, h5, h6⟩ := hPI
                have HDn := hid (down_any (wal_of' h1.wl))
                obtain ⟨wo', wcc, hwv', _, _⟩ := h5.row
                have HPI2 : Hid (PI w w.heap.size (i + 1) b' u10 wc) := ⟨Z', D', want', h1, h2, h3, h4, h5, h6⟩
                subst hwv'
                clear h1 h2 h3 h5 h6 f0 f1
                go_wp2_with fail
                refine HDn.out.mono ?_
                rintro en w6 ⟨rfl, rfl⟩
                go_wp2_with fail
                go_roundw
                case rel => exact ⟨i + 1, b', by omega, by go_num, rfl, HPI2.out⟩
                case measure => simp [intOf]; omega
      · have he : i = l.length := by omega
        subst he
        have hF := want_fine HSet.out H6.out (by omega)
        have HOp := hid (wopen_any HWS.out.wl HSet.out.rdy (fun s hs => by have := H6.out s hs; omega) hF (by omega) (by omega))
        clear hws hset h6 hwo hwz hF
        go_wp2_with fail
        refine HOp.out.mono ?_
        rintro en w5 ⟨bw5, v5, D5, Z5, rfl, hS5, hW5, hO5, hn5, x5, z5⟩
        obtain ⟨hws5, hkp5⟩ := HWS.out.on hW5 x5 z5
        obtain ⟨hwo5, _⟩ := OwnT.keep HWO.out hkp5 HWZ.out
        obtain ⟨a5, c5, rfl, hr5, _⟩ := hO5.row
        obtain ⟨a6, c6, hv6, hr6, _⟩ := hwo5.row
        have HSa := sameLT_any a5 a6 want want c5 c6 w5 hr5 hr6 (by omega) (by omega)
        rw [decide_eq_true (rfl : want = want)] at HSa
        have HSa := hid HSa
        have HB5 := hid hws5.bel
        subst hv6
        clear hS5 hW5 hO5 hn5 x5 z5 hws5 hkp5 hwo5 hr5 hr6 HOp HWS HWO HWZ HSet H6
        go_wp2_with fail
        refine HSa.out.mono ?_
        rintro en w6 ⟨rfl, n6, rfl⟩
        clear HSa
        go_wp2_with fail
        go_ret
        exact ⟨rfl, below_drewN HB5.out _⟩

end Go.Proofs.YtdmnlmohfaafoadDoor
