/- HeadPlays. -/
import Derived.Test.YtdmnlmohfaafoadGreatDoorPHpFn
import Derived.Test.YtdmnlmohfaafoadGreatDoorPHrApp
import Derived.Test.YtdmnlmohfaafoadGreatDoorPHrReg
namespace Go.Proofs.YtdmnlmohfaafoadGreatDoor
open Go.RowKit

/-- A turn. -/
structure Trn where
  what : Int
  L : List Sr
  t : Int
  M : List LB.Mat
  fr : Int
  tt : Int

def atT (l : List Trn) (i : Nat) : Trn := l.getD i ⟨0, [], 0, [], 0, 0⟩

/-- Turns that came in. -/
def TRow (w : World) (ao : Option Addr) (l : List Trn) : Prop := ∀ i, i < l.length → ∃ b off, ao = some ⟨b, off, none⟩ ∧ b < w.heap.size ∧ ∃ so sc mo mc, w.cell? ⟨b, off + i * 6, none⟩ = some (.int .i64 (atT l i).what) ∧ w.cell? ⟨b, off + i * 6 + 1, none⟩ = some (.slice so (atT l i).L.length sc) ∧ w.cell? ⟨b, off + i * 6 + 2, none⟩ = some (.int .i64 (atT l i).t) ∧ w.cell? ⟨b, off + i * 6 + 3, none⟩ = some (.slice mo (atT l i).M.length mc) ∧ w.cell? ⟨b, off + i * 6 + 4, none⟩ = some (.int .i64 (atT l i).fr) ∧ w.cell? ⟨b, off + i * 6 + 5, none⟩ = some (.int .i64 (atT l i).tt) ∧ SrRow w so (atT l i).L ∧ (∀ k, k < (atT l i).L.length → ∀ s ∈ (atSr (atT l i).L k).2, CL.Rs s) ∧ MRow w mo (atT l i).M

def dg1 (k : Nat) : ByteArray := ⟨#[UInt8.ofNat (48 + k)]⟩

theorem dg_str (b : Nat) (k : Nat) (w : World) (hk : k < 100) (h : w.cell? ⟨b, 0, none⟩ = some (.int .u8 (48 + (k : Int)))) : (convert 47 9 (.slice (some ⟨b, 0, none⟩) 1 1)).run Tryz.prog w = .ok (.string (dg1 k)) w := by
  have hn : (UInt8.ofNat (48 + k)).toNat = 48 + k := by
    rw [UInt8.toNat_ofNat']
    omega
  have := run_convert_bytes_back (P := Tryz.prog) w 47 9 5 ⟨b, 0, none⟩ 1 [UInt8.ofNat (48 + k)] (by kernel_rfl) (by kernel_rfl) (by kernel_rfl) (fun j hj => by
    have hj0 : j = 0 := by simp at hj; omega
    subst hj0
    rw [Addr.add_lit]
    simp only [List.getElem_cons_zero, hn]
    rw [h]
    rfl)
  simpa [dg1] using this

/-- The series that fill the head. -/
def fillS (k : Nat) : List Sr := [([(⟨#[102]⟩, dg1 k)], [(1099511627773, 1)])]

theorem fill_lim (k i : Nat) (h : i < (fillS k).length) : (atSr (fillS k) i).1.length ≤ 1000 ∧ (atSr (fillS k) i).2.length ≤ 1000 := by
  have : i = 0 := by simp [fillS] at h; omega
  subst this
  exact ⟨by show 1 ≤ 1000; omega, by show 1 ≤ 1000; omega⟩

theorem fill_rs (k : Nat) : ∀ x ∈ fillS k, ∀ s ∈ x.2, CL.Rs s := by
  intro x hx s hs
  simp only [fillS, List.mem_cons, List.not_mem_nil, or_false] at hx
  subst hx
  simp only [List.mem_cons, List.not_mem_nil, or_false] at hs
  subst hs
  unfold CL.Rs
  omega

theorem fill_sh (k i : Nat) (h : i < (fillS k).length) : Shrt (atSr (fillS k) i).1 := by
  have : i = 0 := by simp [fillS] at h; omega
  subst this
  intro j hj
  have : j = 0 := by simp [fillS, atSr] at hj; omega
  subst this
  exact ⟨by show 1 ≤ _; omega, by show 1 ≤ _; omega⟩

theorem asked_op {l : List LB.Mat} (h : LB.asked l = true) (i : Nat) (hi : i < l.length) : 0 ≤ (LB.am l i).op ∧ (LB.am l i).op ≤ 3 := by
  unfold LB.asked at h
  simp only [Bool.and_eq_true] at h
  have h1 := List.all_eq_true.1 h.2 (LB.am l i) (LB.am_mem l i hi)
  unfold LB.askd at h1
  simp only [Bool.and_eq_true, decide_eq_true_eq] at h1
  omega

theorem shS_lim {l : List Sr} (h : shS l = true) : l.length ≤ 20 ∧ ∀ i, i < l.length → (atSr l i).1.length ≤ 20 ∧ (atSr l i).2.length ≤ 60 ∧ Shrt (atSr l i).1 := by
  unfold shS at h
  have h1 := decide_eq_true_iff.1 h
  refine ⟨h1.1, fun i hi => ?_⟩
  obtain ⟨h2, h3⟩ := h1.2 i hi
  unfold shL at h2
  have h4 := decide_eq_true_iff.1 h2
  exact ⟨h4.1, h3, fun j hj => by have := h4.2 j hj; omega⟩

theorem shM_lim {l : List LB.Mat} (h : shM l = true) : l.length ≤ 20 ∧ ShrM l := by
  unfold shM at h
  have h1 := of_decide_eq_true h
  exact ⟨h1.1, h1.2⟩

/-- The series that fills, laid down. -/
theorem fill4 (wr : World) (k : Nat) (Z : Nat → Prop) (hz : ∀ j, Z j → j < wr.heap.size) :
    SrOut ((((wr.alloc (.cells #[.int .u8 (48 + (k : Int))] 5)).alloc (.cells #[.string ⟨#[102]⟩, .string (dg1 k)] 49)).alloc (.cells #[.int .i64 1099511627773, .int .i64 1] 52)).alloc (.cells #[.slice (some ⟨wr.heap.size + 1, 0, none⟩) 1 1, .slice (some ⟨wr.heap.size + 1 + 1, 0, none⟩) 1 1] 55)) Z (some ⟨wr.heap.size + 1 + 1 + 1, 0, none⟩) (fillS k) ∧
    Below wr.heap.size wr ((((wr.alloc (.cells #[.int .u8 (48 + (k : Int))] 5)).alloc (.cells #[.string ⟨#[102]⟩, .string (dg1 k)] 49)).alloc (.cells #[.int .i64 1099511627773, .int .i64 1] 52)).alloc (.cells #[.slice (some ⟨wr.heap.size + 1, 0, none⟩) 1 1, .slice (some ⟨wr.heap.size + 1 + 1, 0, none⟩) 1 1] 55)) := by
  have hb1 : Below wr.heap.size wr (wr.alloc (.cells #[.int .u8 (48 + (k : Int))] 5)) := (Below.refl _ wr).alloc (Nat.le_refl _) _
  have hs1 : (wr.alloc (.cells #[.int .u8 (48 + (k : Int))] 5)).heap.size = wr.heap.size + 1 := by simp
  generalize wr.alloc (.cells #[.int .u8 (48 + (k : Int))] 5) = w1 at *
  obtain ⟨h1, h2, h3⟩ := three_new w1 (.cells #[.string ⟨#[102]⟩, .string (dg1 k)] 49) (.cells #[.int .i64 1099511627773, .int .i64 1] 52) (.cells #[.slice (some ⟨wr.heap.size + 1, 0, none⟩) 1 1, .slice (some ⟨wr.heap.size + 1 + 1, 0, none⟩) 1 1] 55)
  rw [hs1] at h1 h2 h3
  have ho := lit_own (base := wr.heap.size) h1 h2 h3 (by omega) (by omega) (by omega)
  obtain ⟨ao, cap, e, hs⟩ := SrOut.of_own ho hz
  simp only [Value.slice.injEq] at e
  rw [e.1]
  exact ⟨hs, ((hb1.alloc hb1.size _).alloc (by simp; omega) _).alloc (by simp; omega) _⟩

set_option maxRecDepth 100000 in
set_option maxHeartbeats 6400000 in
theorem plays_any (mark fill : Int) (ao : Option Addr) (l : List Trn) (cap : Nat) (w : World) (hE : ErrT w) (hF : FineH w) (hL : TRow w ao l) :
    Calls Tryz.prog 4 #[.int .i64 mark, .slice ao l.length cap, .int .i64 fill] w fun e w' => e = .returned (.bool true) ∧ Below w.heap.size w w' := by
  have HE := hid hE
  have HF := hid hF
  have HL := hid hL
  clear hE hF hL
  by_cases hlong : 40 < l.length
  · have hlong' : (40 : Int) < (l.length : Int) := by omega
    go_enter Tryz.func4, Tryz.ntmps4
    go_wp2_with fail
    go_ret
    exact ⟨rfl, Below.refl _ _⟩
  · have hlong' : ¬ (40 : Int) < (l.length : Int) := by omega
    go_enter Tryz.func4, Tryz.ntmps4
    go_wp2_with fail
    refine (hnew_any mark w).mono ?_
    rintro e w1 ⟨rfl, rfl⟩
    have hI2 := HSt.new mark w
    generalize w.alloc (.cells #[.int .i64 mark, .slice none 0 0] 105) = w2 at *
    generalize (fun j => w.heap.size ≤ j ∧ j < w.heap.size + 1) = Z2 at *
    generalize hhb : w.heap.size = hb at hI2 ⊢
    have HI2 := hid hI2
    clear hI2 hhb
    go_wp2_with fail
    have HP0 : Hid (PS w (w2.alloc (.cells #[.int .i64 mark, .slice none 0 0] 45)) hb w2.heap.size Z2 mark []) :=
      ⟨⟨HI2.out.below ((Below.refl _ w2).alloc (Nat.le_refl _) _), ⟨none, 0, heap_alloc_new w2 _, fun i hi => (by simp at hi)⟩, fun j hj => (by subst hj; exact ⟨HI2.out.bel.size, by simp, fun e => by have := HI2.out.zlt _ e; omega⟩), rfl⟩, HD.Good.nil⟩
    obtain ⟨U, hU⟩ : ∃ U : Nat, IntKind.u64.wrap fill = (U : Int) := ⟨(IntKind.u64.wrap fill).toNat, by rw [IntKind.wrap_u64]; omega⟩
    generalize w2.alloc (.cells #[.int .i64 mark, .slice none 0 0] 45) = w3 at *
    generalize w2.heap.size = Bw at *
    clear HI2
    go_loopw [9] (fun ti wr => ∃ (i : Nat) (Z : Nat → Prop) (S : List Sr), i ≤ U % 62 ∧ ti = .int .i64 i ∧ PS w wr hb Bw Z mark S) (fun ti _ => U % 62 - (intOf ti).toNat)
    case atStart => exact ⟨0, Z2, [], Nat.zero_le _, rfl, HP0.out⟩
    case round =>
      clear HP0
      obtain ⟨i, Z, S, hi, rfl, hps⟩ := hrel
      have HP := hid hps
      clear hps
      by_cases hlt : i < U % 62
      · have hlt' : (i : Int) < (U : Int) % 62 := by omega
        have hcv := dg_str wr.heap.size i (wr.alloc (.cells #[.int .u8 (48 + (i : Int))] 5)) (by omega) (by simp)
        obtain ⟨hf4, hb4⟩ := fill4 wr i (fun j => Z j ∨ j = Bw) HP.out.pt.zlt
        have HP4 := hid (HP.out.below hb4)
        have HF4 := hid hf4
        clear hf4 hb4 HP
        go_wp2_with fail
        generalize hW4 : ((((wr.alloc (.cells #[.int .u8 (48 + (i : Int))] 5)).alloc (.cells #[.string ⟨#[102]⟩, .string (dg1 i)] 49)).alloc (.cells #[.int .i64 1099511627773, .int .i64 1] 52)).alloc (.cells #[.slice (some ⟨wr.heap.size + 1, 0, none⟩) 1 1, .slice (some ⟨wr.heap.size + 1 + 1, 0, none⟩) 1 1] 55)) = w4 at HP4 HF4 ⊢
        have hs4 : wr.heap.size + 1 + 1 + 1 + 1 = w4.heap.size := by rw [← hW4]; simp
        rw [hs4]
        clear hW4 hs4 hcv
        generalize wr.heap.size + 1 + 1 + 1 = Bx at HF4 ⊢
        have HP5 := hid (HP4.out.pt.add (.cells #[.int .i64 0, .int .i64 0] 26))
        have HF5 := hid (SrOut.less (Z' := fun j => Z j ∨ (j = Bw ∨ j = w4.heap.size)) (SrOut.add HF4.out (.cells #[.int .i64 0, .int .i64 0] 26)) (fun j hj => by rcases hj with e | e | e <;> simp [e]))
        have HB5 := hid (heap_alloc_new w4 (.cells #[.int .i64 0, .int .i64 0] 26))
        have HGd := hid HP4.out.good
        generalize w4.alloc (.cells #[.int .i64 0, .int .i64 0] 26) = w5 at HP5 HF5 HB5 ⊢
        clear HP4 HF4
        generalize w4.heap.size = Bf at HP5 HF5 HB5 ⊢
        refine (happend_any hb Z mark S (fillS i) _ 1 w5 HP5.out.st.hd HGd.out (HF5.out.less fun j hj => .inl hj) (by show 1 ≤ 1000; omega) (fill_lim i) (fun k hk s hs => fill_rs i _ (HD.at_mem _ k hk) s hs)).mono ?_
        rintro e w6 ⟨⟨ev, rfl, herr⟩, hd6, hf6⟩
        have HP6 := hid (HP5.out.head hd6 hf6)
        have HF6 := hid (HP5.out.out hf6 HF5.out)
        have HB6 := hid ((hf6.block Bf (heap_lt HB5.out) (HP5.out.far Bf (.inr rfl)).2.2).trans HB5.out)
        have HGd6 := hid (HD.app_good (mark := mark) (l := fillS i) HGd.out (fill_rs i))
        have hev := herr.one
        have HErr := hid herr
        generalize wid Z w5 w6 = Z6 at *
        clear hd6 hf6 herr HP5 HF5 HB5
        obtain ⟨aoR, capR, hbx, hsR⟩ := HP6.out.box
        have HSR := hid hsR
        have z0 : w6.cell? ⟨Bw, 0, none⟩ = some (.int .i64 mark) := zcell' _ _ _ _ hbx 0 _ rfl
        have z1 : w6.cell? ⟨Bw, 1, none⟩ = some (.slice aoR S.length capR) := zcell' _ _ _ _ hbx 1 _ rfl
        clear hbx hsR
        go_wp2_with fail
        refine (rapp_any aoR (some ⟨Bx, 0, none⟩) S (fillS i) capR 1 mark (fun j => Z6 j ∨ (j = Bw ∨ j = Bf)) w6 HSR.out HGd.out HF6.out (by show 1 ≤ 1000; omega) (fill_lim i) (fill_rs i) (fill_sh i) HP6.out.zlt (HF.out.below HP6.out.st.bel)).mono ?_
        rintro e w7 ⟨ao7, cap7, rfl, hs7, hb7⟩
        generalize HD.app mark S (fillS i) = ap at *
        have HP7 := hid (HP6.out.below hb7)
        have HB7 := hid ((hb7.block Bf (heap_lt HB6.out)).trans HB6.out)
        have HBo := hid (HP7.out.both (m3 := mark) (cap := cap7) hs7 (.inr rfl) HB7.out (HErr.out.below hb7))
        obtain ⟨aoQ, capQ, hbq, _⟩ := HP7.out.box
        have q0 : w7.cell? ⟨Bw, 0, none⟩ = some (.int .i64 mark) := zcell' _ _ _ _ hbq 0 _ rfl
        have q1 : w7.cell? ⟨Bw, 1, none⟩ = some (.slice aoQ S.length capQ) := zcell' _ _ _ _ hbq 1 _ rfl
        have q2 : w7.cell? ⟨Bf, 0, none⟩ = some (.int .i64 0) := zcell' _ _ _ _ HB7.out 0 _ rfl
        have q3 : w7.cell? ⟨Bf, 1, none⟩ = some (.int .i64 0) := zcell' _ _ _ _ HB7.out 1 _ rfl
        have p0 := hfz hbq 0
        have p1 := hfz hbq 1
        have p2 := hfz HB7.out 0
        have p3 := hfz HB7.out 1
        have hne : Bf ≠ Bw := fun e => by
          have h1 := HB7.out
          rw [e, hbq] at h1
          simp at h1
        have hne' : Bw ≠ Bf := fun e => hne e.symm
        clear hs7 hb7 hbq HP6 HF6 HB6 HErr HSR z0 z1 HP7 HB7
        go_upto_region 12 with fail
        generalize ((((w7.setCell ⟨Bw, 0, none⟩ (.int .i64 mark)).setCell ⟨Bw, 1, none⟩ (.slice ao7 ap.2.length cap7)).setCell ⟨Bf, 0, none⟩ (.int .i64 ap.1.1)).setCell ⟨Bf, 1, none⟩ (.int .i64 ap.1.2)) = w8 at HBo ⊢
        have k0 : w8.cell? ⟨Bf, 0, none⟩ = some (.int .i64 ap.1.1) := zcell' _ _ _ _ HBo.out.2.1 0 _ rfl
        have k1 : w8.cell? ⟨Bf, 1, none⟩ = some (.int .i64 ap.1.2) := zcell' _ _ _ _ HBo.out.2.1 1 _ rfl
        clear q0 q1 q2 q3 p0 p1 p2 p3 hne hne' hev
        go_wp2_with fail
        refine (is_any ap.1 ev w8 HBo.out.2.2 (HE.out.below HBo.out.1.st.bel HE.out.lt)).mono ?_
        rintro e w9 ⟨rfl, hb9⟩
        have HP9 := hid (PS.mk ((HBo.out.1.less (V' := fun j => j = Bw) (fun j hj => .inl hj) rfl).below hb9) HGd6.out)
        clear hb9 HBo k0 k1
        go_wp2_with fail
        go_roundw
        case rel => exact ⟨i + 1, Z6, ap.2, by omega, by go_num, HP9.out⟩
        case measure => simp [intOf]; omega
      · have hlt' : ¬ (i : Int) < (U : Int) % 62 := by omega
        have HP0 := hid (show ∃ (Z : Nat → Prop) (m : Int) (S : List Sr), PS w wr hb Bw Z m S from ⟨Z, mark, S, HP.out⟩)
        clear HP
        go_wp2_with fail
        generalize hdc : decide ((i : Int) < (U : Int) % 62) = dc
        clear hdc
        go_loopw [13] (fun ti wr => ∃ k : Nat, k ≤ l.length ∧ ti = .int .i64 k ∧ ∃ (Z : Nat → Prop) (m : Int) (S : List Sr), PS w wr hb Bw Z m S) (fun ti _ => l.length - (intOf ti).toNat)
        case atStart => exact ⟨0, Nat.zero_le _, rfl, HP0.out⟩
        case round =>
          clear HP0
          obtain ⟨k, hk, rfl, Z, m, S, hps⟩ := hrel
          have HP := hid hps
          clear hps
          by_cases hkl : k < l.length
          · obtain ⟨b, off, hao, hbs, so, sc, mo, mc, c0, c1, c2, c3, c4, c5, hsr, hrs, hmr⟩ := HL.out k hkl
            subst hao
            have hbw := HP.out.pt.st.bel
            have d0 := (hbw.cell (p := ⟨b, off + k * 6, none⟩) hbs).trans c0
            have d1 := (hbw.cell (p := ⟨b, off + k * 6 + 1, none⟩) hbs).trans c1
            have d2 := (hbw.cell (p := ⟨b, off + k * 6 + 2, none⟩) hbs).trans c2
            have d3 := (hbw.cell (p := ⟨b, off + k * 6 + 3, none⟩) hbs).trans c3
            have d4 := (hbw.cell (p := ⟨b, off + k * 6 + 4, none⟩) hbs).trans c4
            have d5 := (hbw.cell (p := ⟨b, off + k * 6 + 5, none⟩) hbs).trans c5
            have HRow := hid hsr
            have HRs := hid hrs
            have HMr := hid hmr
            generalize atT l k = x at *
            obtain ⟨xw, xL, xt, xM, xf, xe⟩ := x
            simp only at d0 d1 d2 d3 d4 d5
            have hil : 0 ≤ (k : Int) ∧ (k : Int) < (l.length : Int) := by omega
            have hbel : Below wr.heap.size wr (wr.alloc (.cells #[.int .i64 xw, .slice so xL.length sc, .int .i64 xt, .slice mo xM.length mc, .int .i64 xf, .int .i64 xe] 63)) := (Below.refl _ wr).alloc (Nat.le_refl _) _
            have HP1 := hid (HP.out.below hbel)
            have HBx := hid (heap_alloc_new wr (.cells #[.int .i64 xw, .slice so xL.length sc, .int .i64 xt, .slice mo xM.length mc, .int .i64 xf, .int .i64 xe] 63))
            have HP0 := hid HP.out.pt.st.zlt
            clear c0 c1 c2 c3 c4 c5 hsr hrs hmr hbw hbel HP
            go_wp2_with fail
            generalize hw1 : wr.alloc (.cells #[.int .i64 xw, .slice so xL.length sc, .int .i64 xt, .slice mo xM.length mc, .int .i64 xf, .int .i64 xe] 63) = w1 at *
            have HNz := hid (show ¬ Z wr.heap.size from fun e => by have := HP0.out _ e; omega)
            clear HP0
            generalize hbx : wr.heap.size = bx at *
            clear hw1 hbx d0 d1 d2 d3 d4 d5
            have k3 : w1.cell? ⟨bx, 3, none⟩ = some (.slice mo xM.length mc) := zcell' _ _ _ _ HBx.out 3 _ rfl
            refine (shS_any so xL sc w1 (HRow.out.below HP1.out.pt.st.bel)).mono ?_
            rintro e w2 ⟨rfl, rfl⟩
            rcases hsh : shS xL with _ | _
            · go_wp2_with fail
              go_roundw
              case rel => exact ⟨k + 1, by omega, by go_num, Z, m, S, HP1.out⟩
              case measure => simp [intOf]; omega
            · obtain ⟨hl20, hlim⟩ := shS_lim hsh
              have HLim := hid hlim
              clear hsh hlim
              go_wp2_with fail
              refine (shM_any mo xM mc w2 (HMr.out.below HP1.out.pt.st.bel)).mono ?_
              rintro e w3 ⟨rfl, rfl⟩
              rcases hsm : shM xM with _ | _
              · go_wp2_with fail
                go_roundw
                case rel => exact ⟨k + 1, by omega, by go_num, Z, m, S, HP1.out⟩
                case measure => simp [intOf]; omega
              · obtain ⟨hm20, hms⟩ := shM_lim hsm
                have HMs := hid hms
                clear hsm hms
                go_wp2_with fail
                refine (rasked_any mo xM mc w3 (HMr.out.below HP1.out.pt.st.bel) (by omega) HMs.out).mono ?_
                rintro e w4 ⟨rfl, hb4⟩
                have HP4 := hid (HP1.out.below hb4)
                have HX4 := hid ((hb4.block bx (heap_lt HBx.out)).trans HBx.out)
                clear hb4 HP1 HBx k3
                rcases hask : LB.asked xM with _ | _
                · go_wp2_with fail
                  go_roundw
                  case rel => exact ⟨k + 1, by omega, by go_num, Z, m, S, HP4.out⟩
                  case measure => simp [intOf]; omega
                · have HOp := hid (fun i hi => asked_op hask i hi)
                  clear hask
                  have v0 : w4.cell? ⟨bx, 0, none⟩ = some (.int .i64 xw) := zcell' _ _ _ _ HX4.out 0 _ rfl
                  have HGd := hid HP4.out.good
                  have HRs' : Hid (∀ x ∈ xL, ∀ s ∈ x.2, CL.Rs s) := fun x hx => by
                    obtain ⟨k, hk, e⟩ := HD.mem_at hx
                    rw [← e]
                    exact HRs.out k hk
                  go_upto_block 4 with fail
                  go_cut [] (fun wx => ∃ (Z : Nat → Prop) (m : Int) (S : List Sr), PS w wx hb Bw Z m S)
                  case first =>
                    by_cases hx0 : xw = 0
                    · subst hx0
                      have HP5 := hid (HP4.out.pt.add (.cells #[.int .i64 0, .int .i64 0] 26))
                      have HF5 := hid (HP5.out.old HRow.out)
                      have HB5 := hid (heap_alloc_new w4 (.cells #[.int .i64 0, .int .i64 0] 26))
                      have hal : Below w4.heap.size w4 (w4.alloc (.cells #[.int .i64 0, .int .i64 0] 26)) := (Below.refl _ w4).alloc (Nat.le_refl _) _
                      have HX5 := hid ((hal.block bx (heap_lt HX4.out)).trans HX4.out)
                      have y1 : (w4.alloc (.cells #[.int .i64 0, .int .i64 0] 26)).cell? ⟨bx, 1, none⟩ = some (.slice so xL.length sc) := zcell' _ _ _ _ HX5.out 1 _ rfl
                      clear hal HP4
                      go_wp2_with fail
                      generalize w4.alloc (.cells #[.int .i64 0, .int .i64 0] 26) = w5 at HP5 HF5 HB5 HX5 y1 ⊢
                      generalize w4.heap.size = Bf at HP5 HF5 HB5 ⊢
                      refine (happend_any hb Z m S xL _ sc w5 HP5.out.st.hd HGd.out (HF5.out.less fun j hj => .inl hj) (by omega) (fun k hk => by have := HLim.out k hk; omega) HRs.out).mono ?_
                      rintro e w6 ⟨⟨ev, rfl, herr⟩, hd6, hf6⟩
                      have HP6 := hid (HP5.out.head hd6 hf6)
                      have HF6 := hid (HP5.out.out hf6 HF5.out)
                      have HB6 := hid ((hf6.block Bf (heap_lt HB5.out) (HP5.out.far Bf (.inr rfl)).2.2).trans HB5.out)
                      have HX6 := hid ((hf6.block bx (heap_lt HX5.out) HNz.out).trans HX5.out)
                      have HGd6 := hid (HD.app_good (mark := m) (l := xL) HGd.out HRs'.out)
                      have hev := herr.one
                      have HErr := hid herr
                      generalize wid Z w5 w6 = Z6 at *
                      clear hd6 hf6 herr HP5 HF5 HB5 y1 HX5
                      obtain ⟨aoR, capR, hbx, hsR⟩ := HP6.out.box
                      have HSR := hid hsR
                      have z0 : w6.cell? ⟨Bw, 0, none⟩ = some (.int .i64 m) := zcell' _ _ _ _ hbx 0 _ rfl
                      have z1 : w6.cell? ⟨Bw, 1, none⟩ = some (.slice aoR S.length capR) := zcell' _ _ _ _ hbx 1 _ rfl
                      have z2 : w6.cell? ⟨bx, 1, none⟩ = some (.slice so xL.length sc) := zcell' _ _ _ _ HX6.out 1 _ rfl
                      clear hbx hsR
                      go_wp2_with fail
                      refine (rapp_any aoR so S xL capR sc m (fun j => Z6 j ∨ (j = Bw ∨ j = Bf)) w6 HSR.out HGd.out HF6.out (by omega) (fun k hk => by have := HLim.out k hk; omega) HRs'.out (fun k hk => (HLim.out k hk).2.2) HP6.out.zlt (HF.out.below HP6.out.st.bel)).mono ?_
                      rintro e w7 ⟨ao7, cap7, rfl, hs7, hb7⟩
                      generalize HD.app m S xL = ap at *
                      have HP7 := hid (HP6.out.below hb7)
                      have HB7 := hid ((hb7.block Bf (heap_lt HB6.out)).trans HB6.out)
                      have HBo := hid (HP7.out.both (m3 := m) (cap := cap7) hs7 (.inr rfl) HB7.out (HErr.out.below hb7))
                      obtain ⟨aoQ, capQ, hbq, _⟩ := HP7.out.box
                      have q0 : w7.cell? ⟨Bw, 0, none⟩ = some (.int .i64 m) := zcell' _ _ _ _ hbq 0 _ rfl
                      have q1 : w7.cell? ⟨Bw, 1, none⟩ = some (.slice aoQ S.length capQ) := zcell' _ _ _ _ hbq 1 _ rfl
                      have q2 : w7.cell? ⟨Bf, 0, none⟩ = some (.int .i64 0) := zcell' _ _ _ _ HB7.out 0 _ rfl
                      have q3 : w7.cell? ⟨Bf, 1, none⟩ = some (.int .i64 0) := zcell' _ _ _ _ HB7.out 1 _ rfl
                      have p0 := hfz hbq 0
                      have p1 := hfz hbq 1
                      have p2 := hfz HB7.out 0
                      have p3 := hfz HB7.out 1
                      have hne : Bf ≠ Bw := fun e => by
                        have h1 := HB7.out
                        rw [e, hbq] at h1
                        simp at h1
                      have hne' : Bw ≠ Bf := fun e => hne e.symm
                      clear hs7 hb7 hbq HP6 HF6 HB6 HErr HSR z0 z1 z2 HP7 HB7 HX6
                      go_upto_region 24 with fail
                      generalize ((((w7.setCell ⟨Bw, 0, none⟩ (.int .i64 m)).setCell ⟨Bw, 1, none⟩ (.slice ao7 ap.2.length cap7)).setCell ⟨Bf, 0, none⟩ (.int .i64 ap.1.1)).setCell ⟨Bf, 1, none⟩ (.int .i64 ap.1.2)) = w8 at HBo ⊢
                      have k0 : w8.cell? ⟨Bf, 0, none⟩ = some (.int .i64 ap.1.1) := zcell' _ _ _ _ HBo.out.2.1 0 _ rfl
                      have k1 : w8.cell? ⟨Bf, 1, none⟩ = some (.int .i64 ap.1.2) := zcell' _ _ _ _ HBo.out.2.1 1 _ rfl
                      clear q0 q1 q2 q3 p0 p1 p2 p3 hne hne' hev
                      go_wp2_with fail
                      refine (is_any ap.1 ev w8 HBo.out.2.2 (HE.out.below HBo.out.1.st.bel HE.out.lt)).mono ?_
                      rintro e w9 ⟨rfl, hb9⟩
                      have HP9 := hid (PS.mk ((HBo.out.1.less (V' := fun j => j = Bw) (fun j hj => .inl hj) rfl).below hb9) HGd6.out)
                      clear hb9 HBo k0 k1
                      go_wp2_with fail
                      go_meet
                      case rel => exact ⟨Z6, m, ap.2, HP9.out⟩
                    by_cases hx1 : xw = 1
                    · subst hx1
                      have HX := hid HX4.out
                      obtain ⟨aoR, capR, hbx, hsR⟩ := HP4.out.pt.box
                      have z0 : w4.cell? ⟨Bw, 0, none⟩ = some (.int .i64 m) := zcell' _ _ _ _ hbx 0 _ rfl
                      have z1 : w4.cell? ⟨Bw, 1, none⟩ = some (.slice aoR S.length capR) := zcell' _ _ _ _ hbx 1 _ rfl
                      have HPa := hid (part_any aoR S capR 19 #[.pointer (some ⟨bx, 0, none⟩)] (fun _ s => decide (s ≤ xt)) (fun j => Z j ∨ j = Bw) w4 hsR (by have := HGd.out.few; omega) (fun k hk => by have := (good_few HGd.out).2 k hk; have h2 := right_le (HGd.out.ok _ (HD.at_mem S k hk)).2.1; have h1 := right_len (HGd.out.ok _ (HD.at_mem S k hk)).1; omega) (enters_of Tryz.func19 (by kernel_rfl) rfl) (fun W hW lo L lc t _ _ => plays1_any _ t xt bx W (zcell' _ _ _ _ ((hW.block bx (heap_lt HX4.out)).trans HX4.out) 2 _ rfl)))
                      clear hbx hsR
                      go_wp2_with fail
                      refine HPa.out.mono ?_
                      rintro e w5 ⟨vy, vn, rfl, xy, xn, hpb⟩
                      obtain ⟨aY, cY, eY, hY⟩ := hpb.yes.out HP4.out.pt.zlt
                      obtain ⟨aN, cN, eN, hN⟩ := hpb.no.out HP4.out.pt.zlt
                      subst eY eN
                      have hb5 := hpb.yes.bel
                      have HP5 := hid (HP4.out.pt.below hb5)
                      have HX5 := hid ((hb5.block bx (heap_lt HX4.out)).trans HX4.out)
                      have HGA := hid (HD.kp_good (p := fun _ s => decide (s ≤ xt)) HGd.out)
                      have HGB := hid (HD.kp_good (p := fun L t => !(fun (_ : List LB.Lab) (s : Int) => decide (s ≤ xt)) L t) HGd.out)
                      have HTk : Hid (∀ W Z, HdI W hb Z m S → Calls Tryz.prog 20 #[.pointer (some ⟨hb, 0, none⟩), .int .i64 xt] W fun e w' => TakeEnd hb Z (max m xt) S (fun _ s => decide (s ≤ xt)) W e w') := fun W Z hI => cut_any hb Z m xt S W hI HGd.out
                      unfold TakeEnd at HTk
                      generalize HD.kp (fun _ s => decide (s ≤ xt)) S = SA at *
                      generalize HD.kp (fun L t => !(fun (_ : List LB.Lab) (s : Int) => decide (s ≤ xt)) L t) S = SB' at *
                      obtain ⟨aoQ, capQ, hbq, _⟩ := HP5.out.box
                      have q0 : w5.cell? ⟨Bw, 0, none⟩ = some (.int .i64 m) := zcell' _ _ _ _ hbq 0 _ rfl
                      have q1 : w5.cell? ⟨Bw, 1, none⟩ = some (.slice aoQ S.length capQ) := zcell' _ _ _ _ hbq 1 _ rfl
                      have q2 : w5.cell? ⟨bx, 2, none⟩ = some (.int .i64 xt) := zcell' _ _ _ _ HX5.out 2 _ rfl
                      have p0 := hfz hbq 0
                      have p1 := hfz hbq 1
                      have HP6 := hid (HP5.out.put2 (m3 := max m xt) (cap := cN) hN)
                      have HY6 := hid ((hY.kept (ZFr.set _ w5 Bw 0 (.int .i64 (max m xt)) (.inr rfl))).kept (ZFr.set _ _ Bw 1 (.slice aN SB'.length cN) (.inr rfl)))
                      have hk0 := KFr.set hbq 0 (.int .i64 (max m xt))
                      have HX6 := hid (KFr.set (heap_setCell_same _ _ 0 _ _ (.int .i64 (max m xt)) hbq) 1 (.slice aN SB'.length cN) _ _ _ (hk0 _ _ _ HX5.out (by decide)) (by decide))
                      clear hpb hY hN hb5 HPa hbq hk0 HX
                      go_upto_region 29 with fail
                      have hmx : (if m < xt then xt else m) = max m xt := by rw [Int.max_def]; split <;> split <;> omega
                      rw [hmx]
                      generalize hm2 : max m xt = mx at *
                      clear hmx hm2
                      generalize ((w5.setCell ⟨Bw, 0, none⟩ (.int .i64 mx)).setCell ⟨Bw, 1, none⟩ (.slice aN SB'.length cN)) = w6 at HP6 HY6 HX6 ⊢
                      have r2 : w6.cell? ⟨bx, 2, none⟩ = some (.int .i64 xt) := zcell' _ _ _ _ HX6.out 2 _ rfl
                      clear q0 q1 q2 p0 p1 z0 z1
                      go_wp2_with fail
                      refine (HTk.out w6 Z HP6.out.st.hd).mono ?_
                      rintro e w7 ⟨⟨v7, xs7, rfl, hsb⟩, hd7, hf7⟩
                      have HP7 := hid (HP6.out.head hd7 hf7)
                      have HY7 := hid (HY6.out.kept (hf7.more fun j hj => .inl hj))
                      obtain ⟨a7, c7, e7, hr7⟩ := SrRow.of_own hsb.own
                      subst e7
                      have HSm := hid (sameSr_any a7 aY SA c7 cY w7 hr7 HY7.out.row (good_few HGA.out))
                      generalize wid Z w6 w7 = Z7 at *
                      clear hsb hd7 hf7 hr7 r2 HP6 HY6 HX6 HTk
                      go_wp2_with fail
                      refine HSm.out.mono ?_
                      rintro e w8 ⟨rfl, n8, rfl⟩
                      have HP8 := hid (PS.mk (HP7.out.below (drawnN_below w7 n8)) HGB.out)
                      clear HSm HP7 HY7
                      go_wp2_with fail
                      go_meet
                      case rel => exact ⟨Z7, mx, SB', HP8.out⟩
                    by_cases hx2 : xw = 2
                    · subst hx2
                      obtain ⟨aoR, capR, hbx, hsR⟩ := HP4.out.pt.box
                      have HSR := hid hsR
                      have HBq := hid hbx
                      have HGG := hid (HD.kp_good (p := fun L t => !goP xM (fun s => decide (xf ≤ s) && decide (s ≤ xe)) L t) HGd.out)
                      have HTk : Hid (∀ W Z, HdI W hb Z m S → MRow W mo xM → Calls Tryz.prog 22 #[.pointer (some ⟨hb, 0, none⟩), .agg #[.slice mo xM.length mc, .int .i64 xf, .int .i64 xe]] W fun e w' => e = .returned (.tuple #[]) ∧ HdI w' hb (wid Z W w') m (HD.kp (fun L t => !goP xM (fun s => decide (xf ≤ s) && decide (s ≤ xe)) L t) S) ∧ ZFr Z W w') := fun W Z hI hM => (gone_any hb Z m xf xe S mo xM mc W hI HGd.out hM (by omega)).mono fun e w' h => by
                        obtain ⟨h1, e2, _, h2, h3⟩ := h
                        exact ⟨h1, h2, h3⟩
                      clear hbx hsR
                      generalize hSG : HD.kp (fun L t => !goP xM (fun s => decide (xf ≤ s) && decide (s ≤ xe)) L t) S = SG at *
                      go_upto_region 32 with fail
                      refine TL.wp_told [131, 132, 133, 134, 135, 136, 130, 137, 138, 139] (fun L W => (L 10 = false → Below w4.heap.size w4 W) ∧ (L 10 = true → PT w W hb Bw Z (fun j => j = Bw) m m S SG ∧ W.heap[bx]? = some (.cells #[.int .i64 2, .slice so xL.length sc, .int .i64 xt, .slice mo xM.length mc, .int .i64 xf, .int .i64 xe] 63))) (T32 Bw bx (fun j => Z j ∨ j = Bw) (.slice aoR S.length capR) #[.slice mo xM.length mc, .int .i64 xf, .int .i64 xe] SG) rfl (by kernel_rfl) (by kernel_rfl) 157 rfl (by kernel_rfl) ⟨fun _ => (Below.refl _ w4).drew, fun e => (by cases e)⟩ (TL.ix_cons ?_ (TL.ix_cons ?_ (TL.ix_cons ?_ (TL.ix_cons ?_ (TL.ix_cons ?_ (TL.ix_cons ?_ (TL.ix_cons ?_ (TL.ix_cons ?_ (TL.ix_cons ?_ (TL.ix_cons ?_ (TL.ix_cons ?_ TL.ix_nil))))))))))) ?_
                      · intro L a W hL hbeh hcl hlike hC hdep
                        have h10 : L 10 = false := TL.undone hcl 12 10 0 (by kernel_rfl) hL
                        have hb4 := hC.1 h10
                        exact TL.Does.field rfl (hlike.keeps 8 (by kernel_rfl)) (fa1_head W _) ⟨⟨fun _ => hb4, fun e => (by have e' : L 10 = true := e; rw [h10] at e'; cases e')⟩, fun _ => rfl, fun j hj _ ht => ht.below rfl (Below.refl _ _)⟩
                      · intro L a W hL hbeh hcl hlike hC hdep
                        have h10 : L 10 = false := TL.undone hcl 12 10 1 (by kernel_rfl) hL
                        have hb4 := hC.1 h10
                        exact TL.Does.load rfl ((hdep 0 (by kernel_rfl)).2 h10) (ld_series _ _ _ _ _ W ((hb4.cell (p := ⟨Bw, 1, none⟩) (heap_lt HBq.out)).trans (zcell' _ _ _ _ HBq.out 1 _ rfl))) ⟨⟨fun _ => hb4, fun e => (by have e' : L 10 = true := e; rw [h10] at e'; cases e')⟩, fun _ => rfl, fun j hj _ ht => ht.below rfl (Below.refl _ _)⟩
                      · intro L a W hL hbeh hcl hlike hC hdep
                        have h10 : L 10 = false := TL.undone hcl 12 10 2 (by kernel_rfl) hL
                        have hb4 := hC.1 h10
                        exact TL.Does.field rfl (hlike.keeps 14 (by kernel_rfl)) (fa3_turn W _) ⟨⟨fun _ => hb4, fun e => (by have e' : L 10 = true := e; rw [h10] at e'; cases e')⟩, fun _ => rfl, fun j hj _ ht => ht.below rfl (Below.refl _ _)⟩
                      · intro L a W hL hbeh hcl hlike hC hdep
                        have h10 : L 10 = false := TL.undone hcl 12 10 3 (by kernel_rfl) hL
                        have hb4 := hC.1 h10
                        have hX := (hb4.block bx (heap_lt HX4.out)).trans HX4.out
                        exact TL.Does.load rfl ((hdep 2 (by kernel_rfl)).2 h10) (ld_gone bx 3 mo xM.length mc xf xe W (zcell' _ _ _ _ hX 3 _ rfl) (zcell' _ _ _ _ hX 4 _ rfl) (zcell' _ _ _ _ hX 5 _ rfl)) ⟨⟨fun _ => hb4, fun e => (by have e' : L 10 = true := e; rw [h10] at e'; cases e')⟩, fun _ => rfl, fun j hj _ ht => ht.below rfl (Below.refl _ _)⟩
                      · intro L a W hL hbeh hcl hlike hC hdep
                        have h10 : L 10 = false := TL.undone hcl 12 10 4 (by kernel_rfl) hL
                        have hb4 := hC.1 h10
                        have e3 : a.eval (.tmp 134) = .agg #[.slice mo xM.length mc, .int .i64 xf, .int .i64 xe] := ((hdep 3 (by kernel_rfl)).2 h10)
                        refine TL.Does.call (f := 21) (args := #[a.eval (.tmp 134)]) (by kernel_rfl) ?_
                        rw [e3]
                        refine (goes_any mo xM.length mc xf xe W).mono ?_
                        rintro e W' ⟨rfl, rfl⟩
                        have hal : Below W.heap.size W (W.alloc (.cells #[.slice mo xM.length mc, .int .i64 xf, .int .i64 xe] 61)) := (Below.refl _ W).alloc (Nat.le_refl _) _
                        exact ⟨_, rfl, ⟨fun _ => bel2 hb4 hal, fun e => (by have e' : L 10 = true := e; rw [h10] at e'; cases e')⟩, fun _ => ⟨W.heap.size, rfl, heap_alloc_new W _⟩, fun j hj _ ht => ht.below rfl hal⟩
                      · intro L a W hL hbeh hcl hlike hC hdep
                        have h10 : L 10 = false := TL.undone hcl 12 10 5 (by kernel_rfl) hL
                        have hb4 := hC.1 h10
                        have e1 : a.eval (.tmp 132) = .slice aoR S.length capR := ((hdep 1 (by kernel_rfl)).2 h10)
                        obtain ⟨BB, e4, hBB⟩ := ((hdep 4 (by kernel_rfl)).2 h10)
                        have e4' : a.eval (.tmp 135) = .func (.func 57) #[] #[.pointer (some ⟨BB, 0, none⟩)] := e4
                        refine TL.Does.call (f := 18) (args := #[a.eval (.tmp 132), a.eval (.tmp 135)]) (by kernel_rfl) ?_
                        rw [e1, e4']
                        refine (part_any aoR S capR 57 #[.pointer (some ⟨BB, 0, none⟩)] (goP xM fun s => decide (xf ≤ s) && decide (s ≤ xe)) (fun j => Z j ∨ j = Bw) W (HSR.out.kept (ZFr.below hb4)) (by have := HGd.out.few; omega) (fun k hk => by have h2 := right_le (HGd.out.ok _ (HD.at_mem S k hk)).2.1; have h1 := right_len (HGd.out.ok _ (HD.at_mem S k hk)).1; omega) (enters_of Tryz.func57 (by kernel_rfl) rfl) (fun W' hW' lo LL lc t hLr hLl => goes1_any lo mo LL xM lc mc t xf xe BB W' ((hW'.block BB (heap_lt hBB)).trans hBB) hLr (HMr.out.below (bel2 (bel2 HP4.out.pt.st.bel hb4) hW')) hLl (by omega) HOp.out)).mono ?_
                        rintro e W' ⟨vy, vn, rfl, xy, xn, hpb⟩
                        rw [hSG] at hpb
                        obtain ⟨aN, cN, eN, hN⟩ := hpb.no.out (fun j hj => Nat.lt_of_lt_of_le (HP4.out.pt.zlt j hj) hb4.size)
                        subst eN
                        exact ⟨_, rfl, ⟨fun _ => bel2 hb4 hpb.no.bel, fun e => (by have e' : L 10 = true := e; rw [h10] at e'; cases e')⟩, fun _ => ⟨vy, aN, cN, rfl, hN⟩, fun j hj _ ht => ht.below rfl hpb.no.bel⟩
                      · intro L a W hL hbeh hcl hlike hC hdep
                        have h10 : L 10 = false := TL.undone hcl 12 10 6 (by kernel_rfl) hL
                        have hb4 := hC.1 h10
                        obtain ⟨vy, aN, cN, e5, hN⟩ := ((hdep 5 (by kernel_rfl)).2 h10)
                        exact TL.Does.move rfl e5 ⟨⟨fun _ => hb4, fun e => (by have e' : L 10 = true := e; rw [h10] at e'; cases e')⟩, fun _ => ⟨vy, aN, cN, rfl, hN⟩, fun j hj _ ht => ht.below rfl (Below.refl _ _)⟩
                      · intro L a W hL hbeh hcl hlike hC hdep
                        have h10 : L 10 = false := TL.undone hcl 12 10 7 (by kernel_rfl) hL
                        have hb4 := hC.1 h10
                        obtain ⟨vy, aN, cN, e6, hN⟩ := ((hdep 6 (by kernel_rfl)).2 h10)
                        exact TL.Does.extract rfl e6 (v := vy) (by simp [Instr.extract]) ⟨⟨fun _ => hb4, fun e => (by have e' : L 10 = true := e; rw [h10] at e'; cases e')⟩, fun _ => trivial, fun j hj _ ht => ht.below rfl (Below.refl _ _)⟩
                      · intro L a W hL hbeh hcl hlike hC hdep
                        have h10 : L 10 = false := TL.undone hcl 12 10 8 (by kernel_rfl) hL
                        have hb4 := hC.1 h10
                        obtain ⟨vy, aN, cN, e6, hN⟩ := ((hdep 6 (by kernel_rfl)).2 h10)
                        exact TL.Does.extract rfl e6 (v := .slice aN SG.length cN) (by simp [Instr.extract]) ⟨⟨fun _ => hb4, fun e => (by have e' : L 10 = true := e; rw [h10] at e'; cases e')⟩, fun _ => ⟨aN, cN, rfl, hN⟩, fun j hj _ ht => ht.below rfl (Below.refl _ _)⟩
                      · intro L a W hL hbeh hcl hlike hC hdep
                        have h10 : L 10 = false := TL.undone hcl 12 10 9 (by kernel_rfl) hL
                        have hb4 := hC.1 h10
                        exact TL.Does.field rfl (hlike.keeps 8 (by kernel_rfl)) (fa1_head W _) ⟨⟨fun _ => hb4, fun e => (by have e' : L 10 = true := e; rw [h10] at e'; cases e')⟩, fun _ => rfl, fun j hj _ ht => ht.below rfl (Below.refl _ _)⟩
                      · intro L a W hL hbeh hcl hlike hC hdep
                        have h10 : L 10 = false := hL
                        have hb4 := hC.1 h10
                        obtain ⟨aN, cN, e8, hN⟩ := ((hdep 8 (by kernel_rfl)).2 h10)
                        have hQ := (hb4.block Bw (heap_lt HBq.out)).trans HBq.out
                        refine TL.Does.store rfl ((hdep 9 (by kernel_rfl)).2 h10) e8 (st_series Bw 1 _ aN _ cN W (zcell' _ _ _ _ hQ 1 _ rfl) (hfz hQ 1)) ⟨⟨fun e => (by simp [TL.upd] at e), fun _ => ⟨(HP4.out.pt.below hb4).put1 (cap := cN) hN, ?_⟩⟩, fun _ => trivial, fun j hj _ _ e => (by simp [TL.upd] at e)⟩
                        exact KFr.set hQ 1 _ _ _ _ ((hb4.block bx (heap_lt HX4.out)).trans HX4.out) (by decide)
                      · intro L f W hL hC hT
                        obtain ⟨hPn, hXn⟩ := hC.2 (hL 10 (by decide))
                        have HPn := hid hPn
                        have n3 : W.cell? ⟨bx, 3, none⟩ = some (.slice mo xM.length mc) := zcell' _ _ _ _ hXn 3 _ rfl
                        have n4 : W.cell? ⟨bx, 4, none⟩ = some (.int .i64 xf) := zcell' _ _ _ _ hXn 4 _ rfl
                        have n5 : W.cell? ⟨bx, 5, none⟩ = some (.int .i64 xe) := zcell' _ _ _ _ hXn 5 _ rfl
                        clear hT hL hC hPn hXn HSR HBq
                        simp only [TL.puts]
                        go_frame
                        generalize f 130 = g130
                        generalize f 131 = g131
                        generalize f 132 = g132
                        generalize f 133 = g133
                        generalize f 134 = g134
                        generalize f 135 = g135
                        generalize f 136 = g136
                        generalize f 137 = g137
                        generalize f 138 = g138
                        generalize f 139 = g139
                        go_wp2_with fail
                        refine (HTk.out W Z HPn.out.st.hd (HMr.out.below HPn.out.st.bel)).mono ?_
                        rintro e w7 ⟨rfl, hd7, hf7⟩
                        have HP7 := hid (PS.mk (HPn.out.head hd7 hf7) HGG.out)
                        clear hd7 hf7 HPn HTk n3 n4 n5
                        go_wp2_with fail
                        go_meet
                        case rel => exact ⟨_, m, SG, HP7.out⟩
                    go_wp2_with fail
                    go_meet
                    case rel => exact ⟨Z, m, S, HP4.out⟩
                  case rest =>
                    obtain ⟨Z', m', S', hps'⟩ := hcut
                    have HP5 := hid hps'
                    clear hps' HP4 HX4 HGd v0
                    obtain ⟨aoR, capR, hbx, hsR⟩ := HP5.out.pt.box
                    have HSR := hid hsR
                    have HBq := hid hbx
                    clear hbx hsR
                    go_upto_region 34 with fail
                    refine TL.wp_toldG [144, 145, 146, 147, 148, 149, 150, 151, 152, 153, 154, 155, 156] (fun _ W => Below wc.heap.size wc W) (T34 hb Bw m' (.slice aoR S'.length capR) S') rfl (by kernel_rfl) (by kernel_rfl) (fun i o k b hi hg L W v hT => (by obtain ⟨rfl, rfl⟩ := TL.guards 5 false (by kernel_rfl) hi hg; exact hT)) 157 rfl (by kernel_rfl) (Below.refl _ wc).drew (TL.ix_cons ?_ (TL.ix_cons ?_ (TL.ix_cons ?_ (TL.ix_cons ?_ (TL.ix_cons ?_ (TL.ix_cons ?_ (TL.ix_cons ?_ (TL.ix_cons ?_ (TL.ix_cons ?_ (TL.ix_cons ?_ (TL.ix_cons ?_ (TL.ix_cons ?_ (TL.ix_cons ?_ TL.ix_nil))))))))))))) ?_
                    · intro L a W hL hbeh hcl hlike hC hdep
                      exact TL.Does.move (u := .pointer (some ⟨hb, 0, none⟩)) rfl (hlike.keeps 7 (by kernel_rfl)) ⟨hC, rfl, fun j hj _ ht => ht.below (Below.refl _ _)⟩
                    · intro L a W hL hbeh hcl hlike hC hdep
                      have e0 : a.eval (.tmp 144) = .pointer (some ⟨hb, 0, none⟩) := (hdep 0 (by kernel_rfl)).2
                      obtain ⟨vb, hvb⟩ := (HP5.out.pt.st.below hC).box
                      refine TL.Does.call (f := 23) (args := #[a.eval (.tmp 144)]) (by kernel_rfl) ?_
                      rw [e0]
                      refine (hmark_any hb m' vb W hvb).mono ?_
                      rintro e W' ⟨rfl, rfl⟩
                      exact ⟨_, rfl, hC, rfl, fun j hj _ ht => ht.below (Below.refl _ _)⟩
                    · intro L a W hL hbeh hcl hlike hC hdep
                      exact TL.Does.field rfl (hlike.keeps 8 (by kernel_rfl)) (fa0_head W _) ⟨hC, rfl, fun j hj _ ht => ht.below (Below.refl _ _)⟩
                    · intro L a W hL hbeh hcl hlike hC hdep
                      exact TL.Does.load rfl (hdep 2 (by kernel_rfl)).2 (ld_int _ _ _ W ((hC.cell (p := ⟨Bw, 0, none⟩) (heap_lt HBq.out)).trans (zcell' _ _ _ _ HBq.out 0 _ rfl))) ⟨hC, rfl, fun j hj _ ht => ht.below (Below.refl _ _)⟩
                    · intro L a W hL hbeh hcl hlike hC hdep
                      exact TL.Does.bin rfl (hdep 1 (by kernel_rfl)).2 (hdep 3 (by kernel_rfl)).2 (neq_guard _ _ _ _ W) (neq_self _ W) ⟨hC, rfl, fun j hj _ ht => ht.below (Below.refl _ _)⟩
                    · intro L a W hL hbeh hcl hlike hC hdep
                      exact TL.Does.move rfl (hdep 4 (by kernel_rfl)).2 ⟨hC, rfl, fun j hj _ ht => ht.below (Below.refl _ _)⟩
                    · intro L a W hL hbeh hcl hlike hC hdep
                      exact TL.Does.move (u := .pointer (some ⟨hb, 0, none⟩)) rfl (hlike.keeps 7 (by kernel_rfl)) ⟨hC, rfl, fun j hj _ ht => ht.below (Below.refl _ _)⟩
                    · intro L a W hL hbeh hcl hlike hC hdep
                      have e6 : a.eval (.tmp 150) = .pointer (some ⟨hb, 0, none⟩) := (hdep 6 (by kernel_rfl)).2
                      refine TL.Does.call (f := 24) (args := #[a.eval (.tmp 150)]) (by kernel_rfl) ?_
                      rw [e6]
                      refine (series_any hb Z' m' S' W (HP5.out.pt.st.below hC).hd HP5.out.good).mono ?_
                      rintro e W' ⟨v7, rfl, ho7, hb7⟩
                      obtain ⟨a7, c7, e7, hr7⟩ := SrRow.of_own ho7
                      exact ⟨_, rfl, bel2 hC hb7, ⟨a7, c7, e7, hr7⟩, fun j hj _ ht => ht.below hb7⟩
                    · intro L a W hL hbeh hcl hlike hC hdep
                      exact TL.Does.field rfl (hlike.keeps 8 (by kernel_rfl)) (fa1_head W _) ⟨hC, rfl, fun j hj _ ht => ht.below (Below.refl _ _)⟩
                    · intro L a W hL hbeh hcl hlike hC hdep
                      exact TL.Does.load rfl (hdep 8 (by kernel_rfl)).2 (ld_series _ _ _ _ _ W ((hC.cell (p := ⟨Bw, 1, none⟩) (heap_lt HBq.out)).trans (zcell' _ _ _ _ HBq.out 1 _ rfl))) ⟨hC, rfl, fun j hj _ ht => ht.below (Below.refl _ _)⟩
                    · intro L a W hL hbeh hcl hlike hC hdep
                      obtain ⟨a7, c7, e7, hr7⟩ := (hdep 7 (by kernel_rfl)).2
                      have e7' : a.eval (.tmp 151) = .slice a7 S'.length c7 := e7
                      have e9 : a.eval (.tmp 153) = .slice aoR S'.length capR := (hdep 9 (by kernel_rfl)).2
                      refine TL.Does.call (f := 12) (args := #[a.eval (.tmp 151), a.eval (.tmp 153)]) (by kernel_rfl) ?_
                      rw [e7', e9]
                      refine (sameSr_any a7 aoR S' c7 capR W hr7 (HSR.out.kept (ZFr.below hC)).row (good_few HP5.out.good)).mono ?_
                      rintro e W' ⟨rfl, n8, rfl⟩
                      exact ⟨_, rfl, bel2 hC (drawnN_below W n8), rfl, fun j hj _ ht => ht.below (drawnN_below W n8)⟩
                    · intro L a W hL hbeh hcl hlike hC hdep
                      exact TL.Does.un rfl (hdep 10 (by kernel_rfl)).2 (v := .bool false) (by simp [Op.unary]) ⟨hC, rfl, fun j hj _ ht => ht.below (Below.refl _ _)⟩
                    · intro L a W hL hbeh hcl hlike hC hdep
                      have e11 : a.eval (.tmp 155) = .bool false := (hdep 11 (by kernel_rfl)).2
                      exact TL.Does.pick (u := .bool false) rfl (hdep 5 (by kernel_rfl)).2 (by simp [e11]) ⟨hC, rfl, fun j hj _ ht => ht.below (Below.refl _ _)⟩
                    · intro L f W hL hC hT
                      have e12 : f 156 = .bool false := hT 12 (by decide)
                      have HP6 := hid (HP5.out.below hC)
                      clear hT hL hC HSR HBq HP5
                      simp only [TL.puts]
                      rw [e12]
                      go_frame
                      generalize f 144 = g144
                      generalize f 145 = g145
                      generalize f 146 = g146
                      generalize f 147 = g147
                      generalize f 148 = g148
                      generalize f 149 = g149
                      generalize f 150 = g150
                      generalize f 151 = g151
                      generalize f 152 = g152
                      generalize f 153 = g153
                      generalize f 154 = g154
                      generalize f 155 = g155
                      clear e12
                      go_wp2_with fail
                      go_roundw
                      case rel => exact ⟨k + 1, by omega, by go_num, Z', m', S', HP6.out⟩
                      case measure => simp [intOf]; omega
          · have he : k = l.length := by omega
            subst he
            go_wp2_with fail
            go_ret
            exact ⟨rfl, HP.out.pt.st.bel⟩

end Go.Proofs.YtdmnlmohfaafoadGreatDoor

