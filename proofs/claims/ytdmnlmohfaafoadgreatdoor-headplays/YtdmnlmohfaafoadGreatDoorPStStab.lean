/- sort's symMerge_func over any two closures that compare and exchange. Blocks in order, and what merging them by twos makes of them, plain. -/
import Derived.Test.YtdmnlmohfaafoadGreatDoorPStIns
import Derived.Deep.DeepCutAuto
namespace Go.Proofs.YtdmnlmohfaafoadGreatDoor
open Go.RowKit

section
variable {α : Type} {lt : α → α → Bool} {n B : Nat} {X : Nat → Prop} {St : World → (Nat → α) → Prop} {gl : Nat} {lb : Array Value} {gs : Nat} {sb : Array Value}

/-- What merging leaves. -/
def SymEnd (lt : α → α → Bool) (X : Nat → Prop) (St : World → (Nat → α) → Prop) (a b : Nat) (d : Nat → α) (w : World) (e : Ending) (w' : World) : Prop := e = .returned (.tuple #[]) ∧ (∃ f, St w' f ∧ ST.Sw a b d f ∧ ST.Asc lt f a b) ∧ SFr X w w'

set_option maxRecDepth 100000 in
set_option maxHeartbeats 1600000 in
theorem symUp_any (S : Srt Tryz.prog lt n B X St gl lb gs sb) (hw : ST.Weak lt) (hn : n ≤ 1000000) (a b : Nat) (d : Nat → α) (w : World) (hB : B ≤ w.heap.size) (hS : St w d) (hab : a + 1 < b) (hb : b ≤ n) (h2 : ST.Asc lt d (a + 1) b) :
    Calls Tryz.prog 155 #[lsV gl lb gs sb, .int .i64 a, .int .i64 ((a + 1 : Nat) : Int), .int .i64 b] w fun e w' => SymEnd lt X St a b d w e w' := by
  have hbox : Below w.heap.size w (w.alloc (.cells #[.func (.func gl) #[] lb, .func (.func gs) #[] sb] 193)) := (Below.refl _ w).alloc (Nat.le_refl _) _
  have HS0 := sthid (S.kept _ _ _ hS hbox)
  have HF0 := sthid (SFr.below (X := X) hbox)
  have HX0 := sthid (heap_alloc_new w (.cells #[.func (.func gl) #[] lb, .func (.func gs) #[] sb] 193))
  have HSr := sthid S
  have HWk := sthid hw
  have H2 := sthid h2
  have el := S.el
  have hXw : ¬ X w.heap.size := fun h => by have := S.low _ h; omega
  clear hS hbox S hw h2
  obtain ⟨m, hm⟩ : ∃ m, a + 1 = m := ⟨_, rfl⟩
  rw [hm]
  have hone : IntKind.i64.wrap ((m : Int) - a) = 1 := by rw [IntKind.wrap_i64]; omega
  have hm1 : (m : Int) - a ≤ 1 ∧ 1 ≤ (m : Int) - a := by omega
  have HM := sthid hm
  go_enter Tryz.func155, Tryz.ntmps155
  go_wp2_with fail
  go_loopw [8, 9, 10] (fun ti tj _ wr => ∃ i j : Nat, m ≤ i ∧ i ≤ j ∧ j ≤ b ∧ ti = .int .i64 i ∧ tj = .int .i64 j ∧ (m < i → lt (d (i - 1)) (d a) = true) ∧ (j < b → lt (d j) (d a) = false) ∧ St wr d ∧ SFr X w wr ∧ wr.heap[w.heap.size]? = some (.cells #[.func (.func gl) #[] lb, .func (.func gs) #[] sb] 193)) (fun ti tj _ _ => (intOf tj).toNat - (intOf ti).toNat)
  case atStart => exact ⟨m, b, Nat.le_refl _, by omega, Nat.le_refl _, rfl, rfl, (fun h => by omega), (fun h => by omega), HS0.out, HF0.out, HX0.out⟩
  case round =>
    obtain ⟨i, j, hmi, hij, hjb, rfl, rfl, hL, hR, hSt, hfr, hx⟩ := hrel
    have y0 : wr.cell? ⟨w.heap.size, 0, none⟩ = some (.func (.func gl) #[] lb) := by simp [World.cell?, hx]
    have hsz := hfr.size
    have hsz2 : w.heap.size < wr.heap.size := (Array.getElem?_eq_some_iff.1 hx).1
    have HL := sthid hL
    have HR := sthid hR
    have HSt := sthid hSt
    have HFr := sthid hfr
    have HX := sthid hx
    clear hL hR hSt hfr hx HS0 HF0 HX0
    by_cases hlt : i < j
    · obtain ⟨hh, hh1, hh2, hh3⟩ : ∃ hh : Nat, ((i : Int) + j) / 2 = (hh : Int) ∧ i ≤ hh ∧ hh < j := ⟨(i + j) / 2, by omega, by omega, by omega⟩
      have hu : IntKind.u64.wrap ((i : Int) + j) = (i : Int) + j := by rw [IntKind.wrap_u64]; omega
      have hwi : IntKind.i64.wrap (hh : Int) = hh := by rw [IntKind.wrap_i64]; omega
      have HC := sthid (HSr.out.less wr d hh a (by omega) HSt.out (by omega) (by omega))
      go_wp2_with fail
      refine HC.out.mono ?_
      rintro en w2 ⟨rfl, h1, h2⟩
      have HS2 := sthid h1
      have HF2 := sthid (HFr.out.trans h2)
      have HX2 := sthid ((h2.block w.heap.size hsz2 hXw).trans HX.out)
      clear h1 h2 HC
      cases hq : lt (d hh) (d a) with
      | true =>
        have HQ := sthid hq
        clear hq hh1 hu
        go_wp2_with fail
        go_roundw
        case rel => exact ⟨hh + 1, j, by omega, by omega, hjb, by go_num, rfl, (fun _ => HQ.out), HR.out, HS2.out, HF2.out, HX2.out⟩
        case measure => simp [intOf]; omega
      | false =>
        have HQ := sthid hq
        clear hq hh1 hu
        go_wp2_with fail
        go_roundw
        case rel => exact ⟨i, hh, hmi, by omega, by omega, rfl, by go_num, HL.out, (fun _ => HQ.out), HS2.out, HF2.out, HX2.out⟩
        case measure => simp [intOf]; omega
    · have hije : i = j := by omega
      subst hije
      have HAs : Hid (ST.Asc lt (ST.rot d a (a + 1) i) a b) := ST.ins_up HWk.out H2.out (by omega) hjb (fun h => HL.out (by omega)) HR.out
      go_wp2_with fail
      go_loopw [11] (fun tk wr => ∃ k : Nat, a ≤ k ∧ k + 1 ≤ i ∧ tk = .int .i64 k ∧ ST.Sw a b d (ST.rot d a (a + 1) (k + 1)) ∧ St wr (ST.rot d a (a + 1) (k + 1)) ∧ SFr X w wr ∧ wr.heap[w.heap.size]? = some (.cells #[.func (.func gl) #[] lb, .func (.func gs) #[] sb] 193)) (fun tk _ => i - (intOf tk).toNat)
      case atStart =>
        have e0 : ST.rot d a (a + 1) (a + 1) = d := ST.rot_self d a (a + 1) (Nat.le_succ a)
        exact ⟨a, Nat.le_refl _, by omega, rfl, by rw [e0]; exact .refl _, by rw [e0]; exact HSt.out, HFr.out, HX.out⟩
      case round =>
        obtain ⟨k, hak, hki, rfl, hsw, hSt, hfr, hx⟩ := hrel
        have y1 : wr.cell? ⟨w.heap.size, 1, none⟩ = some (.func (.func gs) #[] sb) := by simp [World.cell?, hx]
        have hsz3 := hfr.size
        have hsz4 : w.heap.size < wr.heap.size := (Array.getElem?_eq_some_iff.1 hx).1
        have HSw := sthid hsw
        have HSt3 := sthid hSt
        have HFr3 := sthid hfr
        have HX3 := sthid hx
        clear hsw hSt hfr hx
        by_cases hgo : k + 1 < i
        · have hgo' : (k : Int) < (i : Int) - 1 := by omega
          have HC := HSr.out.swap wr _ k (k + 1) (by omega) HSt3.out (by omega) (by omega)
          rw [ST.mv_up d a k hak] at HC
          have e1 : ((k + 1 : Nat) : Int) = (k : Int) + 1 := by omega
          rw [e1] at HC
          have HC := sthid HC
          have HSw3 : Hid (ST.Sw a b d (ST.rot d a (a + 1) (k + 2))) := by
            show ST.Sw _ _ _ _
            rw [← ST.mv_up d a k hak]
            exact .step k (k + 1) HSw.out (by omega) (by omega) (by omega) (by omega)
          clear e1
          obtain ⟨w2, hrun, h1, h2⟩ := HC.out
          have HS4 := sthid h1
          have HF4 := sthid (HFr3.out.trans h2)
          have HX4 := sthid ((h2.block w.heap.size hsz4 hXw).trans HX3.out)
          clear h1 h2 HC
          go_wp2_with fail
          go_roundw
          case rel => exact ⟨k + 1, by omega, by omega, by go_num, HSw3.out, HS4.out, HF4.out, HX4.out⟩
          case measure => simp [intOf]; omega
        · have hgo' : ¬ (k : Int) < (i : Int) - 1 := by omega
          have hke : k + 1 = i := by omega
          have HKe := sthid hke
          clear hke
          go_wp2_with fail
          go_end0
          refine ⟨rfl, ⟨_, HSt3.out, HSw.out, ?_⟩, HFr3.out⟩
          rw [HKe.out]
          exact HAs.out

set_option maxRecDepth 100000 in
set_option maxHeartbeats 1600000 in
theorem symDown_any (S : Srt Tryz.prog lt n B X St gl lb gs sb) (hw : ST.Weak lt) (hn : n ≤ 1000000) (a m : Nat) (d : Nat → α) (w : World) (hB : B ≤ w.heap.size) (hS : St w d) (ham : a + 1 < m) (hb : m + 1 ≤ n) (h1 : ST.Asc lt d a m) :
    Calls Tryz.prog 155 #[lsV gl lb gs sb, .int .i64 a, .int .i64 m, .int .i64 ((m + 1 : Nat) : Int)] w fun e w' => SymEnd lt X St a (m + 1) d w e w' := by
  have hbox : Below w.heap.size w (w.alloc (.cells #[.func (.func gl) #[] lb, .func (.func gs) #[] sb] 193)) := (Below.refl _ w).alloc (Nat.le_refl _) _
  have HS0 := sthid (S.kept _ _ _ hS hbox)
  have HF0 := sthid (SFr.below (X := X) hbox)
  have HX0 := sthid (heap_alloc_new w (.cells #[.func (.func gl) #[] lb, .func (.func gs) #[] sb] 193))
  have HSr := sthid S
  have HWk := sthid hw
  have H1 := sthid h1
  have el := S.el
  have hXw : ¬ X w.heap.size := fun h => by have := S.low _ h; omega
  clear hS hbox S hw h1
  obtain ⟨b, hbm⟩ : ∃ b, m + 1 = b := ⟨_, rfl⟩
  rw [hbm]
  have hone : IntKind.i64.wrap ((b : Int) - m) = 1 := by rw [IntKind.wrap_i64]; omega
  have hb1 : (b : Int) - m ≤ 1 ∧ 1 ≤ (b : Int) - m := by omega
  have hne : (((m : Int) - a) == 1) = false := by rw [beq_eq_false_iff_ne]; omega
  have HBm := sthid hbm
  go_enter Tryz.func155, Tryz.ntmps155
  go_wp2_with fail
  go_loopw [12, 13, 14] (fun ti tj _ wr => ∃ i j : Nat, a ≤ i ∧ i ≤ j ∧ j ≤ m ∧ ti = .int .i64 i ∧ tj = .int .i64 j ∧ (a < i → lt (d m) (d (i - 1)) = false) ∧ (j < m → lt (d m) (d j) = true) ∧ St wr d ∧ SFr X w wr ∧ wr.heap[w.heap.size]? = some (.cells #[.func (.func gl) #[] lb, .func (.func gs) #[] sb] 193)) (fun ti tj _ _ => (intOf tj).toNat - (intOf ti).toNat)
  case atStart => exact ⟨a, m, Nat.le_refl _, by omega, Nat.le_refl _, rfl, rfl, (fun h => by omega), (fun h => by omega), HS0.out, HF0.out, HX0.out⟩
  case round =>
    obtain ⟨i, j, hmi, hij, hjb, rfl, rfl, hL, hR, hSt, hfr, hx⟩ := hrel
    have y0 : wr.cell? ⟨w.heap.size, 0, none⟩ = some (.func (.func gl) #[] lb) := by simp [World.cell?, hx]
    have hsz := hfr.size
    have hsz2 : w.heap.size < wr.heap.size := (Array.getElem?_eq_some_iff.1 hx).1
    have HL := sthid hL
    have HR := sthid hR
    have HSt := sthid hSt
    have HFr := sthid hfr
    have HX := sthid hx
    clear hL hR hSt hfr hx HS0 HF0 HX0
    by_cases hlt : i < j
    · obtain ⟨hh, hh1, hh2, hh3⟩ : ∃ hh : Nat, ((i : Int) + j) / 2 = (hh : Int) ∧ i ≤ hh ∧ hh < j := ⟨(i + j) / 2, by omega, by omega, by omega⟩
      have hu : IntKind.u64.wrap ((i : Int) + j) = (i : Int) + j := by rw [IntKind.wrap_u64]; omega
      have hwi : IntKind.i64.wrap (hh : Int) = hh := by rw [IntKind.wrap_i64]; omega
      have HC := sthid (HSr.out.less wr d m hh (by omega) HSt.out (by omega) (by omega))
      go_wp2_with fail
      refine HC.out.mono ?_
      rintro en w2 ⟨rfl, h1, h2⟩
      have HS2 := sthid h1
      have HF2 := sthid (HFr.out.trans h2)
      have HX2 := sthid ((h2.block w.heap.size hsz2 hXw).trans HX.out)
      clear h1 h2 HC
      cases hq : lt (d m) (d hh) with
      | false =>
        have HQ := sthid hq
        clear hq hh1 hu
        go_wp2_with fail
        go_roundw
        case rel => exact ⟨hh + 1, j, by omega, by omega, hjb, by go_num, rfl, (fun _ => HQ.out), HR.out, HS2.out, HF2.out, HX2.out⟩
        case measure => simp [intOf]; omega
      | true =>
        have HQ := sthid hq
        clear hq hh1 hu
        go_wp2_with fail
        go_roundw
        case rel => exact ⟨i, hh, hmi, by omega, by omega, rfl, by go_num, HL.out, (fun _ => HQ.out), HS2.out, HF2.out, HX2.out⟩
        case measure => simp [intOf]; omega
    · have hije : i = j := by omega
      subst hije
      have HAs : Hid (ST.Asc lt (ST.rot d i m (m + 1)) a (m + 1)) := ST.ins_down HWk.out H1.out hmi hjb HL.out HR.out
      go_wp2_with fail
      go_loopw [15] (fun tk wr => ∃ k : Nat, i ≤ k ∧ k ≤ m ∧ tk = .int .i64 k ∧ ST.Sw a b d (ST.rot d k m (m + 1)) ∧ St wr (ST.rot d k m (m + 1)) ∧ SFr X w wr ∧ wr.heap[w.heap.size]? = some (.cells #[.func (.func gl) #[] lb, .func (.func gs) #[] sb] 193)) (fun tk _ => (intOf tk).toNat)
      case atStart => exact ⟨m, by omega, Nat.le_refl _, rfl, by rw [ST.rot_one]; exact .refl _, by rw [ST.rot_one]; exact HSt.out, HFr.out, HX.out⟩
      case round =>
        obtain ⟨k, hik, hkm, rfl, hsw, hSt, hfr, hx⟩ := hrel
        have y1 : wr.cell? ⟨w.heap.size, 1, none⟩ = some (.func (.func gs) #[] sb) := by simp [World.cell?, hx]
        have hsz3 := hfr.size
        have hsz4 : w.heap.size < wr.heap.size := (Array.getElem?_eq_some_iff.1 hx).1
        have HSw := sthid hsw
        have HSt3 := sthid hSt
        have HFr3 := sthid hfr
        have HX3 := sthid hx
        clear hsw hSt hfr hx
        by_cases hgo : i < k
        · have hgo' : (i : Int) < (k : Int) := by omega
          have HC := HSr.out.swap wr _ k (k - 1) (by omega) HSt3.out (by omega) (by omega)
          rw [ST.mv_down d k m (by omega) hkm] at HC
          have e1 : ((k - 1 : Nat) : Int) = (k : Int) - 1 := by omega
          rw [e1] at HC
          have HC := sthid HC
          have HSw3 : Hid (ST.Sw a b d (ST.rot d (k - 1) m (m + 1))) := by
            show ST.Sw _ _ _ _
            rw [← ST.mv_down d k m (by omega) hkm]
            exact .step k (k - 1) HSw.out (by omega) (by omega) (by omega) (by omega)
          clear e1
          obtain ⟨w2, hrun, h1, h2⟩ := HC.out
          have HS4 := sthid h1
          have HF4 := sthid (HFr3.out.trans h2)
          have HX4 := sthid ((h2.block w.heap.size hsz4 hXw).trans HX3.out)
          clear h1 h2 HC
          go_wp2_with fail
          go_roundw
          case rel => exact ⟨k - 1, by omega, by omega, by go_num, HSw3.out, HS4.out, HF4.out, HX4.out⟩
          case measure => simp [intOf]; omega
        · have hgo' : ¬ (i : Int) < (k : Int) := by omega
          have hke : k = i := by omega
          have HKe := sthid hke
          clear hke
          go_wp2_with fail
          go_end0
          refine ⟨rfl, ⟨_, HSt3.out, HSw.out, ?_⟩, HFr3.out⟩
          rw [HKe.out, ← HBm.out]
          exact HAs.out

/-- Rotated, or nothing to rotate. -/
theorem rot_sw' (d : Nat → α) (a m b : Nat) (h1 : a ≤ m) (h2 : m ≤ b) : ST.Sw a b d (ST.rot d a m b) := by
  by_cases h3 : a < m
  · by_cases h4 : m < b
    · exact ST.rot_sw d a m b h3 h4
    · have : m = b := by omega
      subst this
      rw [ST.rot_self d a m h1]
      exact .refl _
  · have : a = m := by omega
    subst this
    rw [ST.rot_none_l d a b h2]
    exact .refl _

set_option maxRecDepth 100000 in
set_option maxHeartbeats 3200000 in
theorem symMerge_any (S : Srt Tryz.prog lt n B X St gl lb gs sb) (hw : ST.Weak lt) (hn : n ≤ 1000000) : ∀ (k a m b : Nat) (d : Nat → α) (w : World), b - a ≤ k → B ≤ w.heap.size → St w d → a < m → m < b → b ≤ n → ST.Asc lt d a m → ST.Asc lt d m b →
    Calls Tryz.prog 155 #[lsV gl lb gs sb, .int .i64 a, .int .i64 m, .int .i64 b] w fun e w' => SymEnd lt X St a b d w e w' := by
  intro k
  induction k with
  | zero => intro a m b d w hk _ _ ham hmb; omega
  | succ k ih =>
    intro a m b d w hk hB hS ham hmb hb h1 h2
    by_cases hone : m = a + 1
    · subst hone
      exact symUp_any S hw hn a b d w hB hS hmb hb h2
    · by_cases htwo : b = m + 1
      · subst htwo
        exact symDown_any S hw hn a m d w hB hS (by omega) hb h1
      · have hbox : Below w.heap.size w (w.alloc (.cells #[.func (.func gl) #[] lb, .func (.func gs) #[] sb] 193)) := (Below.refl _ w).alloc (Nat.le_refl _) _
        have HS0 := sthid (S.kept _ _ _ hS hbox)
        have HF0 := sthid (SFr.below (X := X) hbox)
        have HX0 := sthid (heap_alloc_new w (.cells #[.func (.func gl) #[] lb, .func (.func gs) #[] sb] 193))
        have HSr := sthid S
        have HWk := sthid hw
        have H1 := sthid h1
        have H2 := sthid h2
        have HIh := sthid ih
        have el := S.el
        have hXw : ¬ X w.heap.size := fun h => by have := S.low _ h; omega
        clear hS hbox S hw h1 h2 ih
        obtain ⟨mid, hmid, hmd1, hmd2⟩ : ∃ mid : Nat, ((a : Int) + b) / 2 = (mid : Int) ∧ 2 * mid ≤ a + b ∧ a + b ≤ 2 * mid + 1 := ⟨(a + b) / 2, by omega, by omega, by omega⟩
        obtain ⟨s0, r0, hsr⟩ : ∃ s0 r0 : Nat, (mid < m ∧ s0 + b = mid + m ∧ r0 = mid) ∨ (m ≤ mid ∧ s0 = a ∧ r0 = m) := by
          by_cases h : mid < m
          · exact ⟨mid + m - b, mid, .inl ⟨h, by omega, rfl⟩⟩
          · exact ⟨a, m, .inr ⟨by omega, rfl, rfl⟩⟩
        have hu : IntKind.u64.wrap ((a : Int) + b) = (a : Int) + b := by rw [IntKind.wrap_u64]; omega
        have hwi : IntKind.i64.wrap (mid : Int) = mid := by rw [IntKind.wrap_i64]; omega
        have hne1 : (((m : Int) - a) == 1) = false := by rw [beq_eq_false_iff_ne]; omega
        have hne2 : (((b : Int) - m) == 1) = false := by rw [beq_eq_false_iff_ne]; omega
        have HSR := sthid hsr
        go_enter Tryz.func155, Tryz.ntmps155
        go_upto_if 106 with fail
        go_cut [18, 19] (fun t18 t19 wx => t18 = .int .i64 s0 ∧ t19 = .int .i64 r0 ∧ wx = w.alloc (.cells #[.func (.func gl) #[] lb, .func (.func gs) #[] sb] 193))
        case first =>
          rcases hsr with ⟨h, h', h''⟩ | ⟨h, h', h''⟩
          · have hgt : (mid : Int) < (m : Int) := by omega
            go_wp2_with fail
            go_meet
            case rel => exact ⟨by go_num, by go_num, rfl⟩
          · have hgt : ¬ (mid : Int) < (m : Int) := by omega
            go_wp2_with fail
            go_meet
            case rel => exact ⟨by go_num, by go_num, rfl⟩
        case rest =>
          obtain ⟨rfl, rfl, rfl⟩ := hcut
          clear hmid hu hsr
          go_wp2_with fail
          go_loopw [18, 19, 21] (fun ts tr _ wr => ∃ s r : Nat, s0 ≤ s ∧ s ≤ r ∧ r ≤ r0 ∧ ts = .int .i64 s ∧ tr = .int .i64 r ∧ (s0 < s → lt (d (mid + m - s)) (d (s - 1)) = false) ∧ (r < r0 → lt (d (mid + m - 1 - r)) (d r) = true) ∧ St wr d ∧ SFr X w wr ∧ wr.heap[w.heap.size]? = some (.cells #[.func (.func gl) #[] lb, .func (.func gs) #[] sb] 193)) (fun ts tr _ _ => (intOf tr).toNat - (intOf ts).toNat)
          case atStart => exact ⟨s0, r0, Nat.le_refl _, by have := HSR.out; omega, Nat.le_refl _, rfl, rfl, (fun h => by omega), (fun h => by omega), HS0.out, HF0.out, HX0.out⟩
          case round =>
            obtain ⟨s, r, hs0, hsr, hr0, rfl, rfl, hL, hR, hSt, hfr, hx⟩ := hrel
            have y0 : wr.cell? ⟨w.heap.size, 0, none⟩ = some (.func (.func gl) #[] lb) := by simp [World.cell?, hx]
            have y1 : wr.cell? ⟨w.heap.size, 1, none⟩ = some (.func (.func gs) #[] sb) := by simp [World.cell?, hx]
            have hsz := hfr.size
            have hsz2 : w.heap.size < wr.heap.size := (Array.getElem?_eq_some_iff.1 hx).1
            have HL := sthid hL
            have HR := sthid hR
            have HSt := sthid hSt
            have HFr := sthid hfr
            have HX := sthid hx
            clear hL hR hSt hfr hx HS0 HF0 HX0
            by_cases hlt : s < r
            · obtain ⟨c, hc1, hc2, hc3⟩ : ∃ c : Nat, ((s : Int) + r) / 2 = (c : Int) ∧ s ≤ c ∧ c < r := ⟨(s + r) / 2, by omega, by omega, by omega⟩
              have hbd : c + 1 ≤ mid + m ∧ mid + m - 1 - c < n ∧ c < n ∧ r ≤ 1000000 := by have := HSR.out; omega
              have hu2 : IntKind.u64.wrap ((s : Int) + r) = (s : Int) + r := by rw [IntKind.wrap_u64]; omega
              have hwc : IntKind.i64.wrap (c : Int) = c := by rw [IntKind.wrap_i64]; omega
              have HC := HSr.out.less wr d (mid + m - 1 - c) c (by omega) HSt.out hbd.2.1 hbd.2.2.1
              have e1 : ((mid + m - 1 - c : Nat) : Int) = (mid : Int) + m - 1 - c := by omega
              rw [e1] at HC
              have HC := sthid HC
              have hmm : mid + m ≤ 2000000 := by omega
              clear e1
              go_wp2_with fail
              refine HC.out.mono ?_
              rintro en w2 ⟨rfl, h1, h2⟩
              have HS2 := sthid h1
              have HF2 := sthid (HFr.out.trans h2)
              have HX2 := sthid ((h2.block w.heap.size hsz2 hXw).trans HX.out)
              clear h1 h2 HC
              cases hq : lt (d (mid + m - 1 - c)) (d c) with
              | false =>
                have HQ : Hid (lt (d (mid + m - (c + 1))) (d (c + 1 - 1)) = false) := by
                  show _ = _
                  have q1 : mid + m - (c + 1) = mid + m - 1 - c := by omega
                  rw [q1]
                  exact hq
                clear hq hc1 hu2
                go_wp2_with fail
                go_roundw
                case rel => exact ⟨c + 1, r, by omega, by omega, hr0, by go_num, rfl, (fun _ => HQ.out), HR.out, HS2.out, HF2.out, HX2.out⟩
                case measure => simp [intOf]; omega
              | true =>
                have HQ := sthid hq
                clear hq hc1 hu2
                go_wp2_with fail
                go_roundw
                case rel => exact ⟨s, c, hs0, by omega, by omega, rfl, by go_num, HL.out, (fun _ => HQ.out), HS2.out, HF2.out, HX2.out⟩
                case measure => simp [intOf]; omega
            · have hsre : s = r := by omega
              subst hsre
              obtain ⟨e, he⟩ : ∃ e : Nat, e + s = mid + m := ⟨mid + m - s, by have := HSR.out; omega⟩
              have hei : (mid : Int) + m - s = (e : Int) := by omega
              have hord : a ≤ s ∧ s ≤ m ∧ m ≤ e ∧ e ≤ b := by have := HSR.out; omega
              obtain ⟨k1, k2, k3, k4, k5⟩ := ST.sym_halves (mid := mid) HWk.out H1.out H2.out hord.1 hord.2.1 hord.2.2.1 hord.2.2.2 (by omega)
                (fun ha he2 => by
                  have q1 : e = mid + m - s := by omega
                  rw [q1]
                  exact HL.out (by have := HSR.out; omega))
                (fun hs2 hm2 => by
                  have q1 : e - 1 = mid + m - 1 - s := by omega
                  rw [q1]
                  exact HR.out (by have := HSR.out; omega))
              have HK1 := sthid k1
              have HK2 := sthid k2
              have HK3 := sthid k3
              have HK4 := sthid k4
              have HK5 := sthid k5
              have HSw1 := sthid ((rot_sw' d s m e hord.2.1 hord.2.2.1).wide hord.1 hord.2.2.2)
              have HRt : Hid (¬ (s < m ∧ m < e) → ST.rot d s m e = d) := fun h => by
                by_cases q : s < m
                · have q2 : m = e := by omega
                  subst q2
                  exact ST.rot_self d s m (by omega)
                · have q2 : s = m := by omega
                  subst q2
                  exact ST.rot_none_l d s e (by omega)
              have hmm : mid + m ≤ 2000000 := by omega
              clear k1 k2 k3 k4 k5
              go_upto_region 40 with fail
              go_cut [145] (fun tq wx => ∃ q : Bool, tq = .bool q ∧ (q = true ↔ s < m ∧ m < e) ∧ wx = wr)
              case first =>
                by_cases hq1 : s < m
                · have hq1' : (s : Int) < (m : Int) := by omega
                  by_cases hq2 : m < e
                  · have hq2' : (m : Int) < (e : Int) := by omega
                    go_wp2_with fail
                    go_meet
                    case rel => exact ⟨true, rfl, ⟨fun _ => ⟨hq1, hq2⟩, fun _ => rfl⟩, rfl⟩
                  · have hq2' : ¬ (m : Int) < (e : Int) := by omega
                    go_wp2_with fail
                    go_meet
                    case rel => exact ⟨false, rfl, ⟨(fun h => by cases h), fun h => absurd h.2 hq2⟩, rfl⟩
                · have hq1' : ¬ (s : Int) < (m : Int) := by omega
                  go_wp2_with fail
                  go_meet
                  case rel => exact ⟨false, rfl, ⟨(fun h => by cases h), fun h => absurd h.1 hq1⟩, rfl⟩
              case rest =>
                obtain ⟨q, rfl, hq, hwc0⟩ := hcut
                subst hwc0
                go_upto_if 145 with fail
                go_cut [] (fun wx => St wx (ST.rot d s m e) ∧ SFr X w wx ∧ wx.heap[w.heap.size]? = some (.cells #[.func (.func gl) #[] lb, .func (.func gs) #[] sb] 193))
                case first =>
                  cases q with
                  | true =>
                    obtain ⟨q1, q2⟩ := hq.1 rfl
                    have HC := sthid (rotate_any HSr.out hn s m e d wc (by omega) HSt.out q1 q2 (by omega))
                    clear hq
                    go_wp2_with fail
                    refine HC.out.mono ?_
                    rintro en w2 ⟨rfl, g1, g2⟩
                    have HG : Hid (St w2 (ST.rot d s m e) ∧ SFr X w w2 ∧ w2.heap[w.heap.size]? = some (.cells #[.func (.func gl) #[] lb, .func (.func gs) #[] sb] 193)) := ⟨g1, HFr.out.trans g2, (g2.block w.heap.size hsz2 hXw).trans HX.out⟩
                    clear g1 g2 HC
                    go_wp2_with fail
                    go_meet
                    case rel => exact HG.out
                  | false =>
                    have HG : Hid (St wc (ST.rot d s m e) ∧ SFr X w wc ∧ wc.heap[w.heap.size]? = some (.cells #[.func (.func gl) #[] lb, .func (.func gs) #[] sb] 193)) := ⟨by rw [HRt.out (fun h => by have := hq.2 h; cases this)]; exact HSt.out, HFr.out, HX.out⟩
                    clear hq
                    go_wp2_with fail
                    go_meet
                    case rel => exact HG.out
                case rest =>
                  obtain ⟨hSc, hFc, hXc⟩ := hcut
                  generalize ST.rot d s m e = D1 at *
                  have HSc := sthid hSc
                  have HFc := sthid hFc
                  have HXc := sthid hXc
                  have z0 : wc.cell? ⟨w.heap.size, 0, none⟩ = some (.func (.func gl) #[] lb) := by simp [World.cell?, hXc]
                  have z1 : wc.cell? ⟨w.heap.size, 1, none⟩ = some (.func (.func gs) #[] sb) := by simp [World.cell?, hXc]
                  have hszc := hFc.size
                  have hszd : w.heap.size < wc.heap.size := (Array.getElem?_eq_some_iff.1 hXc).1
                  generalize wc = wa at *
                  clear hSc hFc hXc HSt HFr HX y0 y1 HL HR HRt
                  go_upto_region 42 with fail
                  go_cut [158] (fun tq wx => ∃ q : Bool, tq = .bool q ∧ (q = true ↔ a < s ∧ s < mid) ∧ wx = wa)
                  case first =>
                    by_cases hq1 : a < s
                    · have hq1' : (a : Int) < (s : Int) := by omega
                      by_cases hq2 : s < mid
                      · have hq2' : (s : Int) < (mid : Int) := by omega
                        go_wp2_with fail
                        go_meet
                        case rel => exact ⟨true, rfl, ⟨fun _ => ⟨hq1, hq2⟩, fun _ => rfl⟩, rfl⟩
                      · have hq2' : ¬ (s : Int) < (mid : Int) := by omega
                        go_wp2_with fail
                        go_meet
                        case rel => exact ⟨false, rfl, ⟨(fun h => by cases h), fun h => absurd h.2 hq2⟩, rfl⟩
                    · have hq1' : ¬ (a : Int) < (s : Int) := by omega
                      go_wp2_with fail
                      go_meet
                      case rel => exact ⟨false, rfl, ⟨(fun h => by cases h), fun h => absurd h.1 hq1⟩, rfl⟩
                  case rest =>
                    obtain ⟨q3, rfl, hq3, hwc3⟩ := hcut
                    subst hwc3
                    go_upto_if 158 with fail
                    go_cut [] (fun wx => ∃ D2, St wx D2 ∧ ST.Sw a mid D1 D2 ∧ ST.Asc lt D2 a mid ∧ SFr X w wx ∧ wx.heap[w.heap.size]? = some (.cells #[.func (.func gl) #[] lb, .func (.func gs) #[] sb] 193))
                    case first =>
                      cases q3 with
                      | true =>
                        obtain ⟨q1, q2⟩ := hq3.1 rfl
                        have HC := sthid (HIh.out a s mid D1 wc (by omega) (by omega) HSc.out q1 q2 (by omega) HK1.out HK2.out)
                        clear hq3
                        go_wp2_with fail
                        refine HC.out.mono ?_
                        rintro en w2 ⟨rfl, ⟨D2, g1, g2, g3⟩, g4⟩
                        have HG : Hid (∃ D2, St w2 D2 ∧ ST.Sw a mid D1 D2 ∧ ST.Asc lt D2 a mid ∧ SFr X w w2 ∧ w2.heap[w.heap.size]? = some (.cells #[.func (.func gl) #[] lb, .func (.func gs) #[] sb] 193)) := ⟨D2, g1, g2, g3, HFc.out.trans g4, (g4.block w.heap.size hszd hXw).trans HXc.out⟩
                        clear g1 g2 g3 g4 HC
                        go_wp2_with fail
                        go_meet
                        case rel => exact HG.out
                      | false =>
                        have HG : Hid (∃ D2, St wc D2 ∧ ST.Sw a mid D1 D2 ∧ ST.Asc lt D2 a mid ∧ SFr X w wc ∧ wc.heap[w.heap.size]? = some (.cells #[.func (.func gl) #[] lb, .func (.func gs) #[] sb] 193)) := by
                          refine ⟨D1, HSc.out, .refl _, ?_, HFc.out, HXc.out⟩
                          have hno : ¬ (a < s ∧ s < mid) := fun h => by have := hq3.2 h; cases this
                          by_cases q : a < s
                          · have : s = mid := by omega
                            rw [← this]
                            exact HK1.out
                          · have : s = a := by omega
                            have h9 := HK2.out
                            rw [this] at h9
                            exact h9
                        clear hq3
                        go_wp2_with fail
                        go_meet
                        case rel => exact HG.out
                    case rest =>
                      obtain ⟨D2, hSc, hsw2, has2, hFc, hXc⟩ := hcut
                      have HSc2 := sthid hSc
                      have HFc2 := sthid hFc
                      have HXc2 := sthid hXc
                      have HSw2 := sthid hsw2
                      have HAs2 := sthid has2
                      have HB2 : Hid (ST.Asc lt D2 mid e ∧ ST.Asc lt D2 e b) := by
                        refine ⟨fun x y hx hxy hy => ?_, fun x y hx hxy hy => ?_⟩
                        · rw [hsw2.out (.inr hx), hsw2.out (.inr (by omega))]; exact HK3.out x y hx hxy hy
                        · rw [hsw2.out (.inr (by omega)), hsw2.out (.inr (by omega))]; exact HK4.out x y hx hxy hy
                      have x0 : wc.cell? ⟨w.heap.size, 0, none⟩ = some (.func (.func gl) #[] lb) := by simp [World.cell?, hXc]
                      have x1 : wc.cell? ⟨w.heap.size, 1, none⟩ = some (.func (.func gs) #[] sb) := by simp [World.cell?, hXc]
                      have hsze := hFc.size
                      have HFin : Hid (∀ (f : Nat → α), ST.Sw mid b D2 f → ST.Asc lt f mid b → ST.Sw a b d f ∧ ST.Asc lt f a b) := fun f g1 g2 => by
                        refine ⟨(HSw1.out.trans (hsw2.wide (Nat.le_refl _) (by omega))).trans (g1.wide (by omega) (Nat.le_refl _)), ST.asc_join ?_ g2 (ST.apart_sw HK5.out hsw2 g1)⟩
                        intro x y hx hxy hy
                        rw [g1.out (.inl (by omega)), g1.out (.inl (by omega))]
                        exact has2 x y hx hxy hy
                      generalize wc = wb at *
                      clear hSc hFc hXc hsw2 has2 HSc HFc HXc z0 z1 HSw2 HAs2
                      go_upto_region 44 with fail
                      go_cut [171] (fun tq wx => ∃ q : Bool, tq = .bool q ∧ (q = true ↔ mid < e ∧ e < b) ∧ wx = wb)
                      case first =>
                        by_cases hq1 : mid < e
                        · have hq1' : (mid : Int) < (e : Int) := by omega
                          by_cases hq2 : e < b
                          · have hq2' : (e : Int) < (b : Int) := by omega
                            go_wp2_with fail
                            go_meet
                            case rel => exact ⟨true, rfl, ⟨fun _ => ⟨hq1, hq2⟩, fun _ => rfl⟩, rfl⟩
                          · have hq2' : ¬ (e : Int) < (b : Int) := by omega
                            go_wp2_with fail
                            go_meet
                            case rel => exact ⟨false, rfl, ⟨(fun h => by cases h), fun h => absurd h.2 hq2⟩, rfl⟩
                        · have hq1' : ¬ (mid : Int) < (e : Int) := by omega
                          go_wp2_with fail
                          go_meet
                          case rel => exact ⟨false, rfl, ⟨(fun h => by cases h), fun h => absurd h.1 hq1⟩, rfl⟩
                      case rest =>
                        obtain ⟨q4, rfl, hq4, hwc4⟩ := hcut
                        subst hwc4
                        cases q4 with
                        | true =>
                          obtain ⟨q1, q2⟩ := hq4.1 rfl
                          have HC := sthid (HIh.out mid e b D2 wc (by omega) (by omega) HSc2.out q1 q2 hb HB2.out.1 HB2.out.2)
                          clear hq4
                          go_wp2_with fail
                          refine HC.out.mono ?_
                          rintro en w2 ⟨rfl, ⟨f, g1, g2, g3⟩, g4⟩
                          have HG := sthid (HFin.out f g2 g3)
                          have HG1 := sthid g1
                          have HG4 := sthid (HFc2.out.trans g4)
                          clear g1 g2 g3 g4 HC
                          go_wp2_with fail
                          go_end0
                          exact ⟨rfl, ⟨f, HG1.out, HG.out⟩, HG4.out⟩
                        | false =>
                          have HG : Hid (ST.Sw a b d D2 ∧ ST.Asc lt D2 a b) := by
                            refine HFin.out D2 (.refl _) ?_
                            have hno : ¬ (mid < e ∧ e < b) := fun h => by have := hq4.2 h; cases this
                            by_cases q : mid < e
                            · have : e = b := by omega
                              have h9 := HB2.out.1
                              rw [this] at h9
                              exact h9
                            · have : e = mid := by omega
                              have h9 := HB2.out.2
                              rw [this] at h9
                              exact h9
                          clear hq4
                          go_wp2_with fail
                          go_end0
                          exact ⟨rfl, ⟨D2, HSc2.out, HG.out⟩, HFc2.out⟩

end

end Go.Proofs.YtdmnlmohfaafoadGreatDoor

namespace Go.Proofs.YtdmnlmohfaafoadGreatDoor
namespace ST

variable {α : Type} {lt : α → α → Bool}

theorem dvd_step {z s a : Nat} (hs : z ∣ s) (ha : z ∣ a) (h : s < a) : s + z ≤ a := by
  obtain ⟨x, rfl⟩ := hs
  obtain ⟨y, rfl⟩ := ha
  have hxy : x < y := by
    rcases Nat.lt_or_ge x y with h1 | h1
    · exact h1
    · have := Nat.mul_le_mul_left z h1
      omega
  have := Nat.mul_le_mul_left z hxy
  rw [Nat.mul_succ] at this
  exact this

/-- Each block of z places is in order. -/
def Blk (lt : α → α → Bool) (z n : Nat) (d : Nat → α) : Prop := ∀ s, z ∣ s → Asc lt d s (min (s + z) n)

/-- Blocks of 2z below a, and blocks of z from a on. -/
def Half (lt : α → α → Bool) (z n a : Nat) (d : Nat → α) : Prop := (∀ s, 2 * z ∣ s → s < a → Asc lt d s (s + 2 * z)) ∧ ∀ s, z ∣ s → a ≤ s → Asc lt d s (min (s + z) n)

theorem Half.start {z n : Nat} {d : Nat → α} (h : Blk lt z n d) : Half lt z n 0 d := ⟨fun s _ hs => by omega, fun s hs _ => h s hs⟩

theorem asc_same {d f : Nat → α} {a b : Nat} (h : Asc lt d a b) (he : ∀ k, a ≤ k → k < b → f k = d k) : Asc lt f a b := fun i j hi hij hj => by
  rw [he i hi (by omega), he j (by omega) hj]
  exact h i j hi hij hj

/-- Two blocks more are one. -/
theorem Half.next {z n a : Nat} {d f : Nat → α} (h : Half lt z n a d) (ha : 2 * z ∣ a) (hz : 0 < z) (_hn : a + 2 * z ≤ n) (hs : Sw a (a + 2 * z) d f) (hf : Asc lt f a (a + 2 * z)) : Half lt z n (a + 2 * z) f := by
  refine ⟨fun s h1 h2 => ?_, fun s h1 h2 => ?_⟩
  · rcases Nat.lt_or_ge s a with h3 | h3
    · have h4 := dvd_step h1 ha h3
      exact asc_same (h.1 s h1 h3) fun k _ hk => hs.out (.inl (by omega))
    · have h4 : s = a := by
        rcases Nat.lt_or_eq_of_le h3 with h5 | h5
        · have := dvd_step ha h1 h5
          omega
        · exact h5.symm
      rw [h4]
      exact hf
  · exact asc_same (h.2 s h1 (by omega)) fun k hk _ => hs.out (.inr (by omega))

/-- All blocks of 2z, once the rest is one. -/
theorem Half.done {z n a : Nat} {d f : Nat → α} (h : Half lt z n a d) (ha : 2 * z ∣ a) (_hz : 0 < z) (han : a ≤ n) (hn : n < a + 2 * z) (hs : Sw a n d f) (hf : Asc lt f a n) : Blk lt (2 * z) n f := fun s h1 => by
  rcases Nat.lt_or_ge s a with h3 | h3
  · have h4 := dvd_step h1 ha h3
    rw [Nat.min_eq_left (by omega)]
    exact asc_same (h.1 s h1 h3) fun k _ hk => hs.out (.inl (by omega))
  · rcases Nat.lt_or_eq_of_le h3 with h5 | h5
    · have := dvd_step ha h1 h5
      intro i j hi hij hj
      have : j < n := Nat.lt_of_lt_of_le hj (Nat.min_le_right _ _)
      omega
    · rw [← h5, Nat.min_eq_right (by omega)]
      exact hf

/-- One block that holds all. -/
theorem Blk.all {z n : Nat} {d : Nat → α} (h : Blk lt z n d) (hn : n ≤ z) : Asc lt d 0 n := by
  have := h 0 ⟨0, rfl⟩
  rw [Nat.zero_add, Nat.min_eq_right hn] at this
  exact this

end ST
end Go.Proofs.YtdmnlmohfaafoadGreatDoor

