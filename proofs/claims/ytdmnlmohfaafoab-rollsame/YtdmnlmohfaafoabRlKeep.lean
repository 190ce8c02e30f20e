/- raingaugekeep.RollSame, walked: rolled up twice is rolled up once. -/
import Derived.Test.YtdmnlmohfaafoabRlRight
import Derived.Test.YtdmnlmohfaafoabRlRolled
import Derived.Test.YtdmnlmohfaafoabRlMrg
import Derived.Test.YtdmnlmohfaafoabRlPick
namespace Go.Proofs.Ytdmnlmohfaafoab
open Go.RowKit

set_option maxRecDepth 100000 in
set_option maxHeartbeats 800000 in
theorem rs_out (ao : Option Addr) (n cap : Nat) (span times at' : Int) (w : World) (h : ¬ (n ≤ 60 ∧ 1 ≤ span ∧ span ≤ 1048576 ∧ 1 ≤ times ∧ times ≤ 1048576)) :
    Calls Try.prog 3 #[.slice ao n cap, .int .i64 span, .int .i64 times, .int .i64 at'] w fun e w' => e = .returned (.bool true) ∧ w' = w := by
  have fin : ∀ (h1 : (60 < (n : Int)) ∨ span < 1 ∨ 1048576 < span ∨ times < 1 ∨ 1048576 < times), Calls Try.prog 3 #[.slice ao n cap, .int .i64 span, .int .i64 times, .int .i64 at'] w fun e w' => e = .returned (.bool true) ∧ w' = w := by
    intro h1
    by_cases a1 : 60 < (n : Int)
    · clear h h1
      go_enter Try.func3, Try.ntmps3
      go_wp2
      go_ret
      exact ⟨rfl, rfl⟩
    · by_cases a2 : span < 1
      · clear h h1
        go_enter Try.func3, Try.ntmps3
        go_wp2
        go_ret
        exact ⟨rfl, rfl⟩
      · by_cases a3 : 1048576 < span
        · clear h h1
          go_enter Try.func3, Try.ntmps3
          go_wp2
          go_ret
          exact ⟨rfl, rfl⟩
        · by_cases a4 : times < 1
          · clear h h1
            go_enter Try.func3, Try.ntmps3
            go_wp2
            go_ret
            exact ⟨rfl, rfl⟩
          · have a5 : 1048576 < times := by omega
            clear h h1
            go_enter Try.func3, Try.ntmps3
            go_wp2
            go_ret
            exact ⟨rfl, rfl⟩
  exact fin (by omega)

theorem up_st (span : Int) (l : List CL.Smp) (hs : 1 ≤ span ∧ span ≤ 1099511627776) (hR : ∀ s ∈ l, -1099511627776 ≤ s.1 ∧ s.1 ≤ 1099511627776) : ∀ b ∈ CL.up span l, -9007199254740992 ≤ b.st ∧ b.st ≤ 9007199254740992 := by
  have key : ∀ (m : List CL.Bkt) (acc : List CL.Bkt), (∀ b ∈ m, -9007199254740992 ≤ b.st ∧ b.st ≤ 9007199254740992) → (∀ b ∈ acc, -9007199254740992 ≤ b.st ∧ b.st ≤ 9007199254740992) → ∀ b ∈ CL.gathL acc m, -9007199254740992 ≤ b.st ∧ b.st ≤ 9007199254740992 := by
    intro m
    induction m with
    | nil => intro acc _ h; exact h
    | cons x m ih =>
      intro acc hm ha
      rw [CL.gathL_cons]
      exact ih _ (fun b hb => hm b (List.mem_cons_of_mem _ hb)) (CL.gath_all _ acc x ha (hm x (by simp)) fun c hc _ => hc)
  refine key _ [] (fun b hb => ?_) (by simp)
  obtain ⟨s, hsm, rfl⟩ := List.mem_map.1 hb
  have h1 := hR s hsm
  have h2 := CL.flr_le s.1 span hs.1
  show -9007199254740992 ≤ CL.flr s.1 span ∧ CL.flr s.1 span ≤ 9007199254740992
  omega

theorem srow_take {w : World} {ao : Option Addr} {l : List CL.Smp} (h : SRow w ao l) (k : Nat) : SRow w ao (l.take k) := by
  intro i hi
  rw [List.length_take] at hi
  obtain ⟨b, off, e, c0, c1, hb⟩ := h i (by omega)
  have e2 : CL.at' (l.take k) i = CL.at' l i := CL.at_take l k i (by omega)
  rw [e2]
  exact ⟨b, off, e, c0, c1, hb⟩

theorem srow_drop {w : World} {b off : Nat} {l : List CL.Smp} (h : SRow w (some ⟨b, off, none⟩) l) (k : Nat) : SRow w (some ⟨b, off + k * 2, none⟩) (l.drop k) := by
  intro i hi
  rw [List.length_drop] at hi
  obtain ⟨b', off', e, c0, c1, hb⟩ := h (i + k) (by omega)
  simp only [Option.some.injEq, Addr.mk.injEq, and_true] at e
  obtain ⟨rfl, rfl⟩ := e
  have e2 : CL.at' (l.drop k) i = CL.at' l (i + k) := by simp [CL.at', Nat.add_comm]
  have e3 : off + k * 2 + i * 2 = off + (i + k) * 2 := by omega
  rw [e2]
  refine ⟨b, off + k * 2, rfl, ?_, ?_, hb⟩
  · rw [e3]; exact c0
  · rw [e3]; exact c1

theorem srow_slice {w : World} {ao : Option Addr} {l : List CL.Smp} {cap : Nat} (h : SRow w ao l) (k : Nat) (hc : l.length ≤ cap) (hk : k ≤ l.length) :
    ∃ A, (if cap = k then ao else Option.map (fun x => x.add (k * 2)) ao) = A ∧ SRow w A (l.drop k) := by
  refine ⟨_, rfl, ?_⟩
  by_cases e : l.length = k
  · rw [List.drop_of_length_le (by omega)]
    exact fun i hi => by simp at hi
  · rw [if_neg (by omega)]
    obtain ⟨b, off, rfl, _⟩ := h 0 (by omega)
    have e2 : Option.map (fun x : Addr => x.add (k * 2)) (some ⟨b, off, none⟩) = some ⟨b, off + k * 2, none⟩ := by simp [Addr.add]
    rw [e2]
    exact srow_drop h k

theorem take_succB (A : List CL.Bkt) (i : Nat) (h : i < A.length) : A.take (i + 1) = A.take i ++ [atB A i] := by
  rw [List.take_succ_eq_append_getElem h, atB_eq A i h]

theorem cts_append (a b : List CL.Bkt) : CL.cts (a ++ b) = CL.cts a + CL.cts b := by simp [CL.cts]

theorem cts_take (A : List CL.Bkt) (h : ∀ c ∈ A, 1 ≤ c.ct) (i : Nat) : 0 ≤ CL.cts (A.take i) ∧ CL.cts (A.take i) ≤ CL.cts A := by
  have h1 := (CL.cts_nonneg (A.take i) fun c hc => h c (List.mem_of_mem_take hc)).1
  have h2 := (CL.cts_nonneg (A.drop i) fun c hc => h c (List.mem_of_mem_drop hc)).1
  have e := cts_append (A.take i) (A.drop i)
  rw [List.take_append_drop] at e
  omega

theorem cts_step (A : List CL.Bkt) (i : Nat) (h : i < A.length) : CL.cts (A.take (i + 1)) = CL.cts (A.take i) + (atB A i).ct := by
  rw [take_succB A i h, cts_append]; simp [CL.cts]

theorem sms_step (A : List CL.Bkt) (i : Nat) (h : i < A.length) : CL.sms (A.take (i + 1)) = CL.W (CL.sms (A.take i) + (atB A i).sm) := by
  rw [take_succB A i h, CL.sms_snoc]

theorem vals_step (l : List CL.Smp) (i : Nat) (h : i < l.length) : CL.vals (l.take (i + 1)) = CL.W (CL.vals (l.take i) + (CL.at' l i).2) := by
  rw [← CL.take_nxt l i h, CL.vals_snoc]

theorem rise_step (A : List CL.Bkt) (h : CL.RiseB A) (i : Nat) (hi : i + 1 < A.length) : (atB A i).st < (atB A (i + 1)).st := by
  rw [atB_eq A i (by omega), atB_eq A (i + 1) hi]
  exact List.pairwise_iff_getElem.1 h i (i + 1) (by omega) hi (by omega)

theorem rem_mod (t s : Int) (h : t % s = 0) : t.tmod s = 0 := by
  rw [← Int.dvd_iff_tmod_eq_zero, Int.dvd_iff_emod_eq_zero]; exact h

theorem dec_self (A : List CL.Bkt) : decide (A = A) = true := decide_eq_true rfl

theorem srow_empty {w : World} (ao : Option Addr) : SRow w ao [] := fun i hi => by simp at hi

theorem up_ok' (ao : Option Addr) (l : List CL.Smp) (n cap : Nat) (hn : l.length = n) (span : Int) (w : World) (hS : SRow w ao l) (hR : ∀ s ∈ l, -1099511627776 ≤ s.1 ∧ s.1 ≤ 1099511627776) (hl : l.length ≤ 1000) (hs : 1 ≤ span ∧ span ≤ 1099511627776) :
    Calls Try.prog 8 #[.slice ao n cap, .int .i64 span] w fun e w' => ∃ v, e = .returned (.tuple #[v, .nilIface]) ∧ w'.ownsRow w.heap.size 35 5 v (CL.up span l).length (bv (CL.up span l)) ∧ Below w.heap.size w w' := by
  subst hn; exact up_ok ao l cap span w hS hR hl hs

set_option maxRecDepth 100000 in
set_option maxHeartbeats 1600000 in
theorem rs_any (ao : Option Addr) (l : List CL.Smp) (cap : Nat) (span times at' : Int) (w : World) (hS : SRow w ao l) (hR : ∀ s ∈ l, CL.Rs s) (hc : l.length ≤ cap) (hna : ao = none → cap = 0) (h60 : l.length ≤ 60) (hs1 : 1 ≤ span) (hs2 : span ≤ 1048576) (ht1 : 1 ≤ times) (ht2 : times ≤ 1048576) :
    Calls Try.prog 3 #[.slice ao l.length cap, .int .i64 span, .int .i64 times, .int .i64 at'] w fun e w' => e = .returned (.bool true) ∧ Below w.heap.size w w' := by
  have hp1 : 1 ≤ span * times := Int.mul_le_mul hs1 ht1 (by omega) (by omega)
  have hp2 : span * times ≤ 1099511627776 := Int.le_trans (Int.mul_le_mul hs2 ht2 (by omega) (by omega)) (by decide)
  have hpw0 : wrap64 (span * times) = span * times := by unfold wrap64; omega
  have HPm : Hid (span * times % span = 0) := Int.mul_emod_right span times
  have HS := hid hS
  have HR := hid hR
  have HN := hid hna
  have h1 : ¬ (60 : Int) < (l.length : Int) := by omega
  have h2 : ¬ span < 1 := by omega
  have h3 : ¬ 1048576 < span := by omega
  have h4 : ¬ times < 1 := by omega
  have h5 : ¬ 1048576 < times := by omega
  clear hS hR hna
  have HUW := hid (CL.up_wide l span times hs1)
  obtain ⟨wd, hwd⟩ : ∃ wd, wd = span * times := ⟨_, rfl⟩
  have hpw : wrap64 (span * times) = wd := by rw [hpw0, hwd]
  rw [← hwd] at hp1 hp2 HPm HUW
  clear hwd hpw0
  go_enter Try.func3, Try.ntmps3
  go_wp2_with fail
  refine Calls.mono (rolled_any w) ?_
  rintro e w1 ⟨rfl, hb1⟩
  have HB1 := hid hb1
  have hz1 := hb1.size
  clear hb1
  go_wp2_with fail
  refine Calls.mono (right_any ao l cap w1 (HS.out.below HB1.out) HR.out (by omega)) ?_
  rintro e w2 ⟨rfl, hb2⟩
  have HB2 := hid (HB1.out.trans (hb2.mono hz1))
  have hz2 := HB2.out.size
  clear hb2
  rcases hra : CL.right l with _ | _
  · clear hra
    go_wp2_with fail
    go_ret
    exact ⟨rfl, HB2.out⟩
  · have HRR := hid (CL.rising_right l hra).2
    have HRi := hid (CL.rising_right l hra).1
    clear hra
    go_wp2_with fail
    refine Calls.mono (up_ok ao l cap span w2 (HS.out.below HB2.out) HRR.out (by omega) (by omega)) ?_
    rintro e w3 ⟨v3, rfl, ho3, hb3⟩
    obtain ⟨a3, c3, rfl, hS3, hc3, hn3⟩ := BRow.of_own ho3
    have HS3 := hid hS3
    have HB3 := hid (HB2.out.trans (hb3.mono hz2))
    have hz3 := HB3.out.size
    clear hb3 ho3 hS3 hn3
    have HFA := hid (CL.fine_up span l (by omega))
    have HSA := hid (CL.sms_up span l)
    have HRA := hid (CL.rise_up l span hs1 HRi.out)
    have HSt := hid (up_st span l (by omega) HRR.out)
    have hAl := Nat.le_trans (CL.up_len span l) h60
    generalize hA : CL.up span l = A at *
    have HA := hid hA
    clear hA
    go_wp2_with fail
    refine Calls.mono (up_ok ao l cap wd w3 (HS.out.below HB3.out) HRR.out (by omega) (by omega)) ?_
    rintro e w4 ⟨v4, rfl, ho4, hb4⟩
    obtain ⟨a4, c4, rfl, hS4, hc4, hn4⟩ := BRow.of_own ho4
    have HS4 := hid hS4
    have HT4 := hid (HS3.out.below hb4)
    have HB4 := hid (HB3.out.trans (hb4.mono hz3))
    have hz4 := HB4.out.size
    clear hb4 ho4 hS4 hn4 hc4
    have hBl := Nat.le_trans (CL.up_len wd l) h60
    generalize CL.up wd l = B at *
    go_wp2_with fail
    refine Calls.mono (wider_ok a3 A c3 span wd w4 HT4.out HSt.out (by omega) (by omega) ⟨hp1, hp2, HPm.out⟩) ?_
    rintro e w5 ⟨v5, rfl, ho5, hb5⟩
    rw [HUW.out] at ho5
    obtain ⟨a5, c5, rfl, hS5, hc5, hn5⟩ := BRow.of_own ho5
    have HS5 := hid hS5
    have HA5 := hid (HT4.out.below hb5)
    have HT5 := hid (HS4.out.below hb5)
    have HB5 := hid (HB4.out.trans (hb5.mono hz4))
    have hz5 := HB5.out.size
    clear hb5 ho5 hS5 hn5 hc5
    go_wp2_with fail
    refine Calls.mono (sameB_any a4 a5 B B c4 c5 w5 HT5.out HS5.out (by omega)) ?_
    rintro e w6 ⟨rfl, hb6⟩
    have HA6 := hid (HA5.out.below hb6)
    have HB6 := hid (HB5.out.trans (hb6.mono hz5))
    have hz6 := HB6.out.size
    have hdt : decide (B = B) = true := decide_eq_true rfl
    rw [hdt]
    clear hb6 hdt
    go_wp2_with fail
    refine Calls.mono (pick_any at' (l.length + 1) w6 (by omega) (by omega)) ?_
    rintro e w7 ⟨⟨k, hk, rfl⟩, rfl⟩
    have hkl : (l.take k).length = k := by rw [List.length_take]; omega
    have HKL := hid hkl
    have hdl : (l.drop k).length = l.length - k := List.length_drop
    have HDL := hid hdl
    have HXY := hid (CL.up_parts (l.take k) (l.drop k) span hs1 (by rw [List.take_append_drop]; exact HRi.out))
    have HRx := hid (CL.rise_up (l.take k) span hs1 (HRi.out.sublist (List.take_sublist k l)))
    have HRy := hid (CL.rise_up (l.drop k) span hs1 (HRi.out.sublist (List.drop_sublist k l)))
    have hXl : (CL.up span (l.take k)).length ≤ 60 := Nat.le_trans (CL.up_len span _) (by omega)
    have hYl : (CL.up span (l.drop k)).length ≤ 60 := Nat.le_trans (CL.up_len span _) (by omega)
    rw [List.take_append_drop, HA.out] at HXY
    clear hkl hdl
    obtain ⟨Ad, hAd, hSd⟩ := srow_slice HS.out k hc (by omega)
    have HSd := hid hSd
    clear hSd
    go_wp2_with fail
    refine Calls.mono (up_ok' ao (l.take k) k cap HKL.out span w7 (srow_take (HS.out.below HB6.out) k) (fun s hs => HRR.out s (List.mem_of_mem_take hs)) (by rw [HKL.out]; omega) (by omega)) ?_
    rintro e w8 ⟨v8, rfl, ho8, hb8⟩
    obtain ⟨a8, c8, rfl, hS8, hc8, hn8⟩ := BRow.of_own ho8
    have HS8 := hid hS8
    have HA8 := hid (HA6.out.below hb8)
    have HB8 := hid (HB6.out.trans (hb8.mono hz6))
    have hz8 := HB8.out.size
    clear hb8 ho8 hS8 hn8
    generalize CL.up span (l.take k) = X at *
    go_wp2_with fail
    refine Calls.mono (up_ok' Ad (l.drop k) (l.length - k) (cap - k) HDL.out span w8 (HSd.out.below HB8.out) (fun s hs => HRR.out s (List.mem_of_mem_drop hs)) (by rw [HDL.out]; omega) (by omega)) ?_
    rintro e w9 ⟨v9, rfl, ho9, hb9⟩
    obtain ⟨a9, c9, rfl, hS9, hc9, hn9⟩ := BRow.of_own ho9
    have HS9 := hid hS9
    have HX9 := hid (HS8.out.below hb9)
    have HA9 := hid (HA8.out.below hb9)
    have HB9 := hid (HB8.out.trans (hb9.mono hz8))
    have hz9 := HB9.out.size
    clear hb9 ho9 hS9 hn9
    generalize CL.up span (l.drop k) = Y at *
    go_wp2_with fail
    refine Calls.mono (mergeB_any a8 a9 X Y c8 c9 w9 HX9.out HS9.out hc8 hc9 (by omega) (by omega)) ?_
    rintro e w10 ⟨v10, rfl, ho10, hb10⟩
    rw [HXY.out] at ho10
    obtain ⟨a10, c10, rfl, hS10, _, _⟩ := BRow.of_own ho10
    have HS10 := hid hS10
    have HX10 := hid (HX9.out.below hb10)
    have HY10 := hid (HS9.out.below hb10)
    have HA10 := hid (HA9.out.below hb10)
    have HB10 := hid (HB9.out.trans (hb10.mono hz9))
    have hz10 := HB10.out.size
    clear hb10 ho10 hS10
    go_wp2_with fail
    refine Calls.mono (sameB_any a10 a3 A A c10 c3 w10 HS10.out HA10.out (by omega)) ?_
    rintro e w11 ⟨rfl, hb11⟩
    rw [dec_self]
    have HX11 := hid (HX10.out.below hb11)
    have HY11 := hid (HY10.out.below hb11)
    have HA11 := hid (HA10.out.below hb11)
    have HB11 := hid (HB10.out.trans (hb11.mono hz10))
    have hz11 := HB11.out.size
    clear hb11
    go_wp2_with fail
    refine Calls.mono (mergeB_any a9 a8 Y X c9 c8 w11 HY11.out HX11.out hc9 hc8 (by omega) (by omega)) ?_
    rintro e w12 ⟨v12, rfl, ho12, hb12⟩
    rw [CL.mrgB_comm Y X HRy.out HRx.out, HXY.out] at ho12
    obtain ⟨a12, c12, rfl, hS12, _, _⟩ := BRow.of_own ho12
    have HS12 := hid hS12
    have HA12 := hid (HA11.out.below hb12)
    have HB12 := hid (HB11.out.trans (hb12.mono hz11))
    have hz12 := HB12.out.size
    clear hb12 ho12 hS12
    go_wp2_with fail
    refine Calls.mono (sameB_any a12 a3 A A c12 c3 w12 HS12.out HA12.out (by omega)) ?_
    rintro e w13 ⟨rfl, hb13⟩
    rw [dec_self]
    have HA13 := hid (HA12.out.below hb13)
    have HB13 := hid (HB12.out.trans (hb13.mono hz12))
    have hz13 := HB13.out.size
    clear hb13
    clear hXl hYl HXY HRx HRy HKL HDL hAd HSd HX9 HS9 HS10 HX10 HY10 HX11 HY11 HS12 HT5 HS5 HS4 HT4 HA5 HA6 HA8 HA9 HA10 HA11 HA12 HB9 HB10 HB11 HB12 HS8 HB8 HS3 HUW hpw hc8 hc9 hBl
    have HCt := hid (cts_take A (fun c hc => (HFA.out.2 c hc).2.2))
    have HCn := hid HFA.out.1
    go_wp2_with fail
    go_loopw [18, 19, 21] (fun tn ts ti wr => ∃ i : Nat, i ≤ A.length ∧ ti = .int .i64 i ∧ tn = .int .i64 (CL.cts (A.take i)) ∧ ts = .int .i64 (CL.sms (A.take i)) ∧ Below w13.heap.size w13 wr) (fun _ _ ti _ => A.length - (intOf ti).toNat)
    case atStart => exact ⟨0, by omega, rfl, rfl, rfl, Below.refl _ _⟩
    case round =>
      obtain ⟨i, hi, rfl, rfl, rfl, hbel⟩ := hrel
      have HBl := hid hbel
      clear hbel
      by_cases hlt : i < A.length
      · obtain ⟨b, off, hao, hf, hbs⟩ := HA13.out i hlt
        obtain ⟨f0, f1, f2, f3, f4⟩ := hf.kept (HBl.out.block b hbs)
        have hp0 : i ≠ 0 → wr.cell? ⟨b, off + (i - 1) * 5, none⟩ = some (.int .i64 (atB A (i - 1)).st) ∧ (atB A (i - 1)).st < (atB A i).st := fun h0 => by
          have HAb := HA13.out
          rw [hao] at HAb
          refine ⟨(HAb.at HBl.out (i - 1) (by omega)).1, ?_⟩
          have := rise_step A HRA.out (i - 1) (by omega)
          have e : i - 1 + 1 = i := by omega
          rwa [e] at this
        subst hao
        obtain ⟨q1, q2, q3⟩ := HFA.out.2 _ (atB_mem A i hlt)
        have HC1 := hid (cts_step A i hlt)
        have HS1 := hid (sms_step A i hlt)
        have hct := (cts_take A (fun c hc => (HFA.out.2 c hc).2.2) i)
        have hct2 := (cts_take A (fun c hc => (HFA.out.2 c hc).2.2) (i + 1))
        rw [HCn.out] at hct hct2
        rw [HC1.out] at hct2
        have hq1 := rem_mod _ _ q1
        clear hf q1
        generalize atB A i = x at *
        generalize CL.cts (A.take i) = cn at *
        generalize CL.sms (A.take i) = sn at *
        obtain ⟨x0, x1, x2, x3, x4⟩ := x
        simp only at f0 f1 f2 f3 f4 q2 q3 hct2 hq1 hp0
        have hw1 : wrap64 (cn + x1) = cn + x1 := by unfold wrap64; omega
        have hg2 : decide (x4 < x3) = false := decide_eq_false (by omega)
        have hg3 : decide (x1 < 1) = false := decide_eq_false (by omega)
        have hs0 : span ≠ 0 := by omega
        by_cases h0 : i = 0
        · have hgt : decide (0 < i) = false := decide_eq_false (by omega)
          clear hp0 h0
          go_wp2_with fail
          go_quiet (fail)
          go_wp2_with fail
          refine ⟨⟨i + 1, by omega, by go_num, ?_, ?_, below_drewN HBl.out _⟩, ?_⟩
          · rw [HC1.out]
          · rw [HS1.out, W_wrap64]
          · simp [intOf]; omega
        · obtain ⟨p0, p1⟩ := hp0 h0
          have hgt : decide (0 < i) = true := decide_eq_true (by omega)
          have hix : ((i : Int) - 1).toNat = i - 1 := by omega
          have hi1 : 0 ≤ (i : Int) - 1 ∧ (i : Int) - 1 < (A.length : Int) := by omega
          generalize (atB A (i - 1)).st = y0 at *
          have hg4 : decide (x0 ≤ y0) = false := decide_eq_false (by omega)
          clear hp0
          go_wp2_with fail
          go_quiet (fail)
          go_wp2_with fail
          refine ⟨⟨i + 1, by omega, by go_num, ?_, ?_, below_drewN HBl.out _⟩, ?_⟩
          · rw [HC1.out]
          · rw [HS1.out, W_wrap64]
          · simp [intOf]; omega
      · have he : i = A.length := by omega
        subst he
        rw [List.take_of_length_le (Nat.le_refl _), HCn.out, HSA.out]
        have hz14 := Nat.le_trans hz13 HBl.out.size
        have HB14 := hid (HB13.out.trans (HBl.out.mono hz13))
        clear HBl HB13 HA13 HFA HSA HRA HSt HCt HCn hlt hi
        go_wp2_with fail
        go_loopw [20, 22] (fun ta ti wq => ∃ i : Nat, i ≤ l.length ∧ ti = .int .i64 i ∧ ta = .int .i64 (CL.vals (l.take i)) ∧ wq = wr) (fun _ ti _ => l.length - (intOf ti).toNat)
        case atStart => exact ⟨0, by omega, rfl, rfl, rfl⟩
        case round =>
          obtain ⟨i, hi, rfl, rfl, rfl⟩ := hrel
          by_cases hlt : i < l.length
          · obtain ⟨b, off, hao, hc0, hc1, hbs⟩ := HS.out i hlt
            have c0 := (HB14.out.cell (p := ⟨b, off + i * 2, none⟩) hbs).trans hc0
            have c1 := (HB14.out.cell (p := ⟨b, off + i * 2 + 1, none⟩) hbs).trans hc1
            subst hao
            have hr1 := HRR.out _ (CL.at_mem l i hlt)
            have HV := hid (vals_step l i hlt)
            clear hc0 hc1
            generalize CL.vals (l.take i) = vn at *
            generalize (CL.at' l i).1 = T at *
            generalize (CL.at' l i).2 = V at *
            have hfl := CL.flr_le T span hs1
            have HF := hid (floor_any T span wr (by omega) (by omega))
            generalize CL.flr T span = F at *
            have hw1 : wrap64 (T - F) = T - F := by unfold wrap64; omega
            have hg1 : decide (T < F) = false := decide_eq_false (by omega)
            have hg2 : decide (span ≤ T - F) = false := decide_eq_false (by omega)
            go_wp2_with fail
            refine Calls.mono HF.out ?_
            rintro e w15 ⟨rfl, rfl⟩
            go_wp2_with fail
            refine ⟨⟨i + 1, by omega, by go_num, ?_, trivial⟩, ?_⟩
            · rw [HV.out, W_wrap64]
            · simp [intOf]; omega
          · have he : i = l.length := by omega
            subst he
            rw [List.take_of_length_le (Nat.le_refl _)]
            have hq1 : ((l.length : Int) == (l.length : Int)) = true := by simp
            have hq2 : (CL.vals l == CL.vals l) = true := by simp
            generalize CL.vals l = vn at *
            go_wp2_with fail
            go_ret
            exact ⟨rfl, HB14.out⟩

end Go.Proofs.Ytdmnlmohfaafoab
