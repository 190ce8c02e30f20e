/- AskBack: what is printed asks just what was asked. -/
import Derived.Test.YtdmnlmohfaafoaeDoorAqRead
import Derived.Test.YtdmnlmohfaafoaeDoorAqPrx
namespace Go.Proofs.YtdmnlmohfaafoaeDoor
open Go.RowKit Go.Shelf

def qt1 : ByteArray := ⟨#[40, 116, 111, 116, 97, 108, 40, 32, 115, 117, 109, 40, 123, 97, 61, 34, 120, 34, 125, 91, 49, 48, 93, 41, 41, 32, 98, 121, 32, 40, 98, 41, 32, 45, 32, 40, 51, 32, 42, 32, 50, 41, 41]⟩
def qt2 : List UInt8 := [116, 111, 116, 97, 108, 40, 115, 117, 109, 40, 123, 97, 61, 34, 120, 34, 125, 91, 49, 48, 93, 41, 41, 32, 98, 121, 32, 40, 98, 41, 32, 45, 32, 51, 32, 42, 32, 50]
def qq1 : AQ.Q := .mk 14 0 [] 0 [] (.mk 8 0 [] 0 [⟨#[98]⟩] (.mk 4 0 [⟨⟨#[97]⟩, 0, ⟨#[120]⟩⟩] 10 [] .none .none) .none) (.mk 15 0 [] 0 [] (.mk 1 3 [] 0 [] .none .none) (.mk 1 2 [] 0 [] .none .none))

theorem itoa_small {n : Int} (h : 0 ≤ n) (h' : n < 10) : Lib.itoa n = [UInt8.ofNat (48 + n.toNat)] := by
  rw [AQ.itoa_of h, Lib.decDigits, dif_pos (by omega)]
theorem itoa_ten : Lib.itoa 10 = [49, 48] := by
  rw [AQ.itoa_of (by decide), show ((10 : Int)).toNat = 10 from rfl, Lib.decDigits, dif_neg (by decide), Lib.decDigits, dif_pos (by decide)]
  rfl

theorem qq_print : AQ.print qq1 = qt2 := by
  have e10 := itoa_ten
  have e3 : Lib.itoa 3 = [51] := itoa_small (by decide) (by decide)
  have e2 : Lib.itoa 2 = [50] := itoa_small (by decide) (by decide)
  simp [AQ.print, qq1, AQ.txt, AQ.parT, AQ.wgt, AQ.Q.code, AQ.matT, AQ.itemsT, AQ.item, AQ.opT, AQ.ops, AQ.wordT, AQ.words, AQ.signT, AQ.byT, e10, e3, e2, Lib.join, List.intercalate, qt2]

theorem qq_parse : ∃ r, AQ.parse qt1.data.toList = .ok qq1 r := ⟨_, rfl⟩

theorem asked_ok {m : List LB.Mat} (h : AQ.matsOk m) : LB.asked m = true := by
  unfold LB.asked
  rw [Bool.and_eq_true]
  refine ⟨decide_eq_true h.1, List.all_eq_true.2 fun x hx => ?_⟩
  obtain ⟨a, b, c, d⟩ := h.2 x hx
  unfold LB.askd
  rw [a, d]
  simp only [Bool.and_self, Bool.true_and, decide_eq_true_eq]
  omega

theorem qt2_list : (⟨qt2.toArray⟩ : ByteArray).toList = [116, 111, 116, 97, 108, 40, 115, 117, 109, 40, 123, 97, 61, 34, 120, 34, 125, 91, 49, 48, 93, 41, 41, 32, 98, 121, 32, 40, 98, 41, 32, 45, 32, 51, 32, 42, 32, 50] := by rw [Lib.toList_data]; rfl

set_option maxRecDepth 100000 in
set_option maxHeartbeats 1600000 in
theorem questioned_any (w : World) (hG : Gl w) :
    Calls Tryd.prog 27 #[] w fun e w' => e = .returned (.bool true) ∧ Below w.heap.size w w' := by
  have HG := hid hG
  have HC := hid (parse_any qt1 w hG (by decide))
  obtain ⟨r, hr⟩ := qq_parse
  have HR := hid hr
  obtain ⟨hok, hfew, _⟩ := AQ.parse_back hr (by decide)
  have HOk := hid hok
  have HPt := hid (Nat.le_trans (AQ.parts_le hok) hfew)
  clear hG hr hok hfew
  go_enter Tryd.func27, Tryd.ntmps27
  go_wp2_with fail
  refine HC.out.mono ?_
  intro e w1 hE
  obtain ⟨v, rfl, hv⟩ := hE.ok _ _ HR.out
  obtain ⟨B, hpv, hcode⟩ : ∃ B, v = .pointer (some ⟨B, 0, none⟩) ∧ w1.cell? ⟨B, 0, none⟩ = some (.int .i64 14) := by
    obtain ⟨B, mv, bv, lv, rv, e, hb, _⟩ := hv
    exact ⟨B, e, kcell _ _ _ _ hb 0 _ rfl⟩
  subst hpv
  have HB1 := hid hE.low
  have hPr := print_any HOk.out (by have := HPt.out; omega) _ w1 hv (HG.out.below hE.low)
  rw [qq_print] at hPr
  have HPr := hid hPr
  have hQl := qt2_list
  clear hE hv hPr HC
  generalize (⟨qt2.toArray⟩ : ByteArray) = qb at *
  go_wp2_with fail
  refine HPr.out.mono ?_
  rintro e w2 ⟨rfl, hb2⟩
  have HB2 := hid (HB1.out.trans (show Below w.heap.size w1 w2 from ⟨hb2.os, hb2.tape, hb2.output, hb2.size, fun j hj => hb2.block j (Nat.lt_of_lt_of_le hj HB1.out.size)⟩))
  have hqe : (qb.toList == [116, 111, 116, 97, 108, 40, 115, 117, 109, 40, 123, 97, 61, 34, 120, 34, 125, 91, 49, 48, 93, 41, 41, 32, 98, 121, 32, 40, 98, 41, 32, 45, 32, 51, 32, 42, 32, 50]) = true := by rw [hQl]; decide
  clear hb2 HPr hQl
  go_wp2_with fail
  go_ret
  exact ⟨rfl, HB2.out⟩

theorem bel_up {w w1 w2 : World} (h : Below w.heap.size w w1) (k : Below w1.heap.size w1 w2) : Below w.heap.size w w2 :=
  h.trans ⟨k.os, k.tape, k.output, k.size, fun j hj => k.block j (Nat.lt_of_lt_of_le hj h.size)⟩

set_option maxRecDepth 100000 in
theorem aback_long (s : ByteArray) (w : World) (h : 600 < s.size) :
    Calls Tryd.prog 5 #[.string s] w fun e w' => e = .returned (.bool true) ∧ Below w.heap.size w w' := by
  have h' : 600 < (s.size : Int) := by omega
  go_enter Tryd.func5, Tryd.ntmps5
  go_wp2_with fail
  go_ret
  exact ⟨rfl, Below.refl _ _⟩

set_option maxRecDepth 100000 in
set_option maxHeartbeats 3200000 in
theorem aback_any (s : ByteArray) (w : World) (hG : Gl w) (hs : s.size ≤ 600) :
    Calls Tryd.prog 5 #[.string s] w fun e w' => e = .returned (.bool true) ∧ Below w.heap.size w w' := by
  have HG := hid hG
  have hs' : ¬ 600 < (s.size : Int) := by omega
  have hsl : s.data.toList.length ≤ 1000000000 := by rw [show s.data.toList.length = s.size by simp]; omega
  have HSl := hid hsl
  have HSz := hid (show s.size ≤ 1000000000 by omega)
  clear hG hs hsl
  go_enter Tryd.func5, Tryd.ntmps5
  go_wp2_with fail
  refine (questioned_any w HG.out).mono ?_
  rintro e w1 ⟨rfl, hb1⟩
  have HB1 := hid hb1
  clear hb1
  go_wp2_with fail
  refine (parse_any s w1 (HG.out.below HB1.out) HSz.out).mono ?_
  intro e w2 hE
  have hB2 := bel_up HB1.out hE.low
  have HB2 := hid hB2
  clear hB2
  have hmatch : ∀ W, Below w.heap.size w W → Calls Tryd.prog 30 #[.string s] W fun e w' => REnd VL (.slice none 0 0) W w' e (AQ.matchR s.data.toList) := fun W h => match_any s W (HG.out.below h) HSz.out
  have HMa := hid hmatch
  clear hmatch
  rcases hR : AQ.parse s.data.toList with ⟨q, r⟩ | ⟨c, p⟩
  · obtain ⟨v, rfl, hv⟩ := hE.ok q r hR
    obtain ⟨va, ev⟩ := hv.ptr
    subst ev
    obtain ⟨hok, hfew, r', hback⟩ := AQ.parse_back hR HSl.out
    have HOk := hid hok
    have HBk := hid hback
    have hpl := Nat.le_trans (AQ.parts_le hok) hfew
    have HPl := hid hpl
    have hpb : (⟨(AQ.print q).toArray⟩ : ByteArray).size ≤ 1000000000 := by
      have e : (⟨(AQ.print q).toArray⟩ : ByteArray).size = (AQ.print q).length := by simp [ByteArray.size]
      have e2 : AQ.print q = AQ.txt q := by unfold AQ.print AQ.parT; rw [if_pos (Nat.zero_le _)]
      have h1 := AQ.txt_len hok
      rw [e, e2]
      omega
    have HPb := hid hpb
    have HPr := hid (print_any hok (by omega) _ w2 hv (HG.out.below HB2.out))
    clear hR hE hv hok hback hfew hpl hpb
    go_wp2_with fail
    refine HPr.out.mono ?_
    rintro e w3 ⟨rfl, hb3⟩
    have HB3 := hid (bel_up HB2.out hb3)
    clear hb3 HPr
    have hP2 := parse_any ⟨(AQ.print q).toArray⟩ w3 (HG.out.below HB3.out) HPb.out
    have HP2 := hid hP2
    clear hP2
    have HBk2 : Hid (AQ.parse (⟨(AQ.print q).toArray⟩ : ByteArray).data.toList = .ok q r') := HBk.out
    have HPq := hid (fun (v : Value) (W : World) (hA : AskT W v q) (hW : Gl W) => print_any HOk.out (by have := HPl.out; omega) v W hA hW)
    generalize (⟨(AQ.print q).toArray⟩ : ByteArray) = tb at *
    go_wp2_with fail
    refine HP2.out.mono ?_
    intro e w4 hE
    obtain ⟨v4, rfl, hv4⟩ := hE.ok q r' HBk2.out
    obtain ⟨a4, ev4⟩ := hv4.ptr
    subst ev4
    have hB4 := bel_up HB3.out hE.low
    have HB4 := hid hB4
    have HP4 := hid (HPq.out _ w4 hv4 (HG.out.below hB4))
    clear hE hv4 hB4 HP2
    go_wp2_with fail
    refine HP4.out.mono ?_
    rintro e w5 ⟨rfl, hb5⟩
    have HB5 := hid (bel_up HB4.out hb5)
    have hte : (tb.toList == tb.toList) = true := by simp
    clear hb5 HP4
    go_wp2_with fail
    refine (HMa.out w5 HB5.out).mono ?_
    intro e w6 hE
    have hB6 := bel_up HB5.out hE.low
    have HB6 := hid hB6
    clear hB6
    rcases hR : AQ.matchR s.data.toList with ⟨m, r⟩ | ⟨c, p⟩
    · obtain ⟨v, rfl, hv⟩ := hE.ok m r hR
      obtain ⟨xa, xc, ev⟩ := kown_slice hv
      subst ev
      obtain ⟨hm, r', hback⟩ := AQ.match_back hR HSl.out
      have HM := hid hm
      have HBk := hid hback
      have HV6 := hid hv
      have hml := AQ.mat_len hm
      have hmz : (⟨(AQ.matT m).toArray⟩ : ByteArray).size ≤ 1000000000 := by
        have e : (⟨(AQ.matT m).toArray⟩ : ByteArray).size = (AQ.matT m).length := by simp [ByteArray.size]
        omega
      have HMz := hid hmz
      have HMt := hid (fun (W : World) (h : Below w6.heap.size w6 W) => mts_any xa m xc W ((own_mrow hv).below h) hm ((HG.out.below HB6.out).below h))
      have HMs := hid (fun (va : Option Addr) (vc : Nat) (W : World) (hA : OwnM W 0 (.slice va m.length vc) m) (hW : Gl W) => mts_any va m vc W (own_mrow hA) hm hW)
      have hasd := asked_ok hm
      have HAs := hid (fun (W : World) (h : Below w6.heap.size w6 W) => asked_any xa m xc W ((own_mrow hv).below h) (by have := hm.1; omega))
      rw [hasd] at HAs
      have HMa2 := hid (fun (W : World) (h : Below w.heap.size w W) => match_any ⟨(AQ.matT m).toArray⟩ W (HG.out.below h) HMz.out)
      have HBk2 : Hid (AQ.matchR (⟨(AQ.matT m).toArray⟩ : ByteArray).data.toList = .ok m r') := HBk.out
      generalize (⟨(AQ.matT m).toArray⟩ : ByteArray) = mb at *
      clear hR hE hv hm hback hml hmz hasd
      go_wp2_with fail
      refine (HMt.out w6 (Below.refl _ _)).mono ?_
      rintro e w7 ⟨rfl, hb7⟩
      have HC7 := hid hb7
      have HB7 := hid (bel_up HB6.out hb7)
      clear hb7
      go_wp2_with fail
      refine (HMa2.out w7 HB7.out).mono ?_
      intro e w8 hE
      obtain ⟨v8, rfl, hv8⟩ := hE.ok m r' HBk2.out
      obtain ⟨ya, yc, ey⟩ := kown_slice hv8
      subst ey
      have HC8 := hid (bel_up HC7.out hE.low)
      have HB8 := hid (bel_up HB7.out hE.low)
      have HM8 := hid (HMs.out ya yc w8 hv8 (HG.out.below HB8.out))
      clear hE hv8
      go_wp2_with fail
      refine HM8.out.mono ?_
      rintro e w9 ⟨rfl, hb9⟩
      have HC9 := hid (bel_up HC8.out hb9)
      have HB9 := hid (bel_up HB8.out hb9)
      clear hb9 HM8
      go_wp2_with fail
      refine (HMt.out w9 HC9.out).mono ?_
      rintro e w10 ⟨rfl, hb10⟩
      have HC10 := hid (bel_up HC9.out hb10)
      have HB10 := hid (bel_up HB9.out hb10)
      have hme : (mb.toList == mb.toList) = true := by simp
      clear hb10
      go_wp2_with fail
      refine (HAs.out w10 HC10.out).mono ?_
      rintro e w11 ⟨rfl, hb11⟩
      have HB11 := hid (bel_up HB10.out hb11)
      clear hb11
      go_wp2_with fail
      go_ret
      exact ⟨rfl, HB11.out⟩
    · obtain ⟨B, rfl, hB⟩ := hE.bad c p hR
      clear hR hE hB
      go_wp2_with fail
      go_ret
      exact ⟨rfl, HB6.out⟩
  · obtain ⟨B, rfl, hB⟩ := hE.bad c p hR
    have HB5 := hid HB2.out
    obtain ⟨w5, hw5⟩ : ∃ w5, w5 = w2 := ⟨_, rfl⟩
    subst hw5
    clear hR hE hB
    go_wp2_with fail
    refine (HMa.out w5 HB5.out).mono ?_
    intro e w6 hE
    have hB6 := bel_up HB5.out hE.low
    have HB6 := hid hB6
    clear hB6
    rcases hR : AQ.matchR s.data.toList with ⟨m, r⟩ | ⟨c, p⟩
    · obtain ⟨v, rfl, hv⟩ := hE.ok m r hR
      obtain ⟨xa, xc, ev⟩ := kown_slice hv
      subst ev
      obtain ⟨hm, r', hback⟩ := AQ.match_back hR HSl.out
      have HM := hid hm
      have HBk := hid hback
      have HV6 := hid hv
      have hml := AQ.mat_len hm
      have hmz : (⟨(AQ.matT m).toArray⟩ : ByteArray).size ≤ 1000000000 := by
        have e : (⟨(AQ.matT m).toArray⟩ : ByteArray).size = (AQ.matT m).length := by simp [ByteArray.size]
        omega
      have HMz := hid hmz
      have HMt := hid (fun (W : World) (h : Below w6.heap.size w6 W) => mts_any xa m xc W ((own_mrow hv).below h) hm ((HG.out.below HB6.out).below h))
      have HMs := hid (fun (va : Option Addr) (vc : Nat) (W : World) (hA : OwnM W 0 (.slice va m.length vc) m) (hW : Gl W) => mts_any va m vc W (own_mrow hA) hm hW)
      have hasd := asked_ok hm
      have HAs := hid (fun (W : World) (h : Below w6.heap.size w6 W) => asked_any xa m xc W ((own_mrow hv).below h) (by have := hm.1; omega))
      rw [hasd] at HAs
      have HMa2 := hid (fun (W : World) (h : Below w.heap.size w W) => match_any ⟨(AQ.matT m).toArray⟩ W (HG.out.below h) HMz.out)
      have HBk2 : Hid (AQ.matchR (⟨(AQ.matT m).toArray⟩ : ByteArray).data.toList = .ok m r') := HBk.out
      generalize (⟨(AQ.matT m).toArray⟩ : ByteArray) = mb at *
      clear hR hE hv hm hback hml hmz hasd
      go_wp2_with fail
      refine (HMt.out w6 (Below.refl _ _)).mono ?_
      rintro e w7 ⟨rfl, hb7⟩
      have HC7 := hid hb7
      have HB7 := hid (bel_up HB6.out hb7)
      clear hb7
      go_wp2_with fail
      refine (HMa2.out w7 HB7.out).mono ?_
      intro e w8 hE
      obtain ⟨v8, rfl, hv8⟩ := hE.ok m r' HBk2.out
      obtain ⟨ya, yc, ey⟩ := kown_slice hv8
      subst ey
      have HC8 := hid (bel_up HC7.out hE.low)
      have HB8 := hid (bel_up HB7.out hE.low)
      have HM8 := hid (HMs.out ya yc w8 hv8 (HG.out.below HB8.out))
      clear hE hv8
      go_wp2_with fail
      refine HM8.out.mono ?_
      rintro e w9 ⟨rfl, hb9⟩
      have HC9 := hid (bel_up HC8.out hb9)
      have HB9 := hid (bel_up HB8.out hb9)
      clear hb9 HM8
      go_wp2_with fail
      refine (HMt.out w9 HC9.out).mono ?_
      rintro e w10 ⟨rfl, hb10⟩
      have HC10 := hid (bel_up HC9.out hb10)
      have HB10 := hid (bel_up HB9.out hb10)
      have hme : (mb.toList == mb.toList) = true := by simp
      clear hb10
      go_wp2_with fail
      refine (HAs.out w10 HC10.out).mono ?_
      rintro e w11 ⟨rfl, hb11⟩
      have HB11 := hid (bel_up HB10.out hb11)
      clear hb11
      go_wp2_with fail
      go_ret
      exact ⟨rfl, HB11.out⟩
    · obtain ⟨B, rfl, hB⟩ := hE.bad c p hR
      clear hR hE hB
      go_wp2_with fail
      go_ret
      exact ⟨rfl, HB6.out⟩

end Go.Proofs.YtdmnlmohfaafoaeDoor
