/- What the law CodeReads answers. -/
import Derived.Test.YtdmnlmohfaafoadDoorCrLawN
namespace Go.Proofs.YtdmnlmohfaafoadDoor
open Go.RowKit

theorem creads_long (s : ByteArray) (ao : Option Addr) (len cap : Nat) (w : World) (h : 400 < s.size ∨ 30 < len) :
    Calls Tryd.prog 5 #[.string s, .slice ao len cap] w fun e w' => e = .returned (.bool true) ∧ w' = w := by
  by_cases h1 : 400 < s.size
  · have h1' : (400 : Int) < (s.size : Int) := by omega
    clear h h1
    go_enter Tryd.func5, Tryd.ntmps5
    go_wp2_with fail
    go_ret
    exact ⟨rfl, rfl⟩
  · have h1' : ¬ (400 : Int) < (s.size : Int) := by omega
    have h2' : (30 : Int) < (len : Int) := by omega
    clear h h1
    go_enter Tryd.func5, Tryd.ntmps5
    go_wp2_with fail
    go_ret
    exact ⟨rfl, rfl⟩

set_option maxRecDepth 100000 in
set_option maxHeartbeats 3200000 in
theorem creads_any (s : ByteArray) (ao : Option Addr) (len cap : Nat) (ks : Nat → Int) (w : World) (hs : s.size ≤ 400) (hlen : len ≤ 30) (hW : Wids w)
    (hc : ∀ i, i < len → ∃ b off, ao = some ⟨b, off, none⟩ ∧ w.cell? ⟨b, off + i, none⟩ = some (.int .i64 (ks i)) ∧ b < w.heap.size) (hk : ∀ i, i < len → -9223372036854775808 ≤ ks i ∧ ks i ≤ 9223372036854775807) :
    Calls Tryd.prog 5 #[.string s, .slice ao len cap] w fun e w' => e = .returned (.bool true) ∧ Below w.heap.size w w' := by
  have hG : 1 < w.heap.size := World.block_lt_of_cell? _ _ (hW 0 (by omega))
  have hs1 : ¬ (400 : Int) < (s.size : Int) := by omega
  have hs2 : ¬ (30 : Int) < (len : Int) := by omega
  have hl : s.data.toList.length = s.size := by rw [Array.length_toList]; rfl
  have HC := hid hc
  have HK := hid hk
  have HWd := hid hW
  have HF := hid (cfrom_any s w)
  have HP0 : Hid (PairI ((w.alloc (.cells #[.string s, .bool false] 90)).alloc (.cells #[.string s, .bool false] 55)) w.heap.size (w.heap.size + 1) ∧ Below w.heap.size w ((w.alloc (.cells #[.string s, .bool false] 90)).alloc (.cells #[.string s, .bool false] 55))) := by
    have hb1 : Below w.heap.size w (w.alloc (.cells #[.string s, .bool false] 90)) := (Below.refl _ w).alloc (Nat.le_refl _) _
    refine ⟨⟨s.data.toList, s.data.toList, false, ?_, ?_, fun _ => rfl, by omega, by omega⟩, hb1.alloc hb1.size _⟩
    · exact (RdI.new s w).below ((Below.refl _ _).alloc (Nat.le_refl _) _)
    · show _ = _
      rw [sb_of]
      have := heap_alloc_new (w.alloc (.cells #[.string s, .bool false] 90)) (.cells #[.string s, .bool false] 55)
      simpa using this
  clear hc hk hW hl
  go_enter Tryd.func5, Tryd.ntmps5
  go_wp2_with fail
  refine HF.out.mono ?_
  rintro e w1 ⟨rfl, rfl⟩
  clear HF
  go_wp2_with fail
  generalize (w.alloc (.cells #[.string s, .bool false] 90)).alloc (.cells #[.string s, .bool false] 55) = w2 at *
  go_loopw [7, 8, 9] (fun ti _ _ wr => ∃ i : Nat, i ≤ len ∧ ti = .int .i64 i ∧ PairI wr w.heap.size (w.heap.size + 1) ∧ Below w.heap.size w wr) (fun ti _ _ _ => len - (intOf ti).toNat)
  case atStart => exact ⟨0, by omega, rfl, HP0.out.1, HP0.out.2⟩
  case round =>
    obtain ⟨i, hi, rfl, ⟨Sp, St, bad, hR, hT, hEq, hl1, hl2⟩, hbel⟩ := hrel
    have HR := hid hR
    have HT := hid hT
    have HEq := hid hEq
    have HBl := hid hbel
    have hsz := hbel.size
    clear hR hT hEq hbel HP0
    by_cases hlt : i < len
    · obtain ⟨b, off, hao, hc0, hbs⟩ := HC.out i hlt
      obtain ⟨hk1, hk2⟩ := HK.out i hlt
      subst hao
      have hcell := (HBl.out.cell (p := ⟨b, off + i, none⟩) hbs).trans hc0
      generalize ks i = v at *
      clear hc0
      clear HC HK
      obtain ⟨U, hU, hUl⟩ : ∃ U : Nat, IntKind.u64.wrap v = (U : Int) ∧ U < 18446744073709551616 := ⟨(v % 18446744073709551616).toNat, by rw [IntKind.wrap_u64]; omega, by omega⟩
      obtain ⟨q, hq, hq4⟩ : ∃ q : Nat, (U : Int) % 4 = (q : Int) ∧ q < 4 := ⟨U % 4, by omega, by omega⟩
      have hil : 0 ≤ (i : Int) ∧ (i : Int) < (len : Int) := by omega
      go_upto_block 2 with fail
      go_cut [8, 9, 34] (fun _ _ _ wx => PairI wx w.heap.size (w.heap.size + 1) ∧ Below w.heap.size w wx)
      case first =>
        obtain rfl | rfl | rfl | rfl : q = 0 ∨ q = 1 ∨ q = 2 ∨ q = 3 := by omega
        · obtain ⟨n, Rp, Rt, b', hN1, hN2, hN3, hN4, hN5, _, _, _⟩ := tN_pair HEq.out
          have HC1 := pnum_any w.heap.size Sp bad wr HR.out (by omega)
          rw [hN1] at HC1
          have HC1 := hid HC1
          have HN2 := hid hN2
          have HN3 := hid hN3
          clear hN1 hN2 hN3
          go_wp2_with fail
          refine HC1.out.mono ?_
          rintro e w3 ⟨rfl, hR3, hG3⟩
          dsimp only at hR3 ⊢
          have hT3 := HT.out.by_rd (But.grown hG3) (by omega)
          have hB3 := below_by HBl.out hG3 (Nat.le_refl _) hsz
          have HC2 := rnum_any (w.heap.size + 1) St bad w3 hT3 (by omega)
          rw [HN2.out] at HC2
          have HC2 := hid HC2
          have HR3 := hid hR3
          have HB3 := hid hB3
          clear hR3 hG3 hT3 hB3 HC1
          go_wp2_with fail
          refine HC2.out.mono ?_
          rintro e w4 ⟨rfl, hT4, hG4⟩
          dsimp only at hT4 ⊢
          have HP : Hid (PairI w4 w.heap.size (w.heap.size + 1) ∧ Below w.heap.size w w4) := ⟨⟨Rp, Rt, b', HR3.out.by_tk (But.grown hG4) (by omega), hT4, HN3.out, by omega, by omega⟩, below_by HB3.out hG4 (by omega) HB3.out.size⟩
          clear hT4 hG4 HC2
          go_wp2_with fail
          go_meet
          case rel => exact HP.out
        · obtain ⟨a, Rp, Rt, b', hN1, hN2, hN3, hN4, hN5⟩ := tT_pair HEq.out
          have HC1 := ptxt_any w.heap.size Sp bad wr HR.out (by omega)
          rw [hN1] at HC1
          have HC1 := hid HC1
          have HN2 := hid hN2
          have HN3 := hid hN3
          clear hN1 hN2 hN3
          go_wp2_with fail
          refine HC1.out.mono ?_
          rintro e w3 ⟨rfl, hR3, hG3⟩
          dsimp only at hR3 ⊢
          have hT3 := HT.out.by_rd (But.grown hG3) (by omega)
          have hB3 := below_by HBl.out hG3 (Nat.le_refl _) hsz
          have HC2 := rtxt_any (w.heap.size + 1) St bad w3 hT3 (by omega)
          rw [HN2.out] at HC2
          have HC2 := hid HC2
          have HR3 := hid hR3
          have HB3 := hid hB3
          clear hR3 hG3 hT3 hB3 HC1
          go_wp2_with fail
          refine HC2.out.mono ?_
          rintro e w4 ⟨rfl, hT4, hG4⟩
          dsimp only at hT4 ⊢
          have HP : Hid (PairI w4 w.heap.size (w.heap.size + 1) ∧ Below w.heap.size w w4) := ⟨⟨Rp, Rt, b', HR3.out.by_tk (But.grown hG4) (by omega), hT4, HN3.out, by omega, by omega⟩, below_by HB3.out hG4 (by omega) HB3.out.size⟩
          clear hT4 hG4 HC2
          go_wp2_with fail
          go_meet
          case rel => exact HP.out
        · obtain ⟨n, Rp, Rt, b', hN1, hN2, hN3, hN4, hN5, hN6, hn1, hn2⟩ := tN_pair HEq.out
          obtain ⟨M, hM, hM50⟩ : ∃ M : Nat, (U : Int) % 50 = (M : Int) ∧ M < 50 := ⟨U % 50, by omega, by omega⟩
          have hMw : IntKind.i64.wrap (M : Int) = M := by rw [IntKind.wrap_i64]; omega
          have HC1 := rnum_any (w.heap.size + 1) St bad wr HT.out (by omega)
          rw [hN2] at HC1
          have HC1 := hid HC1
          have HZ : Hid (tZ Sp bad M = if b' = false ∧ 0 ≤ n ∧ n ≤ (M : Int) then (n, Rp, false) else (0, Rp, true)) := by
            show _ = _
            unfold tZ
            rw [hN1]
          have HN3 := hid hN3
          have HN6 := hid hN6
          clear hN1 hN2 hN3 hN6
          go_wp2_with fail
          refine HC1.out.mono ?_
          rintro e w3 ⟨rfl, hT3, hG3⟩
          dsimp only at hT3 ⊢
          have hR3 := HR.out.by_tk (But.grown hG3) (by omega)
          have hB3 := below_by HBl.out hG3 (by omega) hsz
          obtain ⟨c0, c1, f0, f1⟩ := hT3.c
          have HT3 := hid hT3
          have HR3 := hid hR3
          have HB3 := hid hB3
          clear hR3 hG3 hT3 hB3 HC1
          by_cases hr : 0 ≤ n ∧ n ≤ (M : Int)
          · have hr1 : ¬ n < 0 := by omega
            have hr2 : ¬ (M : Int) < n := by omega
            have hZ2 : tZ Sp bad M = (n, Rp, b') := by
              rw [HZ.out]
              cases b' with
              | true => rw [if_neg (by rintro ⟨h, _⟩; cases h), HN6.out rfl]
              | false => rw [if_pos ⟨rfl, hr.1, hr.2⟩]
            have HC2 := psize_any w.heap.size Sp bad M w3 HR3.out (by omega) (by omega)
            rw [hZ2] at HC2
            have HC2 := hid HC2
            clear hZ2 HZ HN6 hr
            go_wp2_with fail
            refine HC2.out.mono ?_
            rintro e w4 ⟨rfl, hR4, hG4⟩
            dsimp only at hR4 ⊢
            have HP : Hid (PairI w4 w.heap.size (w.heap.size + 1) ∧ Below w.heap.size w w4) := ⟨⟨Rp, Rt, b', hR4, HT3.out.by_rd (But.grown hG4) (by omega), HN3.out, by omega, by omega⟩, below_by HB3.out hG4 (by omega) HB3.out.size⟩
            clear hR4 hG4 HC2
            go_wp2_with fail
            go_meet
            case rel => exact HP.out
          · have hZ2 : tZ Sp bad M = (0, Rp, true) := by
              rw [HZ.out, if_neg (fun h => hr h.2)]
            have HT4 : Hid (TkI (w3.setCell ⟨w.heap.size + 1, 1, none⟩ (.bool true)) (w.heap.size + 1) Rt true) := HT3.out.s1 true
            have HB4 : Hid (Below w.heap.size w (w3.setCell ⟨w.heap.size + 1, 1, none⟩ (.bool true))) := below_by HB3.out (tgrown _ _ _ _) (by omega) HB3.out.size
            have HC2 := psize_any w.heap.size Sp bad M (w3.setCell ⟨w.heap.size + 1, 1, none⟩ (.bool true)) (HR3.out.by_tk (But.grown (tgrown _ _ _ _)) (by omega)) (by omega) (by omega)
            rw [hZ2] at HC2
            have HC2 := hid HC2
            clear hZ2 HZ HN6
            by_cases h0 : n < 0
            · clear hr
              go_wp2_with fail
              refine HC2.out.mono ?_
              rintro e w4 ⟨rfl, hR4, hG4⟩
              dsimp only at hR4 ⊢
              have HP : Hid (PairI w4 w.heap.size (w.heap.size + 1) ∧ Below w.heap.size w w4) := ⟨⟨Rp, Rt, true, hR4, HT4.out.by_rd (But.grown hG4) (by omega), (fun h => by cases h), by omega, by omega⟩, below_by HB4.out hG4 (by omega) HB4.out.size⟩
              clear hR4 hG4 HC2
              go_wp2_with fail
              go_meet
              case rel => exact HP.out
            · have hr2 : (M : Int) < n := by omega
              clear hr
              go_wp2_with fail
              refine HC2.out.mono ?_
              rintro e w4 ⟨rfl, hR4, hG4⟩
              dsimp only at hR4 ⊢
              have HP : Hid (PairI w4 w.heap.size (w.heap.size + 1) ∧ Below w.heap.size w w4) := ⟨⟨Rp, Rt, true, hR4, HT4.out.by_rd (But.grown hG4) (by omega), (fun h => by cases h), by omega, by omega⟩, below_by HB4.out hG4 (by omega) HB4.out.size⟩
              clear hR4 hG4 HC2
              go_wp2_with fail
              go_meet
              case rel => exact HP.out
        · cases bad with
          | true =>
            have HC1 := hid (pser_bad w.heap.size Sp wr HR.out (by omega))
            go_wp2_with fail
            refine HC1.out.mono ?_
            rintro e w3 ⟨rfl, hR3, hG3⟩
            have hT3 := HT.out.by_rd hG3 (by omega)
            have HB3 := hid (below_but HBl.out hG3 (Nat.le_refl _) hsz)
            have HC2 := hid (rser_bad (w.heap.size + 1) St w3 hT3 (by omega))
            have HR3 := hid hR3
            clear hR3 hG3 hT3 HC1
            go_wp2_with fail
            refine HC2.out.mono ?_
            rintro e w4 ⟨rfl, hT4, hG4⟩
            have HP : Hid (PairI w4 w.heap.size (w.heap.size + 1) ∧ Below w.heap.size w w4) := ⟨⟨Sp, St, true, HR3.out.by_tk hG4 (by omega), hT4, (fun h => by cases h), by omega, by omega⟩, below_but HB3.out hG4 (by omega) HB3.out.size⟩
            have HC3 := hid (sameSr_any none none [] 0 0 w4 (SrRow.nil _ _) (SrRow.nil _ _) srFew_nil)
            clear hT4 hG4 HC2
            go_wp2_with fail
            refine HC3.out.mono ?_
            rintro e w5 ⟨rfl, m, rfl⟩
            clear HC3
            go_wp2_with fail
            go_meet
            case rel => exact ⟨HP.out.1, lbelow_drewN HP.out.2 _⟩
          | false =>
            obtain rfl := HEq.out rfl
            have HC1 := hid (pser_any w.heap.size Sp wr HR.out (by omega) (HWd.out.below HBl.out hG) (by omega) (by omega))
            go_wp2_with fail
            refine HC1.out.mono ?_
            rintro e w3 ⟨hG3, hend⟩
            have hT3 := HT.out.by_rd hG3 (by omega)
            have HB3 := hid (below_but HBl.out hG3 (Nat.le_refl _) hsz)
            have HC2 := hid (rser_any (w.heap.size + 1) Sp w3 hT3 (by omega))
            have HT3 := hid hT3
            clear hG3 hT3 HC1
            rcases hend with ⟨l, r, v1, h1, rfl, hR3, h4, h5⟩ | ⟨h1, rfl, S', hR3, h4⟩
            · have HSF := hid (srFew_of h1 (by omega))
              have H1 := hid h1
              have HO3 := hid h4
              have HR3 := hid hR3
              obtain ⟨ao1, cap1, hv1, _⟩ := SrRow.of_own h4
              clear h1 h4 hR3
              subst hv1
              generalize hll : (l.map toSr).length = ll at *
              have HLL := hid hll
              clear hll
              go_wp2_with fail
              refine HC2.out.mono ?_
              rintro e w4 ⟨hG4, hend⟩
              obtain ⟨v2, rfl, hT4, hO4⟩ : ∃ v2, e = .returned v2 ∧ TkI w4 (w.heap.size + 1) r false ∧ SrOwn w4 w3.heap.size v2 (l.map toSr) := by
                rcases hend with ⟨l', r', v2, h1, h2, h3, h4⟩ | ⟨h1, _⟩
                · rw [H1.out] at h1
                  simp only [Option.some.injEq, Prod.mk.injEq] at h1
                  obtain ⟨rfl, rfl⟩ := h1
                  exact ⟨v2, h2, h3, h4⟩
                · rw [H1.out] at h1; cases h1
              obtain ⟨ao2, cap2, hv2, hr2⟩ := SrRow.of_own hO4
              obtain ⟨ao1', cap1', hv1', hr1⟩ := SrRow.of_own (HO3.out.but HT3.out hG4)
              rw [HLL.out] at hv1' hv2
              simp only [Value.slice.injEq, true_and] at hv1'
              obtain ⟨rfl, rfl⟩ := hv1'
              have HC3 := sameSr_any ao1 ao2 (l.map toSr) cap1 cap2 w4 hr1 hr2 HSF.out
              rw [HLL.out] at HC3
              have HC3 := hid HC3
              have HP : Hid (PairI w4 w.heap.size (w.heap.size + 1) ∧ Below w.heap.size w w4) := ⟨⟨r, r, false, HR3.out.by_tk hG4 (by omega), hT4, (fun _ => rfl), by omega, by omega⟩, below_but HB3.out hG4 (by omega) HB3.out.size⟩
              clear hend hT4 hO4 hr1 hr2 hG4 HC2 HSF
              subst hv2
              go_wp2_with fail
              refine HC3.out.mono ?_
              rintro e w5 ⟨rfl, m, rfl⟩
              clear HC3
              go_wp2_with fail
              go_meet
              case rel => exact ⟨HP.out.1, lbelow_drewN HP.out.2 _⟩
            · have H1 := hid h1
              have HR3 := hid hR3
              clear h1 hR3
              go_wp2_with fail
              refine HC2.out.mono ?_
              rintro e w4 ⟨hG4, hend⟩
              obtain ⟨rfl, S2, hT4, hl4⟩ : e = .returned (.slice none 0 0) ∧ ∃ S2, TkI w4 (w.heap.size + 1) S2 true ∧ S2.length ≤ Sp.length := by
                rcases hend with ⟨l', r', v2, h1, _⟩ | ⟨_, h2, h3⟩
                · rw [H1.out] at h1; cases h1
                · exact ⟨h2, h3⟩
              have HP : Hid (PairI w4 w.heap.size (w.heap.size + 1) ∧ Below w.heap.size w w4) := ⟨⟨S', S2, true, HR3.out.by_tk hG4 (by omega), hT4, (fun h => by cases h), by omega, by omega⟩, below_but HB3.out hG4 (by omega) HB3.out.size⟩
              have HC3 := hid (sameSr_any none none [] 0 0 w4 (SrRow.nil _ _) (SrRow.nil _ _) srFew_nil)
              clear hT4 hG4 hend HC2
              go_wp2_with fail
              refine HC3.out.mono ?_
              rintro e w5 ⟨rfl, m, rfl⟩
              clear HC3
              go_wp2_with fail
              go_meet
              case rel => exact ⟨HP.out.1, lbelow_drewN HP.out.2 _⟩
      case rest =>
        obtain ⟨⟨Sp', St', bad', hR, hT, hEq, hl1', hl2'⟩, hbel'⟩ := hcut
        have HBl' := hid hbel'
        have HP' : Hid (PairI wc w.heap.size (w.heap.size + 1)) := ⟨Sp', St', bad', hR, hT, hEq, hl1', hl2'⟩
        have HCB : Hid (∀ n, Calls Tryd.prog 29 #[.pointer (some ⟨w.heap.size, 0, none⟩)] (wc.drewN n) fun e w' => e = .returned (.bool bad') ∧ w' = wc.drewN n) := fun n => bad_any w.heap.size Sp' bad' _ hR
        have HCD : Hid (∀ n, Calls Tryd.prog 30 #[.pointer (some ⟨w.heap.size, 0, none⟩)] (wc.drewN n) fun e w' => e = .returned (.bool (!bad' && decide (Sp' = []))) ∧ w' = wc.drewN n) := fun n => done_any w.heap.size Sp' bad' _ hR
        obtain ⟨c0, c1, f0, f1⟩ := hT.c
        have HEq' := hid hEq
        clear hR hT hEq hbel'
        cases bad' with
        | true =>
          have e0 : (!true && decide (Sp' = [])) = false := rfl
          rw [e0] at HCD
          clear e0
          go_wp2_with fail
          go_quiet ((first | (go_at_call 29; exact Calls.quiet_of_same (HCB.out _)) | (go_at_call 30; exact Calls.quiet_of_same (HCD.out _))))
          go_wp2_with fail
          go_roundw
          case rel => exact ⟨i + 1, by omega, by go_num, HP'.out, lbelow_drewN HBl'.out _⟩
          case measure => simp [intOf]; omega
        | false =>
          obtain rfl := HEq'.out rfl
          have hrl : (sb Sp').toList = Sp' := by rw [Lib.toList_data, sb_data]
          obtain ⟨q', hq'⟩ : ∃ q', decide (Sp' = []) = q' := ⟨_, rfl⟩
          have hq2 : ((sb Sp').toList == ([] : List UInt8)) = q' := by
            rw [hrl, ← hq']
            cases Sp' <;> rfl
          have e0 : (!false && decide (Sp' = [])) = q' := by rw [hq']; rfl
          rw [e0] at HCD
          clear e0 hq' hrl
          go_wp2_with fail
          go_quiet ((first | (go_at_call 29; exact Calls.quiet_of_same (HCB.out _)) | (go_at_call 30; exact Calls.quiet_of_same (HCD.out _))))
          go_wp2_with fail
          go_roundw
          case rel => exact ⟨i + 1, by omega, by go_num, HP'.out, lbelow_drewN HBl'.out _⟩
          case measure => simp [intOf]; omega
    · clear HC HK
      go_wp2_with fail
      go_ret
      exact ⟨rfl, HBl.out⟩

end Go.Proofs.YtdmnlmohfaafoadDoor
