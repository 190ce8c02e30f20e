/- The program's printer: whole at the other questions; part and Print (made by mkaqx.py). -/
import Derived.Test.YtdmnlmohfaafoaeDoorAqPrw
namespace Go.Proofs.YtdmnlmohfaafoaeDoor
open Go.RowKit Go.Shelf

set_option maxRecDepth 100000 in
set_option maxHeartbeats 1600000 in
theorem whole_of (j : Nat) (hj : j < 4) (nm : List ByteArray) (hn : AQ.namesOk nm) (q : AQ.Q) (hlen : (AQ.txt q).length ≤ 1000 * AQ.parts q) (hL : PartK q) : WholeK (.mk (8 + (j : Int)) 0 [] 0 nm q .none) := by
  intro w0 v w bq t k hA hG hP hpk hk hf
  have HT := hid (together_any j hj nm hn q hlen hL w0 v w bq t k hA hG hP hpk hk (by omega))
  obtain ⟨B, mv, bv, lv, rv, hv, hbox, _⟩ := hA
  subst hv
  have b0 := kcell _ _ _ _ ((hP.low.block B (heap_lt hbox)).trans hbox) 0 _ rfl
  have g1 : ((8 + (j : Int)) == 1) = false := by rw [beq_eq_false_iff_ne]; omega
  have g2 : ((8 + (j : Int)) == 2) = false := by rw [beq_eq_false_iff_ne]; omega
  have g3 : 3 ≤ 8 + (j : Int) := by omega
  have g4 : ¬ 8 + (j : Int) ≤ 7 := by omega
  have g5 : 8 ≤ 8 + (j : Int) := by omega
  have g6 : 8 + (j : Int) ≤ 11 := by omega
  clear hG hP hf hpk hk hbox hL hlen
  go_enter Tryd.func109, Tryd.ntmps109
  go_wp2_with fail
  refine HT.out.mono ?_
  rintro e w1 ⟨rfl, hp⟩
  have HP := hid hp
  clear hp
  go_wp2_with fail
  first | go_end0 | refine bodyPost_ret (results_none rfl _ _ _) rfl ?_
  exact ⟨rfl, HP.out⟩

set_option maxRecDepth 100000 in
set_option maxHeartbeats 1600000 in
theorem whole_neg (q : AQ.Q) (hL : PartK q) : WholeK (.mk 12 0 [] 0 [] q .none) := by
  intro w0 v w bq t k hA hG hP hpk hk hf
  obtain ⟨B, mv, bv, lv, rv, hv, hbox, hmv, hbv, hlv, hrv⟩ := hA
  subst hv
  obtain ⟨la, el⟩ := hlv.ptr
  subst el
  have HBox := hid (fun (W : World) (h : Below w0.heap.size w0 W) => (h.block B (heap_lt hbox)).trans hbox)
  have b0 := kcell _ _ _ _ (HBox.out w hP.low) 0 _ rfl
  have HG := hid hG
  have HP := hid hP
  have HL := hid hL
  have HLv := hid hlv
  simp only [AQ.parts] at hpk
  have HKp : Hid ((AQ.parts q : Int) ≤ k) := by show _ ≤ _; omega
  have HLz : Hid (((t ++ [45]).length : Int) + 1010 * k ≤ 900000000 ∧ t.length + 1 ≤ 1000000000) := by
    refine ⟨?_, ?_⟩
    · simp only [List.length_append, List.length_cons, List.length_nil]; omega
    · omega
  have HTx : Hid (t ++ [45] ++ AQ.parT 2 q (AQ.txt q) = t ++ AQ.txt (.mk 12 0 [] 0 [] q .none)) := by
    show _ = _
    have e : AQ.txt (.mk 12 0 [] 0 [] q .none) = 45 :: AQ.parT 2 q (AQ.txt q) := rfl
    rw [e]; simp
  have HKx : Hid (k - (AQ.parts q : Int) = k + 1 - (AQ.parts (.mk 12 0 [] 0 [] q .none) : Nat)) := by show _ = _; simp only [AQ.parts]; omega
  clear hG hP hf hpk hmv hbv hlv hrv hL hbox
  go_enter Tryd.func109, Tryd.ntmps109
  go_wp2_with fail
  refine (pbyte_any w0 bq t k 45 45 rfl w HP.out HLz.out.2).mono ?_
  rintro e w1 ⟨rfl, hp1⟩
  have HP1 := hid hp1
  have l5 := kcell _ _ _ _ (HBox.out w1 hp1.low) 5 _ rfl
  clear hp1
  go_wp2_with fail
  refine (HL.out w0 _ w1 bq _ k 2 HLv.out HG.out HP1.out HKp.out hk HLz.out.1).mono ?_
  rintro e w2 ⟨rfl, hp2⟩
  have HP2 := hid hp2
  clear hp2
  go_wp2_with fail
  first | go_end0 | refine bodyPost_ret (results_none rfl _ _ _) rfl ?_
  exact ⟨rfl, HP2.out.to HTx.out HKx.out⟩

theorem signs_at (i : Nat) (hi : i < 4) : (signs.getD i ⟨#[]⟩).data.toList = [AQ.signT (13 + (i : Int))] ∧ (signs.getD i ⟨#[]⟩).size = 1 :=
  match i, hi with
  | 0, _ => ⟨rfl, rfl⟩
  | 1, _ => ⟨rfl, rfl⟩
  | 2, _ => ⟨rfl, rfl⟩
  | 3, _ => ⟨rfl, rfl⟩

set_option maxRecDepth 100000 in
set_option maxHeartbeats 3200000 in
theorem whole_bin (i : Nat) (hi : i < 4) (l r : AQ.Q) (hll : (AQ.txt l).length ≤ 1000 * AQ.parts l) (hl1 : 1 ≤ AQ.parts l) (hL : PartK l) (hR : PartK r) : WholeK (.mk (13 + (i : Int)) 0 [] 0 [] l r) := by
  intro w0 v w bq t k hA hG hP hpk hk hf
  obtain ⟨B, mv, bv, lv, rv, hv, hbox, hmv, hbv, hlv, hrv⟩ := hA
  subst hv
  obtain ⟨la, el⟩ := hlv.ptr
  subst el
  obtain ⟨ra, er⟩ := hrv.ptr
  subst er
  have HBox := hid (fun (W : World) (h : Below w0.heap.size w0 W) => (h.block B (heap_lt hbox)).trans hbox)
  have b0 := kcell _ _ _ _ (HBox.out w hP.low) 0 _ rfl
  have HG := hid hG
  have HP := hid hP
  have HL := hid hL
  have HR := hid hR
  have HLv := hid hlv
  have HRv := hid hrv
  have HSc := hid (fun (W : World) (h : Below w0.heap.size w0 W) => (HG.out.below h).signs i hi)
  have hsg1 := (signs_at i hi).2
  have HSg := hid (signs_at i hi).1
  have HWt := hid (weight_any (13 + (i : Int)))
  have HTq : Hid (AQ.txt (.mk (13 + (i : Int)) 0 [] 0 [] l r) = AQ.parT (AQ.wgt (13 + (i : Int))) l (AQ.txt l) ++ [32, AQ.signT (13 + (i : Int)), 32] ++ AQ.parT (AQ.wgt (13 + (i : Int)) + 1) r (AQ.txt r)) := by
    show _ = _
    conv => lhs; unfold AQ.txt
    rw [if_neg (by omega), if_neg (by omega), if_neg (by omega), if_neg (by omega), if_neg (by omega), if_pos (by omega)]
  have hwg2 : AQ.wgt (13 + (i : Int)) ≤ 2 := by unfold AQ.wgt; split; · omega
                                                split <;> omega
  simp only [AQ.parts] at hpk
  generalize AQ.wgt (13 + (i : Int)) = wg at *
  generalize signs.getD i ⟨#[]⟩ = sg at *
  have hsub : IntKind.i64.wrap (13 + (i : Int) - 13) = (i : Int) := by rw [IntKind.wrap_i64]; omega
  have hadd : IntKind.i64.wrap ((wg : Int) + 1) = ((wg + 1 : Nat) : Int) := by rw [IntKind.wrap_i64]; omega
  have g1 : ((13 + (i : Int)) == 1) = false := by rw [beq_eq_false_iff_ne]; omega
  have g2 : ((13 + (i : Int)) == 2) = false := by rw [beq_eq_false_iff_ne]; omega
  have g3 : 3 ≤ 13 + (i : Int) := by omega
  have g4 : ¬ 13 + (i : Int) ≤ 7 := by omega
  have g5 : 8 ≤ 13 + (i : Int) := by omega
  have g6 : ¬ 13 + (i : Int) ≤ 11 := by omega
  have g7 : ((13 + (i : Int)) == 12) = false := by rw [beq_eq_false_iff_ne]; omega
  have g8 : 13 ≤ 13 + (i : Int) := by omega
  have g9 : 13 + (i : Int) ≤ 16 := by omega
  clear hG hP hmv hbv hlv hrv hL hR hbox
  go_enter Tryd.func109, Tryd.ntmps109
  go_upto_region 13 with fail
  refine TL.wp_vals 7 [93, 94, 95, 96, 97, 98, 99, 100] (fun W => Pt w0 W bq t k) (fun W => Pt w0 W bq (t ++ AQ.parT wg l (AQ.txt l)) (k - AQ.parts l)) [.pointer (some ⟨bq, 0, none⟩), .pointer (some ⟨B, 0, none⟩), .pointer (some ⟨B, 0, none⟩), .pointer (some ⟨B, 5, none⟩), .pointer la, .int .i64 (13 + (i : Int)), .int .i64 (wg : Int), .tuple #[]] (by kernel_rfl) (by kernel_rfl) (by kernel_rfl) 120 rfl (by kernel_rfl) (by kernel_rfl) (HP.out.below ((Below.refl _ _).drew)) (TL.ix_cons ?_ (TL.ix_cons ?_ (TL.ix_cons ?_ (TL.ix_cons ?_ (TL.ix_cons ?_ (TL.ix_cons ?_ (TL.ix_cons ?_ (TL.ix_cons ?_ TL.ix_nil)))))))) ?_
  · intro a W hlike hC hdep
    refine TL.Does.val (v := .pointer (some ⟨bq, 0, none⟩)) (w' := W) ?_ ⟨hC, rfl⟩
    have e0 : a.eval (.tmp 0) = .pointer (some ⟨bq, 0, none⟩) := hlike.keeps 0 (by kernel_rfl)
    unfold execOp
    dsimp only
    rw [e0]
    rfl
  · intro a W hlike hC hdep
    refine TL.Does.val (v := .pointer (some ⟨B, 0, none⟩)) (w' := W) ?_ ⟨hC, rfl⟩
    have e1 : a.eval (.tmp 1) = .pointer (some ⟨B, 0, none⟩) := hlike.keeps 1 (by kernel_rfl)
    unfold execOp
    dsimp only
    rw [e1]
    rfl
  · intro a W hlike hC hdep
    refine TL.Does.val (v := .pointer (some ⟨B, 0, none⟩)) (w' := W) ?_ ⟨hC, rfl⟩
    have e94 : a.eval (.tmp 94) = .pointer (some ⟨B, 0, none⟩) := hdep 1 (by kernel_rfl)
    unfold execOp
    dsimp only
    rw [e94]
    rfl
  · intro a W hlike hC hdep
    refine TL.Does.val (v := .pointer (some ⟨B, 5, none⟩)) (w' := W) ?_ ⟨hC, rfl⟩
    have e95 : a.eval (.tmp 95) = .pointer (some ⟨B, 0, none⟩) := hdep 2 (by kernel_rfl)
    unfold execOp
    dsimp only
    rw [e95]
    rfl
  · intro a W hlike hC hdep
    exact TL.Does.load rfl (hdep 3 (by kernel_rfl)) (ldAsk _ _ la W (kcell W _ _ _ (HBox.out W hC.low) 5 _ rfl)) ⟨hC, rfl⟩
  · intro a W hlike hC hdep
    refine TL.Does.val (v := .int .i64 (13 + (i : Int))) (w' := W) ?_ ⟨hC, rfl⟩
    have e4 : a.eval (.tmp 4) = .int .i64 (13 + (i : Int)) := hlike.keeps 4 (by kernel_rfl)
    unfold execOp
    dsimp only
    rw [e4]
    rfl
  · intro a W hlike hC hdep
    have e98 : a.eval (.tmp 98) = .int .i64 (13 + (i : Int)) := hdep 5 (by kernel_rfl)
    refine TL.Does.call (f := 108) (args := #[a.eval (.tmp 98)]) (by kernel_rfl) ?_
    rw [e98]
    refine (HWt.out W).mono ?_
    rintro e W' ⟨rfl, rfl⟩
    exact ⟨_, rfl, hC, rfl⟩
  · intro a W hlike hC hdep
    have e93 : a.eval (.tmp 93) = .pointer (some ⟨bq, 0, none⟩) := hdep 0 (by kernel_rfl)
    have e97 : a.eval (.tmp 97) = .pointer la := hdep 4 (by kernel_rfl)
    have e99 : a.eval (.tmp 99) = .int .i64 (wg : Int) := hdep 6 (by kernel_rfl)
    refine TL.Does.call (f := 67) (args := #[a.eval (.tmp 93), a.eval (.tmp 97), a.eval (.tmp 99)]) (by kernel_rfl) ?_
    rw [e93, e97, e99]
    refine (HL.out w0 _ W bq t k wg HLv.out HG.out hC (by omega) hk (by omega)).mono ?_
    rintro e W' ⟨rfl, hp⟩
    exact ⟨_, rfl, hp, rfl⟩
  · intro f W hC
    have HPz := hid hC
    clear hC
    simp only [TL.puts]
    go_frame
    generalize f 93 = gs93
    generalize f 94 = gs94
    generalize f 95 = gs95
    generalize f 96 = gs96
    generalize f 97 = gs97
    generalize f 98 = gs98
    generalize f 99 = gs99
    generalize f 100 = gs100
    have HP1 := hid HPz.out
    clear HPz
    have HL1 : Hid (((t ++ AQ.parT wg l (AQ.txt l)).length : Int) + 1010 * (k - (AQ.parts l : Int)) + 1000 ≤ 900000000) := by
      show _ ≤ _
      rw [List.length_append]
      have h1 := AQ.par_len wg l (AQ.txt l)
      omega
    generalize ht1 : t ++ AQ.parT wg l (AQ.txt l) = t1 at *
    generalize hk1 : k - (AQ.parts l : Int) = k1 at *
    have HT1 := hid ht1
    have HK1 : Hid (0 ≤ k1 ∧ (AQ.parts r : Int) ≤ k1) := ⟨by omega, by omega⟩
    have HKx : Hid (k1 - (AQ.parts r : Int) = k + 1 - (AQ.parts (.mk (13 + (i : Int)) 0 [] 0 [] l r) : Nat)) := by show _ = _; rw [← hk1]; simp only [AQ.parts]; omega
    have hk1b : k1 ≤ 65536 := by omega
    have ht1b : (t1.length : Int) ≤ 900000000 := by have := HL1.out; have := HK1.out.1; omega
    clear ht1 hk1
    go_upto_region 14 with fail
    refine TL.wp_vals 9 [101, 102, 103, 104, 105, 106, 107, 108, 109, 110] (fun W => Pt w0 W bq t1 k1) (fun W => Pt w0 W bq (t1 ++ (⟨#[32]⟩ ++ sg ++ ⟨#[32]⟩ : ByteArray).data.toList) k1) [.pointer (some ⟨bq, 0, none⟩), .pointer (some ⟨bq, 0, none⟩), .pointer (some ⟨bq, 0, none⟩), .int .i64 (13 + (i : Int)), .int .i64 (i : Int), .pointer (some ⟨3, i, none⟩), .string sg, .string (⟨#[32]⟩ ++ sg : ByteArray), .string (⟨#[32]⟩ ++ sg ++ ⟨#[32]⟩ : ByteArray), .tuple #[.int .i64 (⟨#[32]⟩ ++ sg ++ ⟨#[32]⟩ : ByteArray).size, .nilIface]] (by kernel_rfl) (by kernel_rfl) (by kernel_rfl) 120 rfl (by kernel_rfl) (by kernel_rfl) (HP1.out.below ((Below.refl _ _).drew)) (TL.ix_cons ?_ (TL.ix_cons ?_ (TL.ix_cons ?_ (TL.ix_cons ?_ (TL.ix_cons ?_ (TL.ix_cons ?_ (TL.ix_cons ?_ (TL.ix_cons ?_ (TL.ix_cons ?_ (TL.ix_cons ?_ TL.ix_nil)))))))))) ?_
    · intro a W hlike hC hdep
      refine TL.Does.val (v := .pointer (some ⟨bq, 0, none⟩)) (w' := W) ?_ ⟨hC, rfl⟩
      have e0 : a.eval (.tmp 0) = .pointer (some ⟨bq, 0, none⟩) := hlike.keeps 0 (by kernel_rfl)
      unfold execOp
      dsimp only
      rw [e0]
      rfl
    · intro a W hlike hC hdep
      refine TL.Does.val (v := .pointer (some ⟨bq, 0, none⟩)) (w' := W) ?_ ⟨hC, rfl⟩
      have e101 : a.eval (.tmp 101) = .pointer (some ⟨bq, 0, none⟩) := hdep 0 (by kernel_rfl)
      unfold execOp
      dsimp only
      rw [e101]
      rfl
    · intro a W hlike hC hdep
      refine TL.Does.val (v := .pointer (some ⟨bq, 0, none⟩)) (w' := W) ?_ ⟨hC, rfl⟩
      have e102 : a.eval (.tmp 102) = .pointer (some ⟨bq, 0, none⟩) := hdep 1 (by kernel_rfl)
      unfold execOp
      dsimp only
      rw [e102]
      rfl
    · intro a W hlike hC hdep
      refine TL.Does.val (v := .int .i64 (13 + (i : Int))) (w' := W) ?_ ⟨hC, rfl⟩
      have e4 : a.eval (.tmp 4) = .int .i64 (13 + (i : Int)) := hlike.keeps 4 (by kernel_rfl)
      unfold execOp
      dsimp only
      rw [e4]
      rfl
    · intro a W hlike hC hdep
      refine TL.Does.val (v := .int .i64 (i : Int)) (w' := W) ?_ ⟨hC, rfl⟩
      have e104 : a.eval (.tmp 104) = .int .i64 (13 + (i : Int)) := hdep 3 (by kernel_rfl)
      unfold execOp
      dsimp only
      rw [e104]
      exact (sub_run _ _ _ _ W).trans (by rw [hsub])
    · intro a W hlike hC hdep
      exact TL.Does.index rfl rfl (hdep 4 (by kernel_rfl)) (ix_signs i hi W) ⟨hC, rfl⟩
    · intro a W hlike hC hdep
      exact TL.Does.load rfl (hdep 5 (by kernel_rfl)) (ldStr _ _ _ W (HSc.out W hC.low)) ⟨hC, rfl⟩
    · intro a W hlike hC hdep
      refine TL.Does.val (v := .string (⟨#[32]⟩ ++ sg : ByteArray)) (w' := W) ?_ ⟨hC, rfl⟩
      have e107 : a.eval (.tmp 107) = .string sg := hdep 6 (by kernel_rfl)
      unfold execOp
      dsimp only
      rw [e107]
      exact cat_run _ _ _ _ W (by (try simp only [sz32]); omega)
    · intro a W hlike hC hdep
      refine TL.Does.val (v := .string (⟨#[32]⟩ ++ sg ++ ⟨#[32]⟩ : ByteArray)) (w' := W) ?_ ⟨hC, rfl⟩
      have e108 : a.eval (.tmp 108) = .string (⟨#[32]⟩ ++ sg : ByteArray) := hdep 7 (by kernel_rfl)
      unfold execOp
      dsimp only
      rw [e108]
      exact cat_run _ _ _ _ W (by (try simp only [ByteArray.size_append, sz32]); omega)
    · intro a W hlike hC hdep
      have e103 : a.eval (.tmp 103) = .pointer (some ⟨bq, 0, none⟩) := hdep 2 (by kernel_rfl)
      have e109 : a.eval (.tmp 109) = .string (⟨#[32]⟩ ++ sg ++ ⟨#[32]⟩ : ByteArray) := hdep 8 (by kernel_rfl)
      refine TL.Does.call (f := 73) (args := #[a.eval (.tmp 103), a.eval (.tmp 109)]) (by kernel_rfl) ?_
      rw [e103, e109]
      refine (pstr_any w0 bq t1 k1 _ W hC (by (try simp only [ByteArray.size_append, sz32]); omega)).mono ?_
      rintro e W' ⟨rfl, hp⟩
      exact ⟨_, rfl, hp, rfl⟩
    · intro f W hC
      have HPz := hid hC
      clear hC
      simp only [TL.puts]
      go_frame
      generalize f 101 = gs101
      generalize f 102 = gs102
      generalize f 103 = gs103
      generalize f 104 = gs104
      generalize f 105 = gs105
      generalize f 106 = gs106
      generalize f 107 = gs107
      generalize f 108 = gs108
      generalize f 109 = gs109
      generalize f 110 = gs110
      have HP2 := hid HPz.out
      clear HPz
      generalize ht2 : t1 ++ (⟨#[32]⟩ ++ sg ++ ⟨#[32]⟩ : ByteArray).data.toList = t2 at *
      have HTx : Hid (t2 ++ AQ.parT (wg + 1) r (AQ.txt r) = t ++ AQ.txt (.mk (13 + (i : Int)) 0 [] 0 [] l r)) := by
        show _ = _
        rw [HTq.out, ← ht2, ← HT1.out]
        simp [HSg.out]
      have HL2 : Hid ((t2.length : Int) + 1010 * k1 ≤ 900000000) := by
        show _ ≤ _
        have h1 := HL1.out
        have h2 : t2.length = t1.length + 3 := by rw [← ht2, List.length_append]; simp [HSg.out]
        rw [h2]
        omega
      clear ht2
      go_upto_region 15 with fail
      refine TL.wp_vals 8 [111, 112, 113, 114, 115, 116, 117, 118, 119] (fun W => Pt w0 W bq t2 k1) (fun W => Pt w0 W bq (t2 ++ AQ.parT (wg + 1) r (AQ.txt r)) (k1 - AQ.parts r)) [.pointer (some ⟨bq, 0, none⟩), .pointer (some ⟨B, 0, none⟩), .pointer (some ⟨B, 0, none⟩), .pointer (some ⟨B, 6, none⟩), .pointer ra, .int .i64 (13 + (i : Int)), .int .i64 (wg : Int), .int .i64 ((wg + 1 : Nat) : Int), .tuple #[]] (by kernel_rfl) (by kernel_rfl) (by kernel_rfl) 120 rfl (by kernel_rfl) (by kernel_rfl) (HP2.out.below ((Below.refl _ _).drew)) (TL.ix_cons ?_ (TL.ix_cons ?_ (TL.ix_cons ?_ (TL.ix_cons ?_ (TL.ix_cons ?_ (TL.ix_cons ?_ (TL.ix_cons ?_ (TL.ix_cons ?_ (TL.ix_cons ?_ TL.ix_nil))))))))) ?_
      · intro a W hlike hC hdep
        refine TL.Does.val (v := .pointer (some ⟨bq, 0, none⟩)) (w' := W) ?_ ⟨hC, rfl⟩
        have e0 : a.eval (.tmp 0) = .pointer (some ⟨bq, 0, none⟩) := hlike.keeps 0 (by kernel_rfl)
        unfold execOp
        dsimp only
        rw [e0]
        rfl
      · intro a W hlike hC hdep
        refine TL.Does.val (v := .pointer (some ⟨B, 0, none⟩)) (w' := W) ?_ ⟨hC, rfl⟩
        have e1 : a.eval (.tmp 1) = .pointer (some ⟨B, 0, none⟩) := hlike.keeps 1 (by kernel_rfl)
        unfold execOp
        dsimp only
        rw [e1]
        rfl
      · intro a W hlike hC hdep
        refine TL.Does.val (v := .pointer (some ⟨B, 0, none⟩)) (w' := W) ?_ ⟨hC, rfl⟩
        have e112 : a.eval (.tmp 112) = .pointer (some ⟨B, 0, none⟩) := hdep 1 (by kernel_rfl)
        unfold execOp
        dsimp only
        rw [e112]
        rfl
      · intro a W hlike hC hdep
        refine TL.Does.val (v := .pointer (some ⟨B, 6, none⟩)) (w' := W) ?_ ⟨hC, rfl⟩
        have e113 : a.eval (.tmp 113) = .pointer (some ⟨B, 0, none⟩) := hdep 2 (by kernel_rfl)
        unfold execOp
        dsimp only
        rw [e113]
        rfl
      · intro a W hlike hC hdep
        exact TL.Does.load rfl (hdep 3 (by kernel_rfl)) (ldAsk _ _ ra W (kcell W _ _ _ (HBox.out W hC.low) 6 _ rfl)) ⟨hC, rfl⟩
      · intro a W hlike hC hdep
        refine TL.Does.val (v := .int .i64 (13 + (i : Int))) (w' := W) ?_ ⟨hC, rfl⟩
        have e4 : a.eval (.tmp 4) = .int .i64 (13 + (i : Int)) := hlike.keeps 4 (by kernel_rfl)
        unfold execOp
        dsimp only
        rw [e4]
        rfl
      · intro a W hlike hC hdep
        have e116 : a.eval (.tmp 116) = .int .i64 (13 + (i : Int)) := hdep 5 (by kernel_rfl)
        refine TL.Does.call (f := 108) (args := #[a.eval (.tmp 116)]) (by kernel_rfl) ?_
        rw [e116]
        refine (HWt.out W).mono ?_
        rintro e W' ⟨rfl, rfl⟩
        exact ⟨_, rfl, hC, rfl⟩
      · intro a W hlike hC hdep
        refine TL.Does.val (v := .int .i64 ((wg + 1 : Nat) : Int)) (w' := W) ?_ ⟨hC, rfl⟩
        have e117 : a.eval (.tmp 117) = .int .i64 (wg : Int) := hdep 6 (by kernel_rfl)
        unfold execOp
        dsimp only
        rw [e117]
        exact (add_run _ _ _ _ W).trans (by rw [hadd])
      · intro a W hlike hC hdep
        have e111 : a.eval (.tmp 111) = .pointer (some ⟨bq, 0, none⟩) := hdep 0 (by kernel_rfl)
        have e115 : a.eval (.tmp 115) = .pointer ra := hdep 4 (by kernel_rfl)
        have e118 : a.eval (.tmp 118) = .int .i64 ((wg + 1 : Nat) : Int) := hdep 7 (by kernel_rfl)
        refine TL.Does.call (f := 67) (args := #[a.eval (.tmp 111), a.eval (.tmp 115), a.eval (.tmp 118)]) (by kernel_rfl) ?_
        rw [e111, e115, e118]
        refine (HR.out w0 _ W bq t2 k1 (wg + 1) HRv.out HG.out hC HK1.out.2 (by omega) HL2.out).mono ?_
        rintro e W' ⟨rfl, hp⟩
        exact ⟨_, rfl, hp, rfl⟩
      · intro f W hC
        have HPz := hid hC
        clear hC
        simp only [TL.puts]
        go_frame
        generalize f 111 = gs111
        generalize f 112 = gs112
        generalize f 113 = gs113
        generalize f 114 = gs114
        generalize f 115 = gs115
        generalize f 116 = gs116
        generalize f 117 = gs117
        generalize f 118 = gs118
        generalize f 119 = gs119
        go_wp2_with fail
        first | go_end0 | refine bodyPost_ret (results_none rfl _ _ _) rfl ?_
        exact ⟨rfl, HPz.out.to HTx.out HKx.out⟩

theorem parts_pos {d : Nat} {q : AQ.Q} (h : AQ.OkW d q) : 1 ≤ AQ.parts q := by
  cases h <;> simp only [AQ.parts] <;> omega

theorem whole_any {d : Nat} {q : AQ.Q} (h : AQ.OkW d q) : WholeK q := by
  induction h with
  | num d n h h' => exact whole_num n h h'
  | pick d m h => exact whole_pick m h
  | over d c m sp hc h hs =>
    have e : c = 3 + ((c - 3).toNat : Int) := by omega
    rw [e]
    exact whole_over _ (by omega) m h sp hs
  | of d e c nm q hc hn hq he ih =>
    have e : c = 8 + ((c - 8).toNat : Int) := by omega
    rw [e]
    exact whole_of _ (by omega) nm hn q (AQ.txt_len hq) (part_of (AQ.txt_len hq) (parts_pos hq) ih)
  | neg d e q hq he ih => exact whole_neg q (part_of (AQ.txt_len hq) (parts_pos hq) ih)
  | sum d e f c l r hc hl he hr hf ihl ihr =>
    have e : c = 13 + ((c - 13).toNat : Int) := by omega
    rw [e]
    exact whole_bin _ (by omega) l r (AQ.txt_len hl) (parts_pos hl) (part_of (AQ.txt_len hl) (parts_pos hl) ihl) (part_of (AQ.txt_len hr) (parts_pos hr) ihr)
  | prod d e f c l r hc hl he hr hf ihl ihr =>
    have e : c = 13 + ((c - 13).toNat : Int) := by omega
    rw [e]
    exact whole_bin _ (by omega) l r (AQ.txt_len hl) (parts_pos hl) (part_of (AQ.txt_len hl) (parts_pos hl) ihl) (part_of (AQ.txt_len hr) (parts_pos hr) ihr)

theorem part_any {d : Nat} {q : AQ.Q} (h : AQ.OkW d q) : PartK q := part_of (AQ.txt_len h) (parts_pos h) (whole_any h)

theorem txt_ne {d : Nat} {q : AQ.Q} (h : AQ.OkW d q) : AQ.print q ≠ [] := fun e => by
  have h1 := AQ.lx_txt h AQ.Lx.nil AQ.Sf.nil
  have e2 : AQ.print q = AQ.txt q := by unfold AQ.print AQ.parT; rw [if_pos (Nat.zero_le _)]
  rw [← e2, e] at h1
  have h2 := AQ.parts_le h
  have h3 := parts_pos h
  have h4 : AQ.tk q ++ [] = [] := by
    generalize AQ.tk q ++ [] = ts at h1
    cases h1
    rfl
  rw [List.append_nil] at h4
  rw [h4] at h2
  simp at h2
  omega

set_option maxRecDepth 100000 in
set_option maxHeartbeats 800000 in
theorem print_any {d : Nat} {q : AQ.Q} (h : AQ.OkW d q) (hn : AQ.parts q ≤ 60000) (v : Value) (w : World) (hA : AskT w v q) (hG : Gl w) :
    Calls Tryd.prog 29 #[v] w fun e w' => e = .returned (.string ⟨(AQ.print q).toArray⟩) ∧ Below w.heap.size w w' := by
  have hal : Below w.heap.size w (w.alloc (.cells #[.pointer none, .slice none 0 0, .int .i64 65536] 121)) := (Below.refl _ w).alloc (Nat.le_refl _) _
  have HP : Hid (Pt w (w.alloc (.cells #[.pointer none, .slice none 0 0, .int .i64 65536] 121)) w.heap.size [] 65536) := ⟨hal, Nat.le_refl _, by simp, _, _, .inl rfl, heap_alloc_new w _, ⟨rfl, .inl ⟨rfl, rfl⟩⟩⟩
  have HC := hid (part_any h w v _ w.heap.size [] 65536 0 hA hG HP.out (by omega) (by omega) (by simp))
  have HNe := hid (txt_ne h)
  obtain ⟨va, ev⟩ := hA.ptr
  subst ev
  have hk : ¬ (65536 : Int) - (AQ.parts q : Int) < 0 := by omega
  clear hal hA hG
  go_enter Tryd.func29, Tryd.ntmps29
  go_wp2_with fail
  refine HC.out.mono ?_
  rintro e w1 ⟨rfl, hp1⟩
  have HP1 := hid (hp1.to (show [] ++ AQ.parT 0 q (AQ.txt q) = AQ.print q from rfl) rfl)
  have l2 := (hp1.left 0).1
  clear hp1 HC
  go_wp2_with fail
  refine (pstring_any w w.heap.size (AQ.print q) _ w1 HP1.out HNe.out).mono ?_
  rintro e w2 ⟨rfl, hb2⟩
  have HB := hid hb2
  clear hb2
  go_wp2_with fail
  go_ret
  exact ⟨rfl, HB.out⟩

end Go.Proofs.YtdmnlmohfaafoaeDoor
