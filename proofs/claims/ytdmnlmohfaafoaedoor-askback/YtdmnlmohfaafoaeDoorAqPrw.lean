/- The program's printer: whole at the other questions, together (made by mkaqw.py). -/
import Derived.Test.YtdmnlmohfaafoaeDoorAqPrn
namespace Go.Proofs.YtdmnlmohfaafoaeDoor
open Go.RowKit Go.Shelf

theorem sz40 : (⟨#[40]⟩ : ByteArray).size = 1 := rfl
theorem sz41 : (⟨#[41]⟩ : ByteArray).size = 1 := rfl
theorem sz91 : (⟨#[91]⟩ : ByteArray).size = 1 := rfl
theorem sz93 : (⟨#[93, 41]⟩ : ByteArray).size = 2 := rfl
theorem sz32 : (⟨#[32]⟩ : ByteArray).size = 1 := rfl
theorem szby : (⟨#[32, 98, 121, 32, 40]⟩ : ByteArray).size = 5 := rfl

theorem ix_words (j : Nat) (hj : j < 9) (W : World) : (Instr.indexAt 204 (.pointer (some ⟨2, 0, none⟩)) (.int .i64 (j : Int))).run Tryd.prog W = .ok (.pointer (some ⟨2, j, none⟩)) W :=
  match j, hj with
  | 0, _ => by kernel_rfl
  | 1, _ => by kernel_rfl
  | 2, _ => by kernel_rfl
  | 3, _ => by kernel_rfl
  | 4, _ => by kernel_rfl
  | 5, _ => by kernel_rfl
  | 6, _ => by kernel_rfl
  | 7, _ => by kernel_rfl
  | 8, _ => by kernel_rfl
theorem ix_signs (j : Nat) (hj : j < 4) (W : World) : (Instr.indexAt 173 (.pointer (some ⟨3, 0, none⟩)) (.int .i64 (j : Int))).run Tryd.prog W = .ok (.pointer (some ⟨3, j, none⟩)) W :=
  match j, hj with
  | 0, _ => by kernel_rfl
  | 1, _ => by kernel_rfl
  | 2, _ => by kernel_rfl
  | 3, _ => by kernel_rfl

theorem words_size (j : Nat) (hj : j < 9) : (AQ.words.getD j ⟨#[]⟩).size ≤ 5 :=
  match j, hj with
  | 0, _ => by decide
  | 1, _ => by decide
  | 2, _ => by decide
  | 3, _ => by decide
  | 4, _ => by decide
  | 5, _ => by decide
  | 6, _ => by decide
  | 7, _ => by decide
  | 8, _ => by decide

set_option maxRecDepth 100000 in
set_option maxHeartbeats 3200000 in
theorem whole_over (j : Nat) (hj : j < 5) (m : List LB.Mat) (hm : AQ.matsOk m) (sp : Int) (hs : 1 ≤ sp ∧ sp ≤ 1099511627776) : WholeK (.mk (3 + (j : Int)) 0 m sp [] .none .none) := by
  intro w0 v w bq t k hA hG hP hpk hk hf
  obtain ⟨B, mv, bv, lv, rv, hv, hbox, hmv, hbv, hlv, hrv⟩ := hA
  subst hv
  have HBox := hid (fun (W : World) (h : Below w0.heap.size w0 W) => (h.block B (heap_lt hbox)).trans hbox)
  have HG := hid hG
  have HP := hid hP
  have HF := hid hf
  have b0 := kcell _ _ _ _ (HBox.out w hP.low) 0 _ rfl
  obtain ⟨xa, xc, ex⟩ := kown_slice hmv
  subst ex
  have HMt := hid (fun (W : World) (h : Below w0.heap.size w0 W) => mts_any xa m xc W ((own_mrow hmv).below h) hm (HG.out.below h))
  have hml := AQ.mat_len hm
  have HWd := hid (fun (W : World) (h : Below w0.heap.size w0 W) => (HG.out.below h).words j (by show j < 9; omega))
  have hwz := words_size j (by omega)
  have HWt : Hid (AQ.wordT (3 + (j : Int)) = (AQ.words.getD j ⟨#[]⟩).data.toList) := by
    show _ = _
    unfold AQ.wordT
    rw [show (3 + (j : Int) - 3).toNat = j by omega]
  have h18 := (AQ.itoa_facts (n := sp) (by omega) (by omega)).2.2.1
  have hmz : (⟨(AQ.matT m).toArray⟩ : ByteArray).size ≤ 600 := by
    have e : (⟨(AQ.matT m).toArray⟩ : ByteArray).size = (AQ.matT m).length := by simp [ByteArray.size]
    omega
  have hnz : (⟨(Lib.itoa sp).toArray⟩ : ByteArray).size ≤ 18 := by
    have e : (⟨(Lib.itoa sp).toArray⟩ : ByteArray).size = (Lib.itoa sp).length := by simp [ByteArray.size]
    omega
  have HMl : Hid ((⟨(AQ.matT m).toArray⟩ : ByteArray).data.toList = AQ.matT m) := rfl
  have HNl : Hid ((⟨(Lib.itoa sp).toArray⟩ : ByteArray).data.toList = Lib.itoa sp) := rfl
  have HTq : Hid (AQ.txt (.mk (3 + (j : Int)) 0 m sp [] .none .none) = AQ.wordT (3 + (j : Int)) ++ [40] ++ AQ.matT m ++ [91] ++ Lib.itoa sp ++ [93, 41]) := by
    show _ = _
    unfold AQ.txt
    rw [if_neg (by omega), if_neg (by omega), if_pos (by omega)]
  generalize hmb : (⟨(AQ.matT m).toArray⟩ : ByteArray) = mb at *
  generalize hnb : (⟨(Lib.itoa sp).toArray⟩ : ByteArray) = nb at *
  generalize AQ.words.getD j ⟨#[]⟩ = wd at *
  have HMb := hid hmb
  have HNb := hid hnb
  have HTx : Hid (t ++ (wd ++ ⟨#[40]⟩ ++ mb ++ ⟨#[91]⟩ ++ nb ++ ⟨#[93, 41]⟩ : ByteArray).data.toList = t ++ AQ.txt (.mk (3 + (j : Int)) 0 m sp [] .none .none)) := by
    show _ = _
    rw [HTq.out, HWt.out, ← HMl.out, ← HNl.out]
    simp
  have HKx : Hid (k = k + 1 - (AQ.parts (.mk (3 + (j : Int)) 0 m sp [] .none .none) : Nat)) := by show _ = _; simp only [AQ.parts]; omega
  have hsub : IntKind.i64.wrap (3 + (j : Int) - 3) = (j : Int) := by rw [IntKind.wrap_i64]; omega
  have g1 : ((3 + (j : Int)) == 1) = false := by rw [beq_eq_false_iff_ne]; omega
  have g2 : ((3 + (j : Int)) == 2) = false := by rw [beq_eq_false_iff_ne]; omega
  have g3 : 3 ≤ 3 + (j : Int) := by omega
  have g4 : 3 + (j : Int) ≤ 7 := by omega
  simp only [AQ.parts] at hpk
  have htl : (t.length : Int) ≤ 900000000 := by omega
  clear hG hP hf hmv hbv hlv hrv hml h18 hmb hnb HTq HMl HNl HWt
  go_enter Tryd.func109, Tryd.ntmps109
  go_upto_region 6 with fail
  refine TL.wp_vals 22 [40, 41, 42, 43, 44, 45, 46, 47, 48, 49, 50, 51, 52, 53, 54, 55, 56, 57, 58, 59, 60, 61, 62] (fun W => Pt w0 W bq t k) (fun W => Pt w0 W bq (t ++ (wd ++ ⟨#[40]⟩ ++ mb ++ ⟨#[91]⟩ ++ nb ++ ⟨#[93, 41]⟩ : ByteArray).data.toList) k) [.pointer (some ⟨bq, 0, none⟩), .pointer (some ⟨bq, 0, none⟩), .pointer (some ⟨bq, 0, none⟩), .int .i64 (3 + (j : Int)), .int .i64 (j : Int), .pointer (some ⟨2, j, none⟩), .string wd, .string (wd ++ ⟨#[40]⟩ : ByteArray), .pointer (some ⟨B, 0, none⟩), .pointer (some ⟨B, 0, none⟩), .pointer (some ⟨B, 2, none⟩), .slice xa m.length xc, .string mb, .string (wd ++ ⟨#[40]⟩ ++ mb : ByteArray), .string (wd ++ ⟨#[40]⟩ ++ mb ++ ⟨#[91]⟩ : ByteArray), .pointer (some ⟨B, 0, none⟩), .pointer (some ⟨B, 0, none⟩), .pointer (some ⟨B, 3, none⟩), .int .i64 sp, .string nb, .string (wd ++ ⟨#[40]⟩ ++ mb ++ ⟨#[91]⟩ ++ nb : ByteArray), .string (wd ++ ⟨#[40]⟩ ++ mb ++ ⟨#[91]⟩ ++ nb ++ ⟨#[93, 41]⟩ : ByteArray), .tuple #[.int .i64 (wd ++ ⟨#[40]⟩ ++ mb ++ ⟨#[91]⟩ ++ nb ++ ⟨#[93, 41]⟩ : ByteArray).size, .nilIface]] (by kernel_rfl) (by kernel_rfl) (by kernel_rfl) 120 rfl (by kernel_rfl) (by kernel_rfl) (HP.out.below ((Below.refl _ _).drew)) (TL.ix_cons ?_ (TL.ix_cons ?_ (TL.ix_cons ?_ (TL.ix_cons ?_ (TL.ix_cons ?_ (TL.ix_cons ?_ (TL.ix_cons ?_ (TL.ix_cons ?_ (TL.ix_cons ?_ (TL.ix_cons ?_ (TL.ix_cons ?_ (TL.ix_cons ?_ (TL.ix_cons ?_ (TL.ix_cons ?_ (TL.ix_cons ?_ (TL.ix_cons ?_ (TL.ix_cons ?_ (TL.ix_cons ?_ (TL.ix_cons ?_ (TL.ix_cons ?_ (TL.ix_cons ?_ (TL.ix_cons ?_ (TL.ix_cons ?_ TL.ix_nil))))))))))))))))))))))) ?_
  · intro a W hlike hC hdep
    refine TL.Does.val (v := .pointer (some ⟨bq, 0, none⟩)) (w' := W) ?_ ⟨hC, rfl⟩
    have e0 : a.eval (.tmp 0) = .pointer (some ⟨bq, 0, none⟩) := hlike.keeps 0 (by kernel_rfl)
    unfold execOp
    dsimp only
    rw [e0]
    rfl
  · intro a W hlike hC hdep
    refine TL.Does.val (v := .pointer (some ⟨bq, 0, none⟩)) (w' := W) ?_ ⟨hC, rfl⟩
    have e40 : a.eval (.tmp 40) = .pointer (some ⟨bq, 0, none⟩) := hdep 0 (by kernel_rfl)
    unfold execOp
    dsimp only
    rw [e40]
    rfl
  · intro a W hlike hC hdep
    refine TL.Does.val (v := .pointer (some ⟨bq, 0, none⟩)) (w' := W) ?_ ⟨hC, rfl⟩
    have e41 : a.eval (.tmp 41) = .pointer (some ⟨bq, 0, none⟩) := hdep 1 (by kernel_rfl)
    unfold execOp
    dsimp only
    rw [e41]
    rfl
  · intro a W hlike hC hdep
    refine TL.Does.val (v := .int .i64 (3 + (j : Int))) (w' := W) ?_ ⟨hC, rfl⟩
    have e4 : a.eval (.tmp 4) = .int .i64 (3 + (j : Int)) := hlike.keeps 4 (by kernel_rfl)
    unfold execOp
    dsimp only
    rw [e4]
    rfl
  · intro a W hlike hC hdep
    refine TL.Does.val (v := .int .i64 (j : Int)) (w' := W) ?_ ⟨hC, rfl⟩
    have e43 : a.eval (.tmp 43) = .int .i64 (3 + (j : Int)) := hdep 3 (by kernel_rfl)
    unfold execOp
    dsimp only
    rw [e43]
    exact (sub_run _ _ _ _ W).trans (by rw [hsub])
  · intro a W hlike hC hdep
    exact TL.Does.index rfl rfl (hdep 4 (by kernel_rfl)) (ix_words j (by omega) W) ⟨hC, rfl⟩
  · intro a W hlike hC hdep
    exact TL.Does.load rfl (hdep 5 (by kernel_rfl)) (ldStr _ _ _ W (HWd.out W hC.low)) ⟨hC, rfl⟩
  · intro a W hlike hC hdep
    refine TL.Does.val (v := .string (wd ++ ⟨#[40]⟩ : ByteArray)) (w' := W) ?_ ⟨hC, rfl⟩
    have e46 : a.eval (.tmp 46) = .string wd := hdep 6 (by kernel_rfl)
    unfold execOp
    dsimp only
    rw [e46]
    exact cat_run _ _ _ _ W (by (try simp only [sz40]); omega)
  · intro a W hlike hC hdep
    refine TL.Does.val (v := .pointer (some ⟨B, 0, none⟩)) (w' := W) ?_ ⟨hC, rfl⟩
    have e1 : a.eval (.tmp 1) = .pointer (some ⟨B, 0, none⟩) := hlike.keeps 1 (by kernel_rfl)
    unfold execOp
    dsimp only
    rw [e1]
    rfl
  · intro a W hlike hC hdep
    refine TL.Does.val (v := .pointer (some ⟨B, 0, none⟩)) (w' := W) ?_ ⟨hC, rfl⟩
    have e48 : a.eval (.tmp 48) = .pointer (some ⟨B, 0, none⟩) := hdep 8 (by kernel_rfl)
    unfold execOp
    dsimp only
    rw [e48]
    rfl
  · intro a W hlike hC hdep
    refine TL.Does.val (v := .pointer (some ⟨B, 2, none⟩)) (w' := W) ?_ ⟨hC, rfl⟩
    have e49 : a.eval (.tmp 49) = .pointer (some ⟨B, 0, none⟩) := hdep 9 (by kernel_rfl)
    unfold execOp
    dsimp only
    rw [e49]
    rfl
  · intro a W hlike hC hdep
    exact TL.Does.load rfl (hdep 10 (by kernel_rfl)) (ldMs _ _ (xa, m.length, xc) W (kcell W _ _ _ (HBox.out W hC.low) 2 _ rfl)) ⟨hC, rfl⟩
  · intro a W hlike hC hdep
    have e51 : a.eval (.tmp 51) = .slice xa m.length xc := hdep 11 (by kernel_rfl)
    refine TL.Does.call (f := 31) (args := #[a.eval (.tmp 51)]) (by kernel_rfl) ?_
    rw [e51]
    refine (HMt.out W hC.low).mono ?_
    rintro e W' ⟨rfl, hb⟩
    exact ⟨_, rfl, hC.below hb, rfl⟩
  · intro a W hlike hC hdep
    refine TL.Does.val (v := .string (wd ++ ⟨#[40]⟩ ++ mb : ByteArray)) (w' := W) ?_ ⟨hC, rfl⟩
    have e47 : a.eval (.tmp 47) = .string (wd ++ ⟨#[40]⟩ : ByteArray) := hdep 7 (by kernel_rfl)
    have e52 : a.eval (.tmp 52) = .string mb := hdep 12 (by kernel_rfl)
    unfold execOp
    dsimp only
    rw [e47, e52]
    exact cat_run _ _ _ _ W (by (try simp only [ByteArray.size_append, sz40]); omega)
  · intro a W hlike hC hdep
    refine TL.Does.val (v := .string (wd ++ ⟨#[40]⟩ ++ mb ++ ⟨#[91]⟩ : ByteArray)) (w' := W) ?_ ⟨hC, rfl⟩
    have e53 : a.eval (.tmp 53) = .string (wd ++ ⟨#[40]⟩ ++ mb : ByteArray) := hdep 13 (by kernel_rfl)
    unfold execOp
    dsimp only
    rw [e53]
    exact cat_run _ _ _ _ W (by (try simp only [ByteArray.size_append, sz40, sz91]); omega)
  · intro a W hlike hC hdep
    refine TL.Does.val (v := .pointer (some ⟨B, 0, none⟩)) (w' := W) ?_ ⟨hC, rfl⟩
    have e1 : a.eval (.tmp 1) = .pointer (some ⟨B, 0, none⟩) := hlike.keeps 1 (by kernel_rfl)
    unfold execOp
    dsimp only
    rw [e1]
    rfl
  · intro a W hlike hC hdep
    refine TL.Does.val (v := .pointer (some ⟨B, 0, none⟩)) (w' := W) ?_ ⟨hC, rfl⟩
    have e55 : a.eval (.tmp 55) = .pointer (some ⟨B, 0, none⟩) := hdep 15 (by kernel_rfl)
    unfold execOp
    dsimp only
    rw [e55]
    rfl
  · intro a W hlike hC hdep
    refine TL.Does.val (v := .pointer (some ⟨B, 3, none⟩)) (w' := W) ?_ ⟨hC, rfl⟩
    have e56 : a.eval (.tmp 56) = .pointer (some ⟨B, 0, none⟩) := hdep 16 (by kernel_rfl)
    unfold execOp
    dsimp only
    rw [e56]
    rfl
  · intro a W hlike hC hdep
    exact TL.Does.load rfl (hdep 17 (by kernel_rfl)) (ldI64 _ _ _ W (kcell W _ _ _ (HBox.out W hC.low) 3 _ rfl)) ⟨hC, rfl⟩
  · intro a W hlike hC hdep
    have e58 : a.eval (.tmp 58) = .int .i64 sp := hdep 18 (by kernel_rfl)
    refine TL.Does.call (f := 132) (args := #[a.eval (.tmp 58), .int .i64 10]) (by kernel_rfl) ?_
    rw [e58]
    refine (Tryd.strconv_FormatInt_10 sp (by omega) (by omega) W (HG.out.below hC.low).pow).mono ?_
    rintro e W' ⟨rfl, kk, os, rfl⟩
    exact ⟨_, rfl, hC.below (grow_below W kk os), by rw [HNb.out]; rfl⟩
  · intro a W hlike hC hdep
    refine TL.Does.val (v := .string (wd ++ ⟨#[40]⟩ ++ mb ++ ⟨#[91]⟩ ++ nb : ByteArray)) (w' := W) ?_ ⟨hC, rfl⟩
    have e54 : a.eval (.tmp 54) = .string (wd ++ ⟨#[40]⟩ ++ mb ++ ⟨#[91]⟩ : ByteArray) := hdep 14 (by kernel_rfl)
    have e59 : a.eval (.tmp 59) = .string nb := hdep 19 (by kernel_rfl)
    unfold execOp
    dsimp only
    rw [e54, e59]
    exact cat_run _ _ _ _ W (by (try simp only [ByteArray.size_append, sz40, sz91]); omega)
  · intro a W hlike hC hdep
    refine TL.Does.val (v := .string (wd ++ ⟨#[40]⟩ ++ mb ++ ⟨#[91]⟩ ++ nb ++ ⟨#[93, 41]⟩ : ByteArray)) (w' := W) ?_ ⟨hC, rfl⟩
    have e60 : a.eval (.tmp 60) = .string (wd ++ ⟨#[40]⟩ ++ mb ++ ⟨#[91]⟩ ++ nb : ByteArray) := hdep 20 (by kernel_rfl)
    unfold execOp
    dsimp only
    rw [e60]
    exact cat_run _ _ _ _ W (by (try simp only [ByteArray.size_append, sz40, sz91, sz93]); omega)
  · intro a W hlike hC hdep
    have e42 : a.eval (.tmp 42) = .pointer (some ⟨bq, 0, none⟩) := hdep 2 (by kernel_rfl)
    have e61 : a.eval (.tmp 61) = .string (wd ++ ⟨#[40]⟩ ++ mb ++ ⟨#[91]⟩ ++ nb ++ ⟨#[93, 41]⟩ : ByteArray) := hdep 21 (by kernel_rfl)
    refine TL.Does.call (f := 73) (args := #[a.eval (.tmp 42), a.eval (.tmp 61)]) (by kernel_rfl) ?_
    rw [e42, e61]
    refine (pstr_any w0 bq t k _ W hC (by (try simp only [ByteArray.size_append, sz40, sz91, sz93]); omega)).mono ?_
    rintro e W' ⟨rfl, hp⟩
    exact ⟨_, rfl, hp, rfl⟩
  · intro f W hC
    have HPz := hid hC
    clear hC
    simp only [TL.puts]
    go_frame
    generalize f 40 = gs40
    generalize f 41 = gs41
    generalize f 42 = gs42
    generalize f 43 = gs43
    generalize f 44 = gs44
    generalize f 45 = gs45
    generalize f 46 = gs46
    generalize f 47 = gs47
    generalize f 48 = gs48
    generalize f 49 = gs49
    generalize f 50 = gs50
    generalize f 51 = gs51
    generalize f 52 = gs52
    generalize f 53 = gs53
    generalize f 54 = gs54
    generalize f 55 = gs55
    generalize f 56 = gs56
    generalize f 57 = gs57
    generalize f 58 = gs58
    generalize f 59 = gs59
    generalize f 60 = gs60
    generalize f 61 = gs61
    generalize f 62 = gs62
    go_wp2_with fail
    first | go_end0 | refine bodyPost_ret (results_none rfl _ _ _) rfl ?_
    exact ⟨rfl, HPz.out.to HTx.out HKx.out⟩

set_option maxRecDepth 100000 in
set_option maxHeartbeats 3200000 in
theorem together_any (j : Nat) (hj : j < 4) (nm : List ByteArray) (hn : AQ.namesOk nm) (q : AQ.Q) (hlen : (AQ.txt q).length ≤ 1000 * AQ.parts q) (hL : PartK q) (w0 : World) (v : Value) (w : World) (bq : Nat) (t : List UInt8) (k : Int) (hA : AskT w0 v (.mk (8 + (j : Int)) 0 [] 0 nm q .none)) (hG : Gl w0) (hP : Pt w0 w bq t k) (hpk : (AQ.parts (.mk (8 + (j : Int)) 0 [] 0 nm q .none) : Int) ≤ k + 1) (hk : k ≤ 65536) (hf : (t.length : Int) + 1010 * k + 1000 ≤ 900000000) :
    Calls Tryd.prog 133 #[.pointer (some ⟨bq, 0, none⟩), v] w fun e w' => e = .returned (.tuple #[]) ∧ Pt w0 w' bq (t ++ AQ.txt (.mk (8 + (j : Int)) 0 [] 0 nm q .none)) (k + 1 - AQ.parts (.mk (8 + (j : Int)) 0 [] 0 nm q .none)) := by
  obtain ⟨B, mv, bv, lv, rv, hv, hbox, hmv, hbv, hlv, hrv⟩ := hA
  subst hv
  obtain ⟨xa, xc, ex⟩ := kown_slice hbv
  subst ex
  obtain ⟨la, el⟩ := hlv.ptr
  subst el
  have HBox := hid (fun (W : World) (h : Below w0.heap.size w0 W) => (h.block B (heap_lt hbox)).trans hbox)
  have HG := hid hG
  have HP := hid hP
  have HL := hid hL
  have HLv := hid hlv
  have lv0 : ∀ W, Below w0.heap.size w0 W → W.cell? ⟨B, 5, none⟩ = some (.pointer la) := fun W h => kcell _ _ _ _ (HBox.out W h) 5 _ rfl
  have HLc := hid lv0
  have HWd := hid (fun (W : World) (h : Below w0.heap.size w0 W) => (HG.out.below h).words (j + 5) (by show j + 5 < 9; omega))
  have hwz := words_size (j + 5) (by omega)
  have HWt : Hid (AQ.wordT (8 + (j : Int)) = (AQ.words.getD (j + 5) ⟨#[]⟩).data.toList) := by
    show _ = _
    unfold AQ.wordT
    rw [show (8 + (j : Int) - 3).toNat = j + 5 by omega]
  have HTq : Hid (AQ.txt (.mk (8 + (j : Int)) 0 [] 0 nm q .none) = AQ.wordT (8 + (j : Int)) ++ [40] ++ AQ.parT 0 q (AQ.txt q) ++ [41] ++ AQ.byT nm) := by
    show _ = _
    conv => lhs; unfold AQ.txt
    rw [if_neg (by omega), if_neg (by omega), if_neg (by omega), if_pos (by omega)]
  generalize AQ.words.getD (j + 5) ⟨#[]⟩ = wd at *
  have hsub : IntKind.i64.wrap (8 + (j : Int) - 3) = ((j + 5 : Nat) : Int) := by rw [IntKind.wrap_i64]; omega
  simp only [AQ.parts] at hpk
  have HKp : Hid ((AQ.parts q : Int) ≤ k) := by show _ ≤ _; omega
  have hwl : (wd ++ ⟨#[40]⟩ : ByteArray).data.toList.length ≤ 6 := by
    have e : (wd ++ ⟨#[40]⟩ : ByteArray).data.toList.length = (wd ++ ⟨#[40]⟩ : ByteArray).size := by simp only [ByteArray.size, Array.length_toList]
    rw [e]
    simp only [ByteArray.size_append, sz40]
    omega
  have HLz : Hid (((t ++ (wd ++ ⟨#[40]⟩ : ByteArray).data.toList).length : Int) + 1010 * k ≤ 900000000) := by
    show _ ≤ _
    rw [List.length_append]
    omega
  have hpl := AQ.par_len 0 q (AQ.txt q)
  have HL3 : Hid ((t ++ (wd ++ ⟨#[40]⟩ : ByteArray).data.toList ++ AQ.parT 0 q (AQ.txt q)).length ≤ 905000000) := by
    show _ ≤ _
    rw [List.length_append, List.length_append]
    omega
  clear hG hP hmv hlv hrv hbox hL lv0 hpl hlen hwl
  go_enter Tryd.func133, Tryd.ntmps133
  go_upto_region 0 with fail
  refine TL.wp_vals 11 [4, 5, 6, 7, 8, 9, 10, 11, 12, 13, 14, 15] (fun W => Pt w0 W bq t k) (fun W => Pt w0 W bq (t ++ (wd ++ ⟨#[40]⟩ : ByteArray).data.toList) k) [.pointer (some ⟨bq, 0, none⟩), .pointer (some ⟨bq, 0, none⟩), .pointer (some ⟨bq, 0, none⟩), .pointer (some ⟨B, 0, none⟩), .pointer (some ⟨B, 0, none⟩), .pointer (some ⟨B, 0, none⟩), .int .i64 (8 + (j : Int)), .int .i64 ((j + 5 : Nat) : Int), .pointer (some ⟨2, j + 5, none⟩), .string wd, .string (wd ++ ⟨#[40]⟩ : ByteArray), .tuple #[.int .i64 (wd ++ ⟨#[40]⟩ : ByteArray).size, .nilIface]] (by kernel_rfl) (by kernel_rfl) (by kernel_rfl) 43 rfl (by kernel_rfl) (by kernel_rfl) (HP.out.below ((Below.refl _ _).drew)) (TL.ix_cons ?_ (TL.ix_cons ?_ (TL.ix_cons ?_ (TL.ix_cons ?_ (TL.ix_cons ?_ (TL.ix_cons ?_ (TL.ix_cons ?_ (TL.ix_cons ?_ (TL.ix_cons ?_ (TL.ix_cons ?_ (TL.ix_cons ?_ (TL.ix_cons ?_ TL.ix_nil)))))))))))) ?_
  · intro a W hlike hC hdep
    refine TL.Does.val (v := .pointer (some ⟨bq, 0, none⟩)) (w' := W) ?_ ⟨hC, rfl⟩
    have e0 : a.eval (.tmp 0) = .pointer (some ⟨bq, 0, none⟩) := hlike.keeps 0 (by kernel_rfl)
    unfold execOp
    dsimp only
    rw [e0]
    rfl
  · intro a W hlike hC hdep
    refine TL.Does.val (v := .pointer (some ⟨bq, 0, none⟩)) (w' := W) ?_ ⟨hC, rfl⟩
    have e4 : a.eval (.tmp 4) = .pointer (some ⟨bq, 0, none⟩) := hdep 0 (by kernel_rfl)
    unfold execOp
    dsimp only
    rw [e4]
    rfl
  · intro a W hlike hC hdep
    refine TL.Does.val (v := .pointer (some ⟨bq, 0, none⟩)) (w' := W) ?_ ⟨hC, rfl⟩
    have e5 : a.eval (.tmp 5) = .pointer (some ⟨bq, 0, none⟩) := hdep 1 (by kernel_rfl)
    unfold execOp
    dsimp only
    rw [e5]
    rfl
  · intro a W hlike hC hdep
    refine TL.Does.val (v := .pointer (some ⟨B, 0, none⟩)) (w' := W) ?_ ⟨hC, rfl⟩
    have e1 : a.eval (.tmp 1) = .pointer (some ⟨B, 0, none⟩) := hlike.keeps 1 (by kernel_rfl)
    unfold execOp
    dsimp only
    rw [e1]
    rfl
  · intro a W hlike hC hdep
    refine TL.Does.val (v := .pointer (some ⟨B, 0, none⟩)) (w' := W) ?_ ⟨hC, rfl⟩
    have e7 : a.eval (.tmp 7) = .pointer (some ⟨B, 0, none⟩) := hdep 3 (by kernel_rfl)
    unfold execOp
    dsimp only
    rw [e7]
    rfl
  · intro a W hlike hC hdep
    refine TL.Does.val (v := .pointer (some ⟨B, 0, none⟩)) (w' := W) ?_ ⟨hC, rfl⟩
    have e8 : a.eval (.tmp 8) = .pointer (some ⟨B, 0, none⟩) := hdep 4 (by kernel_rfl)
    unfold execOp
    dsimp only
    rw [e8]
    rfl
  · intro a W hlike hC hdep
    exact TL.Does.load rfl (hdep 5 (by kernel_rfl)) (ldInt _ _ _ W (kcell W _ _ _ (HBox.out W hC.low) 0 _ rfl)) ⟨hC, rfl⟩
  · intro a W hlike hC hdep
    refine TL.Does.val (v := .int .i64 ((j + 5 : Nat) : Int)) (w' := W) ?_ ⟨hC, rfl⟩
    have e10 : a.eval (.tmp 10) = .int .i64 (8 + (j : Int)) := hdep 6 (by kernel_rfl)
    unfold execOp
    dsimp only
    rw [e10]
    exact (sub_run _ _ _ _ W).trans (by rw [hsub])
  · intro a W hlike hC hdep
    exact TL.Does.index rfl rfl (hdep 7 (by kernel_rfl)) (ix_words (j + 5) (by omega) W) ⟨hC, rfl⟩
  · intro a W hlike hC hdep
    exact TL.Does.load rfl (hdep 8 (by kernel_rfl)) (ldStr _ _ _ W (HWd.out W hC.low)) ⟨hC, rfl⟩
  · intro a W hlike hC hdep
    refine TL.Does.val (v := .string (wd ++ ⟨#[40]⟩ : ByteArray)) (w' := W) ?_ ⟨hC, rfl⟩
    have e13 : a.eval (.tmp 13) = .string wd := hdep 9 (by kernel_rfl)
    unfold execOp
    dsimp only
    rw [e13]
    exact cat_run _ _ _ _ W (by (try simp only [sz40]); omega)
  · intro a W hlike hC hdep
    have e6 : a.eval (.tmp 6) = .pointer (some ⟨bq, 0, none⟩) := hdep 2 (by kernel_rfl)
    have e14 : a.eval (.tmp 14) = .string (wd ++ ⟨#[40]⟩ : ByteArray) := hdep 10 (by kernel_rfl)
    refine TL.Does.call (f := 73) (args := #[a.eval (.tmp 6), a.eval (.tmp 14)]) (by kernel_rfl) ?_
    rw [e6, e14]
    refine (pstr_any w0 bq t k _ W hC (by (try simp only [ByteArray.size_append, sz40]); omega)).mono ?_
    rintro e W' ⟨rfl, hp⟩
    exact ⟨_, rfl, hp, rfl⟩
  · intro f W hC
    have HPz := hid hC
    clear hC
    simp only [TL.puts]
    go_frame
    generalize f 4 = gs4
    generalize f 5 = gs5
    generalize f 6 = gs6
    generalize f 7 = gs7
    generalize f 8 = gs8
    generalize f 9 = gs9
    generalize f 10 = gs10
    generalize f 11 = gs11
    generalize f 12 = gs12
    generalize f 13 = gs13
    generalize f 14 = gs14
    generalize f 15 = gs15
    have l5 := HLc.out W HPz.out.low
    go_wp2_with fail
    refine (HL.out w0 _ W bq _ k 0 HLv.out HG.out HPz.out HKp.out hk (by have := HLz.out; omega)).mono ?_
    rintro e w3 ⟨rfl, hp3⟩
    have HP3 := hid hp3
    clear hp3 HPz l5
    have hl3 := HL3.out
    generalize ht1 : t ++ (wd ++ ⟨#[40]⟩ : ByteArray).data.toList ++ AQ.parT 0 q (AQ.txt q) = t1 at *
    generalize hk2 : k - (AQ.parts q : Int) = k2 at *
    have HT1 := hid ht1
    have HK2 := hid hk2
    clear ht1 hk2
    go_wp2_with fail
    refine (pbyte_any w0 bq t1 k2 41 41 rfl w3 HP3.out (by omega)).mono ?_
    rintro e w5 ⟨rfl, hp5⟩
    have HP5 := hid hp5
    have by0 := kcell _ _ _ _ (HBox.out w5 hp5.low) 4 _ rfl
    clear hp5 HP3
    rcases Nat.eq_zero_or_pos nm.length with h0 | hne
    · have hlz : ¬ (0 : Int) < (nm.length : Int) := by omega
      have HTx : Hid (t1 ++ [41] = t ++ AQ.txt (.mk (8 + (j : Int)) 0 [] 0 nm q .none)) := by
        show _ = _
        have e : AQ.byT nm = [] := by unfold AQ.byT; rw [if_pos (List.length_eq_zero_iff.1 h0)]
        rw [HTq.out, ← HT1.out, HWt.out, e]
        simp
      have HKx : Hid (k2 = k + 1 - (AQ.parts (.mk (8 + (j : Int)) 0 [] 0 nm q .none) : Nat)) := by show _ = _; rw [← HK2.out]; simp only [AQ.parts]; omega
      clear h0
      go_wp2_with fail
      first | go_end0 | refine bodyPost_ret (results_none rfl _ _ _) rfl ?_
      exact ⟨rfl, HP5.out.to HTx.out HKx.out⟩
    · have hlz : (0 : Int) < (nm.length : Int) := by omega
      obtain ⟨xg, cur, ea, hx2, hxc⟩ : ∃ xg cur, xa = some ⟨xg, 0, none⟩ ∧ w0.heap[xg]? = some (.cells cur 9) ∧ nm.length ≤ xc := by
        rcases hbv.2 with ⟨_, h0⟩ | ⟨g, c, cur, h0, h1, h2, h3, _⟩
        · omega
        · cases h0; exact ⟨g, cur, rfl, h2, h3⟩
      subst ea
      have HTq2 := hid (show AQ.byT nm = [32, 98, 121, 32, 40] ++ Lib.join (nm.map (·.data.toList)) [44, 32] ++ [41] by unfold AQ.byT; rw [if_neg (fun e => by rw [e] at hne; simp at hne)])
      have hbyl := AQ.by_len hn
      have HJn := hid (fun (W : World) (h : Below w0.heap.size w0 W) => Tryd.strings_Join xg 0 xc nm ⟨#[44, 32]⟩ W (fun jj x hx => by
          rw [Nat.zero_add]
          have hlt : jj < nm.length := by
            rcases Nat.lt_or_ge jj nm.length with h' | h'
            · exact h'
            · rw [List.getElem?_eq_none h'] at hx; cases hx
          have h1 := hbv.cellAt jj (by omega)
          rw [List.getElem?_map, hx] at h1
          exact (h.cell (p := ⟨xg, jj, none⟩) (heap_lt hx2)).trans h1) (Nat.lt_of_lt_of_le (heap_lt hx2) h.size) (by have := hn.1; omega) hxc (by
          have e : (⟨#[44, 32]⟩ : ByteArray).data.toList = [44, 32] := rfl
          rw [e]
          rw [HTq2.out] at hbyl
          simp only [List.length_append, List.length_cons, List.length_nil] at hbyl
          omega))
      have hjz : (⟨(Lib.join (nm.map (·.data.toList)) (⟨#[44, 32]⟩ : ByteArray).data.toList).toArray⟩ : ByteArray).size ≤ 300 := by
        have e : (⟨(Lib.join (nm.map (·.data.toList)) (⟨#[44, 32]⟩ : ByteArray).data.toList).toArray⟩ : ByteArray).size = (Lib.join (nm.map (·.data.toList)) [44, 32]).length := by simp [ByteArray.size]
        rw [HTq2.out] at hbyl
        simp only [List.length_append, List.length_cons, List.length_nil] at hbyl
        omega
      have HJl : Hid ((⟨(Lib.join (nm.map (·.data.toList)) (⟨#[44, 32]⟩ : ByteArray).data.toList).toArray⟩ : ByteArray).data.toList = Lib.join (nm.map (·.data.toList)) [44, 32]) := rfl
      generalize hjb : (⟨(Lib.join (nm.map (·.data.toList)) (⟨#[44, 32]⟩ : ByteArray).data.toList).toArray⟩ : ByteArray) = jb at *
      have HJb := hid hjb
      have HTx : Hid (t1 ++ [41] ++ (⟨#[32, 98, 121, 32, 40]⟩ ++ jb ++ ⟨#[41]⟩ : ByteArray).data.toList = t ++ AQ.txt (.mk (8 + (j : Int)) 0 [] 0 nm q .none)) := by
        show _ = _
        rw [HTq.out, HTq2.out, ← HT1.out, HWt.out, ← HJl.out]
        simp
      have HKx : Hid (k2 = k + 1 - (AQ.parts (.mk (8 + (j : Int)) 0 [] 0 nm q .none) : Nat)) := by show _ = _; rw [← HK2.out]; simp only [AQ.parts]; omega
      have htl2 : (t1 ++ [41]).length ≤ 910000000 := by simp only [List.length_append, List.length_cons, List.length_nil]; omega
      generalize t1 ++ [41] = t2 at *
      clear hjb hbyl hx2 hne hbv hxc HTq2 HJl
      go_upto_region 4 with fail
    
      refine TL.wp_vals 10 [32, 33, 34, 35, 36, 37, 38, 39, 40, 41, 42] (fun W => Pt w0 W bq t2 k2) (fun W => Pt w0 W bq (t2 ++ (⟨#[32, 98, 121, 32, 40]⟩ ++ jb ++ ⟨#[41]⟩ : ByteArray).data.toList) k2) [.pointer (some ⟨bq, 0, none⟩), .pointer (some ⟨bq, 0, none⟩), .pointer (some ⟨bq, 0, none⟩), .pointer (some ⟨B, 0, none⟩), .pointer (some ⟨B, 0, none⟩), .pointer (some ⟨B, 4, none⟩), .slice (some ⟨xg, 0, none⟩) nm.length xc, .string jb, .string (⟨#[32, 98, 121, 32, 40]⟩ ++ jb : ByteArray), .string (⟨#[32, 98, 121, 32, 40]⟩ ++ jb ++ ⟨#[41]⟩ : ByteArray), .tuple #[.int .i64 (⟨#[32, 98, 121, 32, 40]⟩ ++ jb ++ ⟨#[41]⟩ : ByteArray).size, .nilIface]] (by kernel_rfl) (by kernel_rfl) (by kernel_rfl) 43 rfl (by kernel_rfl) (by kernel_rfl) (HP5.out.below ((Below.refl _ _).drew)) (TL.ix_cons ?_ (TL.ix_cons ?_ (TL.ix_cons ?_ (TL.ix_cons ?_ (TL.ix_cons ?_ (TL.ix_cons ?_ (TL.ix_cons ?_ (TL.ix_cons ?_ (TL.ix_cons ?_ (TL.ix_cons ?_ (TL.ix_cons ?_ TL.ix_nil))))))))))) ?_
      · intro a W hlike hC hdep
        refine TL.Does.val (v := .pointer (some ⟨bq, 0, none⟩)) (w' := W) ?_ ⟨hC, rfl⟩
        have e0 : a.eval (.tmp 0) = .pointer (some ⟨bq, 0, none⟩) := hlike.keeps 0 (by kernel_rfl)
        unfold execOp
        dsimp only
        rw [e0]
        rfl
      · intro a W hlike hC hdep
        refine TL.Does.val (v := .pointer (some ⟨bq, 0, none⟩)) (w' := W) ?_ ⟨hC, rfl⟩
        have e32 : a.eval (.tmp 32) = .pointer (some ⟨bq, 0, none⟩) := hdep 0 (by kernel_rfl)
        unfold execOp
        dsimp only
        rw [e32]
        rfl
      · intro a W hlike hC hdep
        refine TL.Does.val (v := .pointer (some ⟨bq, 0, none⟩)) (w' := W) ?_ ⟨hC, rfl⟩
        have e33 : a.eval (.tmp 33) = .pointer (some ⟨bq, 0, none⟩) := hdep 1 (by kernel_rfl)
        unfold execOp
        dsimp only
        rw [e33]
        rfl
      · intro a W hlike hC hdep
        refine TL.Does.val (v := .pointer (some ⟨B, 0, none⟩)) (w' := W) ?_ ⟨hC, rfl⟩
        have e1 : a.eval (.tmp 1) = .pointer (some ⟨B, 0, none⟩) := hlike.keeps 1 (by kernel_rfl)
        unfold execOp
        dsimp only
        rw [e1]
        rfl
      · intro a W hlike hC hdep
        refine TL.Does.val (v := .pointer (some ⟨B, 0, none⟩)) (w' := W) ?_ ⟨hC, rfl⟩
        have e35 : a.eval (.tmp 35) = .pointer (some ⟨B, 0, none⟩) := hdep 3 (by kernel_rfl)
        unfold execOp
        dsimp only
        rw [e35]
        rfl
      · intro a W hlike hC hdep
        refine TL.Does.val (v := .pointer (some ⟨B, 4, none⟩)) (w' := W) ?_ ⟨hC, rfl⟩
        have e36 : a.eval (.tmp 36) = .pointer (some ⟨B, 0, none⟩) := hdep 4 (by kernel_rfl)
        unfold execOp
        dsimp only
        rw [e36]
        rfl
      · intro a W hlike hC hdep
        exact TL.Does.load rfl (hdep 5 (by kernel_rfl)) (ldTs _ _ (some ⟨xg, 0, none⟩, nm.length, xc) W (kcell W _ _ _ (HBox.out W hC.low) 4 _ rfl)) ⟨hC, rfl⟩
      · intro a W hlike hC hdep
        have e38 : a.eval (.tmp 38) = .slice (some ⟨xg, 0, none⟩) nm.length xc := hdep 6 (by kernel_rfl)
        refine TL.Does.call (f := 163) (args := #[a.eval (.tmp 38), .string ⟨#[44, 32]⟩]) (by kernel_rfl) ?_
        rw [e38]
        refine (HJn.out W hC.low).mono ?_
        rintro e W' ⟨rfl, hb⟩
        exact ⟨_, rfl, hC.below hb, rfl⟩
      · intro a W hlike hC hdep
        refine TL.Does.val (v := .string (⟨#[32, 98, 121, 32, 40]⟩ ++ jb : ByteArray)) (w' := W) ?_ ⟨hC, rfl⟩
        have e39 : a.eval (.tmp 39) = .string jb := hdep 7 (by kernel_rfl)
        unfold execOp
        dsimp only
        rw [e39]
        exact cat_run _ _ _ _ W (by (try simp only [szby]); omega)
      · intro a W hlike hC hdep
        refine TL.Does.val (v := .string (⟨#[32, 98, 121, 32, 40]⟩ ++ jb ++ ⟨#[41]⟩ : ByteArray)) (w' := W) ?_ ⟨hC, rfl⟩
        have e40 : a.eval (.tmp 40) = .string (⟨#[32, 98, 121, 32, 40]⟩ ++ jb : ByteArray) := hdep 8 (by kernel_rfl)
        unfold execOp
        dsimp only
        rw [e40]
        exact cat_run _ _ _ _ W (by (try simp only [ByteArray.size_append, sz41, szby]); omega)
      · intro a W hlike hC hdep
        have e34 : a.eval (.tmp 34) = .pointer (some ⟨bq, 0, none⟩) := hdep 2 (by kernel_rfl)
        have e41 : a.eval (.tmp 41) = .string (⟨#[32, 98, 121, 32, 40]⟩ ++ jb ++ ⟨#[41]⟩ : ByteArray) := hdep 9 (by kernel_rfl)
        refine TL.Does.call (f := 73) (args := #[a.eval (.tmp 34), a.eval (.tmp 41)]) (by kernel_rfl) ?_
        rw [e34, e41]
        refine (pstr_any w0 bq t2 k2 _ W hC (by (try simp only [ByteArray.size_append, sz41, szby]); omega)).mono ?_
        rintro e W' ⟨rfl, hp⟩
        exact ⟨_, rfl, hp, rfl⟩
      · intro f W hC
        have HPz := hid hC
        clear hC
        simp only [TL.puts]
        go_frame
        generalize f 32 = gs32
        generalize f 33 = gs33
        generalize f 34 = gs34
        generalize f 35 = gs35
        generalize f 36 = gs36
        generalize f 37 = gs37
        generalize f 38 = gs38
        generalize f 39 = gs39
        generalize f 40 = gs40
        generalize f 41 = gs41
        generalize f 42 = gs42
        go_wp2_with fail
        first | go_end0 | refine bodyPost_ret (results_none rfl _ _ _) rfl ?_
        exact ⟨rfl, HPz.out.to HTx.out HKx.out⟩

end Go.Proofs.YtdmnlmohfaafoaeDoor
