/- The program's printer: part, whole, together (made by mkaqp.py). -/
import Derived.Test.YtdmnlmohfaafoaeDoorAqMtr
import Derived.Test.YtdmnlmohfaafoaeDoorShelfQ
namespace Go.Proofs.YtdmnlmohfaafoaeDoor
open Go.RowKit Go.Shelf

/-- What whole does with a question; what part does. -/
def WholeK (q : AQ.Q) : Prop := ∀ (w0 : World) (v : Value) (w : World) (bq : Nat) (t : List UInt8) (k : Int), AskT w0 v q → Gl w0 → Pt w0 w bq t k → (AQ.parts q : Int) ≤ k + 1 → k ≤ 65536 → (t.length : Int) + 1010 * k + 1009 ≤ 900000000 → Calls Tryd.prog 109 #[.pointer (some ⟨bq, 0, none⟩), v] w fun e w' => e = .returned (.tuple #[]) ∧ Pt w0 w' bq (t ++ AQ.txt q) (k + 1 - AQ.parts q)
def PartK (q : AQ.Q) : Prop := ∀ (w0 : World) (v : Value) (w : World) (bq : Nat) (t : List UInt8) (k : Int) (least : Nat), AskT w0 v q → Gl w0 → Pt w0 w bq t k → (AQ.parts q : Int) ≤ k → k ≤ 65536 → (t.length : Int) + 1010 * k ≤ 900000000 → Calls Tryd.prog 67 #[.pointer (some ⟨bq, 0, none⟩), v, .int .i64 (least : Int)] w fun e w' => e = .returned (.tuple #[]) ∧ Pt w0 w' bq (t ++ AQ.parT least q (AQ.txt q)) (k - AQ.parts q)

theorem Pt.left {w0 w : World} {bq : Nat} {t : List UInt8} {k : Int} (h : Pt w0 w bq t k) (k' : Int) : w.cell? ⟨bq, 2, none⟩ = some (.int .i64 k) ∧ w.frozen? ⟨bq, 2, none⟩ = false ∧ Pt w0 (w.setCell ⟨bq, 2, none⟩ (.int .i64 k')) bq t k' := by
  obtain ⟨p, v, hp, hx, hr⟩ := h.box
  exact ⟨kcell _ _ _ _ hx 2 _ rfl, kfz hx 2, h.low_set 2 _, h.old, h.few, p, v, hp, heap_setCell_same w bq 2 _ _ _ hx, row_set hr hx bU8⟩
theorem Pt.to {w0 w : World} {bq : Nat} {t t' : List UInt8} {k k' : Int} (h : Pt w0 w bq t k) (et : t = t') (ek : k = k') : Pt w0 w bq t' k' := by subst et ek; exact h

set_option maxRecDepth 100000 in
set_option maxHeartbeats 800000 in
theorem part_of {q : AQ.Q} (hlen : (AQ.txt q).length ≤ 1000 * AQ.parts q) (hpos : 1 ≤ AQ.parts q) (hw : WholeK q) : PartK q := by
  intro w0 v w bq t k least hA hG hP hpk hk hf
  have HW := hid hw
  have HA := hid hA
  have HG := hid hG
  have HF := hid hf
  have HLn := hid hlen
  have hq0 : ∃ c n m sp nm l r, q = .mk c n m sp nm l r := by
    cases q with
    | none => simp [AQ.parts] at hpos
    | mk c n m sp nm l r => exact ⟨c, n, m, sp, nm, l, r, rfl⟩
  obtain ⟨B, hv, hbox⟩ : ∃ B, v = .pointer (some ⟨B, 0, none⟩) ∧ ∃ c1 c2 c3 c4 c5 c6, w0.heap[B]? = some (.cells #[.int .i64 q.code, c1, c2, c3, c4, c5, c6] 112) := by
    obtain ⟨c, n, m, sp, nm, l, r, rfl⟩ := hq0
    obtain ⟨B, mv, bv, lv, rv, e, hb, _⟩ := hA
    exact ⟨B, e, _, _, _, _, _, _, hb⟩
  subst hv
  obtain ⟨c1, c2, c3, c4, c5, c6, hb0⟩ := hbox
  obtain ⟨l0, l1, hP1⟩ := hP.left (k - 1)
  have HP1 := hid hP1
  have hw1 : IntKind.i64.wrap (k - 1) = k - 1 := by rw [IntKind.wrap_i64]; omega
  have hk0 : ¬ k - 1 < 0 := by omega
  have l2 := (hP1.left 0).1
  have hne : ¬ B = bq := by have := heap_lt hb0; have := hP.old; omega
  have b0 : (w.setCell ⟨bq, 2, none⟩ (.int .i64 (k - 1))).cell? ⟨B, 0, none⟩ = some (.int .i64 q.code) := kcell _ _ _ _ ((hP1.low.block B (heap_lt hb0)).trans hb0) 0 _ rfl
  have HWt := hid (weight_any q.code)
  have HPT := hid (show AQ.parT least q (AQ.txt q) = if least ≤ AQ.wgt q.code then AQ.txt q else 40 :: AQ.txt q ++ [41] from rfl)
  have HPr : Hid ((AQ.parts q : Int) ≤ k - 1 + 1 ∧ k - 1 ≤ 65536) := ⟨by omega, by omega⟩
  have HLa : Hid (t.length + 1 ≤ 1000000000) := by show _ ≤ _; omega
  have HLb : Hid ((t ++ [40] ++ AQ.txt q).length + 1 ≤ 1000000000) := by
    show _ ≤ _
    simp only [List.length_append, List.length_cons, List.length_nil]
    omega
  have HLc : Hid (((t ++ [40]).length : Int) + 1010 * (k - 1) + 1009 ≤ 900000000) := by
    show _ ≤ _
    simp only [List.length_append, List.length_cons, List.length_nil]
    omega
  generalize AQ.wgt q.code = wg at *
  generalize q.code = cd at *
  clear hA hG hP hpk hf hP1 hq0 hw hlen hpos hb0
  go_enter Tryd.func67, Tryd.ntmps67
  go_wp2_with fail
  generalize w.setCell ⟨bq, 2, none⟩ (.int .i64 (k - 1)) = w1 at *
  refine (HWt.out w1).mono ?_
  rintro e w2 ⟨rfl, rfl⟩
  by_cases hle : least ≤ wg
  · have hle' : (least : Int) ≤ (wg : Int) := by omega
    have HE := hid (show AQ.parT least q (AQ.txt q) = AQ.txt q by rw [HPT.out, if_pos hle])
    clear hle HPT
    go_wp2_with fail
    refine (HW.out w0 _ w2 bq t (k - 1) HA.out HG.out HP1.out HPr.out.1 HPr.out.2 (by have := HF.out; omega)).mono ?_
    rintro e w3 ⟨rfl, hp3⟩
    have HP3 := hid hp3
    clear hp3
    go_wp2_with fail
    first | go_end0 | refine bodyPost_ret (results_none rfl _ _ _) rfl ?_
    exact ⟨rfl, HP3.out.to (by rw [HE.out]) (by omega)⟩
  · have hle' : ¬ (least : Int) ≤ (wg : Int) := by omega
    have HE := hid (show AQ.parT least q (AQ.txt q) = 40 :: AQ.txt q ++ [41] by rw [HPT.out, if_neg hle])
    clear hle HPT
    go_wp2_with fail
    refine (pbyte_any w0 bq t (k - 1) 40 40 rfl w2 HP1.out HLa.out).mono ?_
    rintro e w3 ⟨rfl, hp3⟩
    have HP3 := hid hp3
    clear hp3
    go_wp2_with fail
    refine (HW.out w0 _ w3 bq (t ++ [40]) (k - 1) HA.out HG.out HP3.out HPr.out.1 HPr.out.2 HLc.out).mono ?_
    rintro e w4 ⟨rfl, hp4⟩
    have HP4 := hid hp4
    clear hp4
    go_wp2_with fail
    refine (pbyte_any w0 bq _ _ 41 41 rfl w4 HP4.out HLb.out).mono ?_
    rintro e w5 ⟨rfl, hp5⟩
    have HP5 := hid hp5
    clear hp5
    go_wp2_with fail
    first | go_end0 | refine bodyPost_ret (results_none rfl _ _ _) rfl ?_
    exact ⟨rfl, HP5.out.to (by rw [HE.out]; simp) (by omega)⟩

theorem grow_below (w : World) (n : Nat) (os : Array Obj) : Below w.heap.size w (Go.Sort.grow (w.drewN n) os) := by
  have h1 : Below w.heap.size w (w.drewN n) := below_drewN (Below.refl _ w) n
  refine ⟨h1.os, h1.tape, h1.output, ?_, fun k hk => ?_⟩
  · show w.heap.size ≤ ((w.drewN n).heap ++ os).size
    have := h1.size
    simp only [Array.size_append]
    omega
  · show ((w.drewN n).heap ++ os)[k]? = _
    rw [Array.getElem?_append_left (Nat.lt_of_lt_of_le hk h1.size)]
    exact h1.block k hk

theorem ldMs (b o : Nat) (x : Option Addr × Nat × Nat) (w : World) (h : w.cell? ⟨b, o, none⟩ = some (.slice x.1 x.2.1 x.2.2)) : (Instr.loadAt 51 (.pointer (some ⟨b, o, none⟩))).run Tryd.prog w = .ok (.slice x.1 x.2.1 x.2.2) w := by simp [go_sem, h]
theorem ldTs (b o : Nat) (x : Option Addr × Nat × Nat) (w : World) (h : w.cell? ⟨b, o, none⟩ = some (.slice x.1 x.2.1 x.2.2)) : (Instr.loadAt 110 (.pointer (some ⟨b, o, none⟩))).run Tryd.prog w = .ok (.slice x.1 x.2.1 x.2.2) w := by simp [go_sem, h]
theorem ldAsk (b o : Nat) (x : Option Addr) (w : World) (h : w.cell? ⟨b, o, none⟩ = some (.pointer x)) : (Instr.loadAt 61 (.pointer (some ⟨b, o, none⟩))).run Tryd.prog w = .ok (.pointer x) w := by simp [go_sem, h]

set_option maxRecDepth 100000 in
set_option maxHeartbeats 1600000 in
theorem whole_num (n : Int) (h0 : 0 ≤ n) (h1 : n < 1000000000000000000) : WholeK (.mk 1 n [] 0 [] .none .none) := by
  intro w0 v w bq t k hA hG hP hpk hk hf
  obtain ⟨B, mv, bv, lv, rv, hv, hbox, hmv, hbv, hlv, hrv⟩ := hA
  subst hv
  have HBox := hid (fun (W : World) (h : Below w0.heap.size w0 W) => (h.block B (heap_lt hbox)).trans hbox)
  have HG := hid hG
  have HP := hid hP
  have HF := hid hf
  have b0 := kcell _ _ _ _ (HBox.out w hP.low) 0 _ rfl
  have h18 := (AQ.itoa_facts h0 h1).2.2.1
  have HFs : Hid (t.length + (⟨(Lib.itoa n).toArray⟩ : ByteArray).size ≤ 1000000000) := by
    have e : (⟨(Lib.itoa n).toArray⟩ : ByteArray).size = (Lib.itoa n).length := by simp [ByteArray.size]
    show _ ≤ _
    rw [e]
    omega
  have HTx : Hid (t ++ Lib.itoa n = t ++ AQ.txt (.mk 1 n [] 0 [] .none .none)) := rfl
  have HKx : Hid (k = k + 1 - (AQ.parts (.mk 1 n [] 0 [] .none .none) : Nat)) := by show _ = _; simp only [AQ.parts]; omega
  clear hG hP hf hmv hbv hlv hrv hpk h18
  go_enter Tryd.func109, Tryd.ntmps109
  go_upto_region 2 with fail
  refine TL.wp_vals 8 [12, 13, 14, 15, 16, 17, 18, 19, 20] (fun W => Pt w0 W bq t k) (fun W => Pt w0 W bq (t ++ Lib.itoa n) k) [.pointer (some ⟨bq, 0, none⟩), .pointer (some ⟨bq, 0, none⟩), .pointer (some ⟨bq, 0, none⟩), .pointer (some ⟨B, 0, none⟩), .pointer (some ⟨B, 0, none⟩), .pointer (some ⟨B, 1, none⟩), .int .i64 n, .string ⟨(Lib.itoa n).toArray⟩, .tuple #[.int .i64 (⟨(Lib.itoa n).toArray⟩ : ByteArray).size, .nilIface]] (by kernel_rfl) (by kernel_rfl) (by kernel_rfl) 120 rfl (by kernel_rfl) (by kernel_rfl) (HP.out.below ((Below.refl _ _).drew)) (TL.ix_cons ?_ (TL.ix_cons ?_ (TL.ix_cons ?_ (TL.ix_cons ?_ (TL.ix_cons ?_ (TL.ix_cons ?_ (TL.ix_cons ?_ (TL.ix_cons ?_ (TL.ix_cons ?_ TL.ix_nil))))))))) ?_
  · intro a W hlike hC hdep
    refine TL.Does.val (v := .pointer (some ⟨bq, 0, none⟩)) (w' := W) ?_ ⟨hC, rfl⟩
    have e0 : a.eval (.tmp 0) = .pointer (some ⟨bq, 0, none⟩) := hlike.keeps 0 (by kernel_rfl)
    unfold execOp
    dsimp only
    rw [e0]
    rfl
  · intro a W hlike hC hdep
    refine TL.Does.val (v := .pointer (some ⟨bq, 0, none⟩)) (w' := W) ?_ ⟨hC, rfl⟩
    have e12 : a.eval (.tmp 12) = .pointer (some ⟨bq, 0, none⟩) := hdep 0 (by kernel_rfl)
    unfold execOp
    dsimp only
    rw [e12]
    rfl
  · intro a W hlike hC hdep
    refine TL.Does.val (v := .pointer (some ⟨bq, 0, none⟩)) (w' := W) ?_ ⟨hC, rfl⟩
    have e13 : a.eval (.tmp 13) = .pointer (some ⟨bq, 0, none⟩) := hdep 1 (by kernel_rfl)
    unfold execOp
    dsimp only
    rw [e13]
    rfl
  · intro a W hlike hC hdep
    refine TL.Does.val (v := .pointer (some ⟨B, 0, none⟩)) (w' := W) ?_ ⟨hC, rfl⟩
    have e1 : a.eval (.tmp 1) = .pointer (some ⟨B, 0, none⟩) := hlike.keeps 1 (by kernel_rfl)
    unfold execOp
    dsimp only
    rw [e1]
    rfl
  · intro a W hlike hC hdep
    refine TL.Does.val (v := .pointer (some ⟨B, 0, none⟩)) (w' := W) ?_ ⟨hC, rfl⟩
    have e15 : a.eval (.tmp 15) = .pointer (some ⟨B, 0, none⟩) := hdep 3 (by kernel_rfl)
    unfold execOp
    dsimp only
    rw [e15]
    rfl
  · intro a W hlike hC hdep
    refine TL.Does.val (v := .pointer (some ⟨B, 1, none⟩)) (w' := W) ?_ ⟨hC, rfl⟩
    have e16 : a.eval (.tmp 16) = .pointer (some ⟨B, 0, none⟩) := hdep 4 (by kernel_rfl)
    unfold execOp
    dsimp only
    rw [e16]
    rfl
  · intro a W hlike hC hdep
    exact TL.Does.load rfl (hdep 5 (by kernel_rfl)) (ldI64 _ _ _ W (kcell W _ _ _ (HBox.out W hC.low) 1 _ rfl)) ⟨hC, rfl⟩
  · intro a W hlike hC hdep
    have e18 : a.eval (.tmp 18) = .int .i64 n := hdep 6 (by kernel_rfl)
    refine TL.Does.call (f := 132) (args := #[a.eval (.tmp 18), .int .i64 10]) (by kernel_rfl) ?_
    rw [e18]
    refine (Tryd.strconv_FormatInt_10 n (by omega) (by omega) W (HG.out.below hC.low).pow).mono ?_
    rintro e W' ⟨rfl, kk, os, rfl⟩
    exact ⟨_, rfl, hC.below (grow_below W kk os), rfl⟩
  · intro a W hlike hC hdep
    have e14 : a.eval (.tmp 14) = .pointer (some ⟨bq, 0, none⟩) := hdep 2 (by kernel_rfl)
    have e19 : a.eval (.tmp 19) = .string ⟨(Lib.itoa n).toArray⟩ := hdep 7 (by kernel_rfl)
    refine TL.Does.call (f := 73) (args := #[a.eval (.tmp 14), a.eval (.tmp 19)]) (by kernel_rfl) ?_
    rw [e14, e19]
    refine (pstr_any w0 bq t k _ W hC HFs.out).mono ?_
    rintro e W' ⟨rfl, hp⟩
    exact ⟨_, rfl, hp, rfl⟩
  · intro f W hC
    have HPz := hid hC
    clear hC
    simp only [TL.puts]
    go_frame
    generalize f 12 = gs12
    generalize f 13 = gs13
    generalize f 14 = gs14
    generalize f 15 = gs15
    generalize f 16 = gs16
    generalize f 17 = gs17
    generalize f 18 = gs18
    generalize f 19 = gs19
    generalize f 20 = gs20
    go_wp2_with fail
    first | go_end0 | refine bodyPost_ret (results_none rfl _ _ _) rfl ?_
    exact ⟨rfl, HPz.out.to HTx.out HKx.out⟩

set_option maxRecDepth 100000 in
set_option maxHeartbeats 1600000 in
theorem whole_pick (m : List LB.Mat) (hm : AQ.matsOk m) : WholeK (.mk 2 0 m 300 [] .none .none) := by
  intro w0 v w bq t k hA hG hP hpk hk hf
  obtain ⟨B, mv, bv, lv, rv, hv, hbox, hmv, hbv, hlv, hrv⟩ := hA
  subst hv
  have HBox := hid (fun (W : World) (h : Below w0.heap.size w0 W) => (h.block B (heap_lt hbox)).trans hbox)
  have HG := hid hG
  have HP := hid hP
  have HF := hid hf
  have b0 := kcell _ _ _ _ (HBox.out w hP.low) 0 _ rfl
  obtain ⟨xa, xc, ex⟩ := kown_slice hmv
  subst ex
  have HMt := hid (fun (W : World) (h : Below w0.heap.size w0 W) => mts_any xa m xc W ((own_mrow hmv).below h) hm (HG.out.below h))
  have hml := AQ.mat_len hm
  have HFs : Hid (t.length + (⟨(AQ.matT m).toArray⟩ : ByteArray).size ≤ 1000000000) := by
    have e : (⟨(AQ.matT m).toArray⟩ : ByteArray).size = (AQ.matT m).length := by simp [ByteArray.size]
    show _ ≤ _
    rw [e]
    omega
  have HTx : Hid (t ++ AQ.matT m = t ++ AQ.txt (.mk 2 0 m 300 [] .none .none)) := rfl
  have HKx : Hid (k = k + 1 - (AQ.parts (.mk 2 0 m 300 [] .none .none) : Nat)) := by show _ = _; simp only [AQ.parts]; omega
  clear hG hP hf hmv hbv hlv hrv hpk hml
  go_enter Tryd.func109, Tryd.ntmps109
  go_upto_region 4 with fail
  refine TL.wp_vals 8 [24, 25, 26, 27, 28, 29, 30, 31, 32] (fun W => Pt w0 W bq t k) (fun W => Pt w0 W bq (t ++ AQ.matT m) k) [.pointer (some ⟨bq, 0, none⟩), .pointer (some ⟨bq, 0, none⟩), .pointer (some ⟨bq, 0, none⟩), .pointer (some ⟨B, 0, none⟩), .pointer (some ⟨B, 0, none⟩), .pointer (some ⟨B, 2, none⟩), .slice xa m.length xc, .string ⟨(AQ.matT m).toArray⟩, .tuple #[.int .i64 (⟨(AQ.matT m).toArray⟩ : ByteArray).size, .nilIface]] (by kernel_rfl) (by kernel_rfl) (by kernel_rfl) 120 rfl (by kernel_rfl) (by kernel_rfl) (HP.out.below ((Below.refl _ _).drew)) (TL.ix_cons ?_ (TL.ix_cons ?_ (TL.ix_cons ?_ (TL.ix_cons ?_ (TL.ix_cons ?_ (TL.ix_cons ?_ (TL.ix_cons ?_ (TL.ix_cons ?_ (TL.ix_cons ?_ TL.ix_nil))))))))) ?_
  · intro a W hlike hC hdep
    refine TL.Does.val (v := .pointer (some ⟨bq, 0, none⟩)) (w' := W) ?_ ⟨hC, rfl⟩
    have e0 : a.eval (.tmp 0) = .pointer (some ⟨bq, 0, none⟩) := hlike.keeps 0 (by kernel_rfl)
    unfold execOp
    dsimp only
    rw [e0]
    rfl
  · intro a W hlike hC hdep
    refine TL.Does.val (v := .pointer (some ⟨bq, 0, none⟩)) (w' := W) ?_ ⟨hC, rfl⟩
    have e24 : a.eval (.tmp 24) = .pointer (some ⟨bq, 0, none⟩) := hdep 0 (by kernel_rfl)
    unfold execOp
    dsimp only
    rw [e24]
    rfl
  · intro a W hlike hC hdep
    refine TL.Does.val (v := .pointer (some ⟨bq, 0, none⟩)) (w' := W) ?_ ⟨hC, rfl⟩
    have e25 : a.eval (.tmp 25) = .pointer (some ⟨bq, 0, none⟩) := hdep 1 (by kernel_rfl)
    unfold execOp
    dsimp only
    rw [e25]
    rfl
  · intro a W hlike hC hdep
    refine TL.Does.val (v := .pointer (some ⟨B, 0, none⟩)) (w' := W) ?_ ⟨hC, rfl⟩
    have e1 : a.eval (.tmp 1) = .pointer (some ⟨B, 0, none⟩) := hlike.keeps 1 (by kernel_rfl)
    unfold execOp
    dsimp only
    rw [e1]
    rfl
  · intro a W hlike hC hdep
    refine TL.Does.val (v := .pointer (some ⟨B, 0, none⟩)) (w' := W) ?_ ⟨hC, rfl⟩
    have e27 : a.eval (.tmp 27) = .pointer (some ⟨B, 0, none⟩) := hdep 3 (by kernel_rfl)
    unfold execOp
    dsimp only
    rw [e27]
    rfl
  · intro a W hlike hC hdep
    refine TL.Does.val (v := .pointer (some ⟨B, 2, none⟩)) (w' := W) ?_ ⟨hC, rfl⟩
    have e28 : a.eval (.tmp 28) = .pointer (some ⟨B, 0, none⟩) := hdep 4 (by kernel_rfl)
    unfold execOp
    dsimp only
    rw [e28]
    rfl
  · intro a W hlike hC hdep
    exact TL.Does.load rfl (hdep 5 (by kernel_rfl)) (ldMs _ _ (xa, m.length, xc) W (kcell W _ _ _ (HBox.out W hC.low) 2 _ rfl)) ⟨hC, rfl⟩
  · intro a W hlike hC hdep
    have e30 : a.eval (.tmp 30) = .slice xa m.length xc := hdep 6 (by kernel_rfl)
    refine TL.Does.call (f := 31) (args := #[a.eval (.tmp 30)]) (by kernel_rfl) ?_
    rw [e30]
    refine (HMt.out W hC.low).mono ?_
    rintro e W' ⟨rfl, hb⟩
    exact ⟨_, rfl, hC.below hb, rfl⟩
  · intro a W hlike hC hdep
    have e26 : a.eval (.tmp 26) = .pointer (some ⟨bq, 0, none⟩) := hdep 2 (by kernel_rfl)
    have e31 : a.eval (.tmp 31) = .string ⟨(AQ.matT m).toArray⟩ := hdep 7 (by kernel_rfl)
    refine TL.Does.call (f := 73) (args := #[a.eval (.tmp 26), a.eval (.tmp 31)]) (by kernel_rfl) ?_
    rw [e26, e31]
    refine (pstr_any w0 bq t k _ W hC HFs.out).mono ?_
    rintro e W' ⟨rfl, hp⟩
    exact ⟨_, rfl, hp, rfl⟩
  · intro f W hC
    have HPz := hid hC
    clear hC
    simp only [TL.puts]
    go_frame
    generalize f 24 = gs24
    generalize f 25 = gs25
    generalize f 26 = gs26
    generalize f 27 = gs27
    generalize f 28 = gs28
    generalize f 29 = gs29
    generalize f 30 = gs30
    generalize f 31 = gs31
    generalize f 32 = gs32
    go_wp2_with fail
    first | go_end0 | refine bodyPost_ret (results_none rfl _ _ _) rfl ?_
    exact ⟨rfl, HPz.out.to HTx.out HKx.out⟩

end Go.Proofs.YtdmnlmohfaafoaeDoor
