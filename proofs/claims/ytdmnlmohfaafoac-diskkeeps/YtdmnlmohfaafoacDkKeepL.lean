/- DiskKeeps: it answers true. -/
import Derived.Test.YtdmnlmohfaafoacDkKeepM
import Derived.Test.YtdmnlmohfaafoacDkReg
import Derived.Test.YtdmnlmohfaafoacShelfR
import Derived.Test.YtdmnlmohfaafoacDkPre
import Derived.Deep.RegionWith
import Derived.BigQuiet
import Derived.Deep.CutBlock
import Derived.Deep.CutRange
import Derived.Deep.DeepCutAuto
namespace Go.Proofs.Ytdmnlmohfaafoac
open Go.RowKit Go.Maps

theorem str1 (b : Nat) (k : Nat) (w : World) (hk : k < 100) (h : w.cell? ⟨b, 0, none⟩ = some (.int .u8 (97 + (k : Int)))) : (convert 60 9 (.slice (some ⟨b, 0, none⟩) 1 1)).run Try.prog w = .ok (.string (lt1 k)) w := by
  have hn : (UInt8.ofNat (97 + k)).toNat = 97 + k := by
    rw [UInt8.toNat_ofNat']
    omega
  have := run_convert_bytes_back (P := Try.prog) w 60 9 5 ⟨b, 0, none⟩ 1 [UInt8.ofNat (97 + k)] Try.underlying60 Try.underlying5 Try.underlying9 (fun j hj => by
    have hj0 : j = 0 := by simpa using hj
    subst hj0
    rw [Addr.add_lit]
    simp only [List.getElem_cons_zero, hn]
    rw [Nat.zero_add, h]
    simp)
  exact this

/-- A letter, repeated. -/
def rp (k c : Nat) : ByteArray := ⟨(Lib.repeatL (lt1 k).data.toList c).toArray⟩

theorem rp_size (k c : Nat) : (rp k c).size = c := by
  show (Lib.repeatL (lt1 k).data.toList c).toArray.size = c
  rw [List.size_toArray, Lib.repeatL_length]
  show c * 1 = c
  omega

theorem zeroStr (w : World) : (zeroValue 9).run Try.prog w = .ok (.string ⟨#[]⟩) w := by kernel_rfl

theorem zeroInt (w : World) : (zeroValue 3).run Try.prog w = .ok (.int .i64 0) w := by kernel_rfl

theorem keF3 (b : Nat) (w : World) : (Instr.fieldAt 58 (.pointer (some ⟨b, 0, none⟩)) 3).run Try.prog w = .ok (.pointer (some ⟨b, 3, none⟩)) w := by kernel_rfl

theorem loadI (b k : Nat) (x : Int) (w : World) (h : w.cell? ⟨b, k, none⟩ = some (.int .i64 x)) : (Instr.loadAt 3 (.pointer (some ⟨b, k, none⟩))).run Try.prog w = .ok (.int .i64 x) w := by
  have hs : (Try.prog.info? 3).map (·.size) = some 1 := by kernel_rfl
  go_simp

/-- What lies in two blocks. -/
def TwoAt (b1 b2 : Nat) (o1 o2 : Option Obj) (W : World) : Prop := W.heap[b1]? = o1 ∧ W.heap[b2]? = o2

theorem nF_get (D : DK.M) (n : ByteArray) : (nF D n).getD (.string ⟨#[]⟩) = .string ((D n).getD DK.new).b := by
  unfold nF
  cases D n <;> rfl

theorem KeepI.left {w W W' : World} {bd bs bn cnt c2 cnt' : Nat} {X : Nat → Prop} {D D' : DK.M} {p p' : Int} {fs fn : ByteArray → Option Value} (h : KeepI w bd bs bn cnt c2 X D p fs fn W) (hd : DkEnd W X bd cnt' D' p' W') : ∃ X', KeepI w bd bs bn cnt' c2 X' D' p' fs fn W' := by
  obtain ⟨X', h1, h2, h3⟩ := hd
  have hs := h.bel.size
  have hsl := h.sf.lt
  have hnl := h.nw.lt
  refine ⟨X', h1, h.sf.block (h2.block bs hsl (fun e => (h.sep bs e).1 rfl)), h.nw.block (h2.block bn hnl (fun e => (h.sep bn e).2.1 rfl)), fun j hj => ?_, h.lo, h.bel.trans (h2.toBelow (fun j hj => (h.sep j hj).2.2) hs)⟩
  rcases h3 j hj with h4 | h4
  · exact h.sep j h4
  · exact ⟨by omega, by omega, by omega⟩

/-- What is kept of a file: its beginning, no shorter than what is safe, and no longer than is told. -/
theorem keepB_facts {f : DK.Fl} {c : Int} (h : f.s ≤ f.b.size) : LB.begins f.b (DK.keepB f c.toNat).b = true ∧ f.s ≤ (DK.keepB f c.toNat).b.size ∧ ((DK.keepB f c.toNat).b.size : Int) - (f.s : Int) ≤ max c 0 ∧ (DK.keepB f c.toNat).b.size ≤ f.b.size := by
  have hz := DK.keepB_size f c.toNat h
  refine ⟨?_, by omega, by omega, by omega⟩
  unfold LB.begins
  have e1 : (DK.keepB f c.toNat).b.size ≤ f.b.size := by omega
  rw [decide_eq_true e1, Bool.true_and, hz]
  exact decide_eq_true rfl

set_option maxRecDepth 100000 in
set_option maxHeartbeats 12800000 in
theorem keeps_any (ao : Option Addr) (L : List Ak) (cap : Nat) (cut keeps : Int) (w : World) (hA : KRow w ao L) (hc1 : -9223372036854775808 ≤ cut) (hc2 : cut ≤ 9223372036854775807) (hk1 : -9223372036854775808 ≤ keeps) (hk2 : keeps ≤ 9223372036854775807) :
    Calls Try.prog 6 #[.slice ao L.length cap, .int .i64 cut, .int .i64 keeps] w fun e w' => e = .returned (.bool true) ∧ Below w.heap.size w w' := by
  have HA := hid hA
  clear hA
  by_cases hl : 60 < L.length
  · have hl' : (60 : Int) < (L.length : Int) := by omega
    go_enter Try.func6, Try.ntmps6
    go_wp2
    go_ret
    exact ⟨rfl, Below.refl _ _⟩
  have hl' : ¬ (60 : Int) < (L.length : Int) := by omega
  have hmm := @run_makeMap Try.prog
  go_enter Try.func6, Try.ntmps6
  go_wp2_with fail
  refine (grown_any w).mono ?_
  rintro en w1 ⟨rfl, hb1⟩
  have HB1 := hid hb1
  clear hb1
  obtain ⟨X0, ⟨mo, fp, fv, e, l, hd⟩, hx0, hb0⟩ := DkN.zero w1
  have HCu := hid (cut_any hd cut hc2)
  have HXd := hid hd.xd
  have HX0 := hid hx0
  have HB0 := hid hb0
  clear hd hx0 hb0
  go_wp2_with fail
  refine HCu.out.mono ?_
  rintro en w2 ⟨rfl, ⟨e2, l2, hd2⟩, hg2⟩
  have HN : Hid (DkN w1 w1.heap.size 0 (fun _ => none) (max cut (-1)) w2) := DkN.on HX0.out HB0.out ⟨X0, ⟨mo, fp, fv, e2, l2, hd2⟩, ChEnd.fr hg2 HXd.out, fun j hj => .inl hj⟩
  clear hd2 hg2 HCu HXd HX0 HB0
  have HR : Hid (KeepR w w1.heap.size w2.heap.size (w2.heap.size + 1) 0 ((w2.alloc (.map #[] 0)).alloc (.map #[] 0))) := by
    obtain ⟨X, h1, h2, h3⟩ := HN.out
    obtain ⟨mo, fp, fv, e, l, hd⟩ := h1
    have hs1 := HB1.out.size
    have hs2 := h3.size
    have hb2 : Below w2.heap.size w2 ((w2.alloc (.map #[] 0)).alloc (.map #[] 0)) := ((Below.refl _ _).alloc (Nat.le_refl _) _).alloc (by simp) _
    have hm1 := (MapF.made w2 Try.prog 9).alloc (.map #[] 0)
    have hm2 := MapF.made (w2.alloc (.map #[] 0)) Try.prog 9
    have hsz : (w2.alloc (.map #[] 0)).heap.size = w2.heap.size + 1 := by simp
    rw [hsz] at hm2
    refine ⟨fun j => X j ∧ j < w2.heap.size, fun _ => none, max cut (-1), fun _ => none, ⟨⟨mo, fp, fv, e, l, hd.narrow.below hb2⟩, hm1, hm2, fun j hj => ⟨by omega, by omega, Nat.le_trans hs1 (h2 j hj.1)⟩, ⟨by omega, by omega, by omega⟩, (HB1.out.trans (h3.mono hs1)).trans (hb2.mono (by omega))⟩, SafeF.none, DK.Fine.none _, by omega, by omega⟩
  clear HN HB1
  go_wp2_with fail
  go_loopw [10] (fun t10 W => ∃ k : Nat, k ≤ L.length ∧ t10 = .int .i64 k ∧ KeepR w w1.heap.size w2.heap.size (w2.heap.size + 1) k W) (fun t10 _ => L.length - (intOf t10).toNat)
  case atStart => exact ⟨0, Nat.zero_le _, rfl, HR.out⟩
  case round =>
    obtain ⟨k, hk, rfl, X, D, p, fs, hKp, hSf, hF, hp1, hp2⟩ := hrel
    have HKp := hid hKp
    have HSf := hid hSf
    have HF := hid hF
    clear hKp hSf hF HR
    by_cases hlt : k < L.length
    · obtain ⟨b, off, hao, ha0, ha1, ha2, ha3, hbs⟩ := HA.out k hlt
      subst hao
      have hc0 := (HKp.out.bel.cell (p := ⟨b, off + k * 4, none⟩) hbs).trans ha0
      have hc1' := (HKp.out.bel.cell (p := ⟨b, off + k * 4 + 1, none⟩) hbs).trans ha1
      have hc2' := (HKp.out.bel.cell (p := ⟨b, off + k * 4 + 2, none⟩) hbs).trans ha2
      have hc3 := (HKp.out.bel.cell (p := ⟨b, off + k * 4 + 3, none⟩) hbs).trans ha3
      clear ha0 ha1 ha2 ha3
      generalize atK L k = x at *
      obtain ⟨xa, xf, xt, xn⟩ := x
      simp only at hc0 hc1' hc2' hc3
      obtain ⟨X1, hBx⟩ := KeepB.made HKp.out (.cells #[.int .i64 xa, .int .i64 xf, .int .i64 xt, .int .i64 xn] 58)
      have HBx := hid hBx
      clear hBx
      go_upto_region 12 with fail
      generalize hw1 : wr.alloc (.cells #[.int .i64 xa, .int .i64 xf, .int .i64 xt, .int .i64 xn] 58) = W1 at *
      generalize hbx : wr.heap.size = bx at *
      clear hw1 hbx
      have k0 := zcell _ _ _ _ HBx.out.box 0 _ rfl
      have k1 := zcell _ _ _ _ HBx.out.box 1 _ rfl
      have k2 := zcell _ _ _ _ HBx.out.box 2 _ rfl
      have k3 := zcell _ _ _ _ HBx.out.box 3 _ rfl
      go_cut [12, 13] (fun s12 s13 wx => s12 = .string (lt1 (DK.pk xf 5)) ∧ s13 = .string (lt1 (DK.pk xt 5)) ∧ Below W1.heap.size W1 wx)
      case first =>
        have HP : Hid (∀ (a : Int) (W : World), Calls Try.prog 27 #[.int .i64 a, .int .i64 5] W fun e w' => e = .returned (.int .i64 (DK.pk a 5)) ∧ w' = W) := fun a W => pk_any a 5 W (by omega) (by omega)
        have hkf := DK.pk_lt xf (n := 5) (by omega)
        have hkt := DK.pk_lt xt (n := 5) (by omega)
        have hcvf : ∀ (W : World) (b : Nat), W.cell? ⟨b, 0, none⟩ = some (.int .u8 (97 + (DK.pk xf 5 : Int))) → (convert 60 9 (.slice (some ⟨b, 0, none⟩) 1 1)).run Try.prog W = .ok (.string (lt1 (DK.pk xf 5))) W := fun W b h => str1 b (DK.pk xf 5) W (by omega) h
        have hcvt : ∀ (W : World) (b : Nat), W.cell? ⟨b, 0, none⟩ = some (.int .u8 (97 + (DK.pk xt 5 : Int))) → (convert 60 9 (.slice (some ⟨b, 0, none⟩) 1 1)).run Try.prog W = .ok (.string (lt1 (DK.pk xt 5))) W := fun W b h => str1 b (DK.pk xt 5) W (by omega) h
        have hwf : IntKind.i64.wrap (97 + (DK.pk xf 5 : Int)) = 97 + (DK.pk xf 5 : Int) := by rw [IntKind.wrap_i64]; omega
        have hwt : IntKind.i64.wrap (97 + (DK.pk xt 5 : Int)) = 97 + (DK.pk xt 5 : Int) := by rw [IntKind.wrap_i64]; omega
        have hmf : IntKind.u8.wrap (97 + (DK.pk xf 5 : Int)) = 97 + (DK.pk xf 5 : Int) := by rw [IntKind.wrap_u8]; omega
        have hmt : IntKind.u8.wrap (97 + (DK.pk xt 5 : Int)) = 97 + (DK.pk xt 5 : Int) := by rw [IntKind.wrap_u8]; omega
        have hbl := heap_lt HBx.out.box
        have q1 : ∀ o, (W1.alloc o).cell? ⟨bx, 1, none⟩ = some (.int .i64 xf) := fun o => zcell _ _ _ _ ((Below.heap_alloc W1 o bx hbl).trans HBx.out.box) 1 _ rfl
        have q2 : ∀ o, (W1.alloc o).cell? ⟨bx, 2, none⟩ = some (.int .i64 xt) := fun o => zcell _ _ _ _ ((Below.heap_alloc W1 o bx hbl).trans HBx.out.box) 2 _ rfl
        clear HBx HKp HSf HF hbl
        go_region_with (go_at_call 27; refine (HP.out _ _).mono ?_; rintro en wq ⟨rfl, rfl⟩)
        all_goals
          go_wp2_with fail
          go_meet
          case rel => exact ⟨rfl, rfl, below_drewN (((Below.refl _ _).alloc (Nat.le_refl _) _).alloc (by simp) _) 1⟩
      case rest =>
        obtain ⟨rfl, rfl, hbc⟩ := hcut
        have HBc := hid (HBx.out.below hbc)
        have hkf := DK.pk_lt xf (n := 5) (by omega)
        have hkt := DK.pk_lt xt (n := 5) (by omega)
        generalize DK.pk xf 5 = kf at *
        generalize DK.pk xt 5 = kt at *
        clear hbc HBx HKp k0 k1 k2 k3 hc0 hc1' hc2' hc3
        have k0 := zcell _ _ _ _ HBc.out.box 0 _ rfl
        have k3 := zcell _ _ _ _ HBc.out.box 3 _ rfl
        obtain ⟨Bp, hBp⟩ : ∃ Bp, Bp = decide (p ≠ 0) := ⟨_, rfl⟩
        have HBp := hid hBp
        have HOn : Hid (Calls Try.prog 28 #[.pointer (some ⟨w1.heap.size, 0, none⟩)] wc fun en w' => en = .returned (.bool Bp) ∧ w' = wc) := by
          show Calls _ _ _ _ _
          rw [hBp]
          obtain ⟨mo, fp, fv, e, l, hd⟩ := HBc.out.kp.dk
          exact on_any hd
        clear hBp
        go_wp2_with fail
        refine HOn.out.mono ?_
        rintro en wq ⟨rfl, rfl⟩
        clear HOn
        go_upto_block 2 with fail
        go_cut [15] (fun s15 wx => KeepC w w1.heap.size w2.heap.size (w2.heap.size + 1) (k + 1) bx (.cells #[.int .i64 xa, .int .i64 xf, .int .i64 xt, .int .i64 xn] 58) xa Bp s15 wx)
        case first =>
          have HF2 : Hid (DK.Fine 100000000 D) := HF.out.mono (by omega)
          have HOk : Hid (∀ c : Int, (p ≠ 0) → Bp = true) := fun _ h => by rw [HBp.out]; exact decide_eq_true h
          by_cases hx0 : xa = 0
          · subst hx0
            have HPk := hid (pk_any xn 9 wq (by omega) (by omega))
            have hkc := DK.pk_lt xn (n := 9) (by omega)
            go_wp2_with fail
            refine HPk.out.mono ?_
            rintro en wp ⟨rfl, rfl⟩
            clear HPk
            have HRp : Hid (∀ W, Calls Try.prog 30 #[.string (lt1 kt), .int .i64 (DK.pk xn 9)] W fun e w' => e = .returned (.string (rp kt (DK.pk xn 9))) ∧ Below W.heap.size W w') := fun W => Try.strings_Repeat (lt1 kt) (DK.pk xn 9) W (by omega) (by rw [lt1_size]; omega)
            have hrs : (rp kt (DK.pk xn 9)).size ≤ 8 := by rw [rp_size]; omega
            generalize hS : rp kt (DK.pk xn 9) = S at *
            clear hS
            go_wp2_with fail
            refine (HRp.out _).mono ?_
            rintro en w5 ⟨rfl, hb5⟩
            have HB5 := hid (HBc.out.below hb5)
            clear hb5
            obtain ⟨mo, fp, fv, e, l, hd⟩ := HB5.out.kp.dk
            have HAp := hid (append_any hd (lt1 kf) S (by rw [lt1_size]; unfold maxLen; omega) (by omega) HF2.out (by omega))
            clear hd
            go_wp2_with fail
            refine HAp.out.mono ?_
            rintro en w6 ⟨rfl, hend⟩
            obtain ⟨X6, hB6⟩ := HB5.out.left hend
            have HB6 := hid hB6
            clear hB6 hend HAp HB5
            by_cases hcode : DK.code 0 D p (lt1 kf) S = 0
            · have e0 : er (DK.code 0 D p (lt1 kf) S) = .nilIface := by rw [hcode]; rfl
              rw [e0]
              have eD : DK.aftD 0 D p (lt1 kf) S = DK.put D (lt1 kf) (DK.gr D (lt1 kf) S) := by unfold DK.aftD; rw [if_pos hcode]; rfl
              have hp0 : p ≠ 0 := (DK.code_zero hcode).2.2.2
              have hsz0 : ((D (lt1 kf)).getD DK.new).b.size ≤ 100000000 := (DK.getD_fine HF2.out (lt1 kf)).1
              have hlk : ∀ W : World, W.heap[w2.heap.size + 1]? = w6.heap[w2.heap.size + 1]? → (Instr.lookup 56 (.map (some (w2.heap.size + 1))) (.string (lt1 kf)) false).run Try.prog W = .ok (.string ((D (lt1 kf)).getD DK.new).b) W := fun W hW =>
                MapF.look (HB6.out.kp.nw.block hW) Try.underlying9 Try.underlying56 zeroStr (by rw [lt1_size]; unfold maxLen; omega) (nF_get D (lt1 kf))
              have hlkd := hlk w6.drew rfl
              have HLk := hid hlk
              have HP9 : Hid (∀ W : World, Calls Try.prog 27 #[.int .i64 xn, .int .i64 9] W fun e w' => e = .returned (.int .i64 (DK.pk xn 9)) ∧ w' = W) := fun W => pk_any xn 9 W (by omega) (by omega)
              have n3 : w6.cell? ⟨bx, 3, none⟩ = some (.int .i64 xn) := zcell _ _ _ _ HB6.out.box 3 _ rfl
              have HBD : Hid (KeepB w w1.heap.size w2.heap.size (w2.heap.size + 1) (k + 1) (2 * k) X6 (DK.put D (lt1 kf) (DK.gr D (lt1 kf) S)) (DK.aftP 0 D p (lt1 kf) S) fs (nF D) bx (.cells #[.int .i64 0, .int .i64 xf, .int .i64 xt, .int .i64 xn] 58) w6.drew) := by
                show KeepB _ _ _ _ _ _ _ _ _ _ _ _ _ _
                rw [← eD]
                exact HB6.out.below ⟨rfl, rfl, rfl, Nat.le_refl _, fun _ _ => rfl⟩
              have hgb : ((D (lt1 kf)).getD DK.new).b ++ S = (DK.gr D (lt1 kf) S).b := rfl
              have HGb := hid hgb
              clear hlk hgb
              generalize hb0 : ((D (lt1 kf)).getD DK.new).b = b0 at *
              have hcat : ¬ 9223372036854775807 < b0.size + S.size := by omega
              clear hb0
              go_upto_region 19 with fail
              go_region_with (first
                | (go_at_call 27; refine (HP9.out _).mono ?_; rintro en wq2 ⟨rfl, rfl⟩)
                | (go_at_call 30; refine (HRp.out _).mono ?_; rintro en w7 ⟨rfl, hb7⟩; have HB7 := hid (HBD.out.below hb7); have hlk7 := HLk.out w7 (hb7.block _ HBD.out.kp.nw.lt); obtain ⟨w8, hrun8, hM8, hg8⟩ := MapF.store HB7.out.kp.nw Try.underlying9 Try.underlying56 (by unfold maxLen; omega) (show (lt1 kf).size ≤ maxLen by rw [lt1_size]; unfold maxLen; omega) (.string (b0 ++ S)); have HM8 := hid hM8; have HG8 := hid hg8; clear hM8 hg8 hb7))
              all_goals
                have HQ : Hid (KeepC w w1.heap.size w2.heap.size (w2.heap.size + 1) (k + 1) bx (.cells #[.int .i64 0, .int .i64 xf, .int .i64 xt, .int .i64 xn] 58) 0 Bp .nilIface w8) := by
                  have hb := HB7.out.noteN HG8.out HM8.out (Nat.le_succ _)
                  rw [HGb.out, ← nF_put] at hb
                  refine ⟨⟨_, _, _, _, hb.mono (Nat.le_refl _) (by omega), HSf.out.grow _ _, ?_, (DK.aftP_range hp1 hp2).1, (DK.aftP_range hp1 hp2).2⟩, .inl ⟨rfl, .inl (HOk.out 0 hp0)⟩⟩
                  rw [← eD]
                  exact (DK.aft_fine (a := 0) (p := p) (n := lt1 kf) (s := S) HF.out).mono (by omega)
                clear HB7 HM8 HG8 HBD
                go_wp2_with fail
                go_meet
                case rel => exact HQ.out
            · have e0 : er (DK.code 0 D p (lt1 kf) S) = .iface 92 (.int .i64 (DK.code 0 D p (lt1 kf) S)) := by unfold er; rw [if_neg hcode]
              rw [e0]
              have eD : DK.aftD 0 D p (lt1 kf) S = D := by unfold DK.aftD; rw [if_neg hcode]
              have eP : DK.aftP 0 D p (lt1 kf) S = p := by unfold DK.aftP; rw [if_neg hcode]
              have HQ : Hid (KeepC w w1.heap.size w2.heap.size (w2.heap.size + 1) (k + 1) bx (.cells #[.int .i64 0, .int .i64 xf, .int .i64 xt, .int .i64 xn] 58) 0 Bp (.iface 92 (.int .i64 (DK.code 0 D p (lt1 kf) S))) w6) := by
                have hb := HB6.out
                rw [eD, eP] at hb
                exact ⟨⟨_, _, _, _, hb.mono (Nat.le_refl _) (by omega), HSf.out, HF.out.mono (by omega), hp1, hp2⟩, .inr ⟨_, rfl⟩⟩
              generalize DK.code 0 D p (lt1 kf) S = cc at *
              clear HB6 HBc
              go_wp2_with fail
              go_meet
              case rel => exact HQ.out
          by_cases hx1 : xa = 1
          · subst hx1
            obtain ⟨mo, fp, fv, e, l, hd⟩ := HBc.out.kp.dk
            have HAp := hid (sync_any hd (lt1 kf) (by rw [lt1_size]; unfold maxLen; omega))
            clear hd
            go_wp2_with fail
            refine HAp.out.mono ?_
            rintro en w6 ⟨rfl, hend⟩
            obtain ⟨X6, hB6⟩ := HBc.out.left hend
            have HB6 := hid hB6
            clear hB6 hend HAp
            by_cases hcode : DK.code 1 D p (lt1 kf) ByteArray.empty = 0
            · have e0 : er (DK.code 1 D p (lt1 kf) ByteArray.empty) = .nilIface := by rw [hcode]; rfl
              rw [e0]
              have hp0 : p ≠ 0 := (DK.code_zero hcode).2.2.2
              obtain ⟨f, hf⟩ : ∃ f, D (lt1 kf) = some f := by
                cases h0 : D (lt1 kf) with
                | none => exact absurd h0 ((DK.code_zero hcode).2.2.1 (by omega))
                | some f => exact ⟨f, rfl⟩
              have eD : DK.aftD 1 D p (lt1 kf) ByteArray.empty = DK.put D (lt1 kf) ⟨f.b, f.b.size, true⟩ := by
                unfold DK.aftD
                rw [if_pos hcode]
                unfold DK.next
                rw [hf]
                rfl
              have HFn : Hid (DK.Fine (10 * (k + 1)) (DK.put D (lt1 kf) ⟨f.b, f.b.size, true⟩)) := by
                show DK.Fine _ _
                rw [← eD]
                exact (DK.aft_fine (a := 1) (p := p) (n := lt1 kf) (s := ByteArray.empty) HF.out).mono (by first | (rw [DK.empty_size]; omega) | (rw [lt1_size]; omega))
              have hlf : (lt1 kf).size ≤ maxLen := by rw [lt1_size]; unfold maxLen; omega
              have hlt1 : (lt1 kt).size ≤ maxLen := by rw [lt1_size]; unfold maxLen; omega
              have hb6 := HB6.out
              rw [eD] at hb6
              have HBk := hid hb6
              clear hb6 HB6 HBc
              have HFf := hid hf
              have hlk : (Instr.lookup 56 (.map (some (w2.heap.size + 1))) (.string (lt1 kf)) false).run Try.prog w6 = .ok (.string f.b) w6 :=
                MapF.look HBk.out.kp.nw Try.underlying9 Try.underlying56 zeroStr hlf (by unfold nF; rw [hf]; rfl)
              obtain ⟨w8, hrun8, hM8, hg8⟩ := MapF.store HBk.out.kp.sf Try.underlying9 Try.underlying55 (by unfold maxLen; omega) hlf (.int .i64 f.b.size)
              have HQ : Hid (KeepC w w1.heap.size w2.heap.size (w2.heap.size + 1) (k + 1) bx (.cells #[.int .i64 1, .int .i64 xf, .int .i64 xt, .int .i64 xn] 58) 1 Bp .nilIface w8) := by
                have hb := HBk.out.noteS hg8 hM8 (Nat.le_succ _)
                have en : nF (DK.put D (lt1 kf) ⟨f.b, f.b.size, true⟩) = nF D := by
                  funext m
                  unfold nF DK.put
                  by_cases h : m = lt1 kf
                  · rw [if_pos h, h, hf]; rfl
                  · rw [if_neg h]
                rw [← en] at hb
                exact ⟨⟨_, _, _, _, hb.mono (Nat.le_refl _) (by omega), HSf.out.put (lt1 kf) ⟨f.b, f.b.size, true⟩, HFn.out, (DK.aftP_range hp1 hp2).1, (DK.aftP_range hp1 hp2).2⟩, .inl ⟨rfl, .inl (HOk.out 0 hp0)⟩⟩
              clear hM8 hg8 HBk hf
              go_wp2_with fail
              go_meet
              case rel => exact HQ.out
            · have e0 : er (DK.code 1 D p (lt1 kf) ByteArray.empty) = .iface 92 (.int .i64 (DK.code 1 D p (lt1 kf) ByteArray.empty)) := by unfold er; rw [if_neg hcode]
              rw [e0]
              have eD : DK.aftD 1 D p (lt1 kf) ByteArray.empty = D := by unfold DK.aftD; rw [if_neg hcode]
              have eP : DK.aftP 1 D p (lt1 kf) ByteArray.empty = p := by unfold DK.aftP; rw [if_neg hcode]
              have HQ : Hid (KeepC w w1.heap.size w2.heap.size (w2.heap.size + 1) (k + 1) bx (.cells #[.int .i64 1, .int .i64 xf, .int .i64 xt, .int .i64 xn] 58) 1 Bp (.iface 92 (.int .i64 (DK.code 1 D p (lt1 kf) ByteArray.empty))) w6) := by
                have hb := HB6.out
                rw [eD, eP] at hb
                exact ⟨⟨_, _, _, _, hb.mono (Nat.le_refl _) (by omega), HSf.out, HF.out.mono (by omega), hp1, hp2⟩, .inr ⟨_, rfl⟩⟩
              generalize (DK.code 1 D p (lt1 kf) ByteArray.empty) = cc at *
              clear HB6 HBc
              go_wp2_with fail
              go_meet
              case rel => exact HQ.out
          by_cases hx2 : xa = 2
          · subst hx2
            obtain ⟨mo, fp, fv, e, l, hd⟩ := HBc.out.kp.dk
            have HAp := hid (move_any hd (lt1 kf) (lt1 kt) (by rw [lt1_size]; unfold maxLen; omega) (by rw [lt1_size]; unfold maxLen; omega) (by omega))
            clear hd
            go_wp2_with fail
            refine HAp.out.mono ?_
            rintro en w6 ⟨rfl, hend⟩
            obtain ⟨X6, hB6⟩ := HBc.out.left hend
            have HB6 := hid hB6
            clear hB6 hend HAp
            by_cases hcode : DK.code 2 D p (lt1 kf) (lt1 kt) = 0
            · have e0 : er (DK.code 2 D p (lt1 kf) (lt1 kt)) = .nilIface := by rw [hcode]; rfl
              rw [e0]
              have hp0 : p ≠ 0 := (DK.code_zero hcode).2.2.2
              obtain ⟨f, hf⟩ : ∃ f, D (lt1 kf) = some f := by
                cases h0 : D (lt1 kf) with
                | none => exact absurd h0 ((DK.code_zero hcode).2.2.1 (by omega))
                | some f => exact ⟨f, rfl⟩
              have eD : DK.aftD 2 D p (lt1 kf) (lt1 kt) = DK.put (DK.del D (lt1 kf)) (lt1 kt) f := by
                unfold DK.aftD
                rw [if_pos hcode]
                unfold DK.next
                rw [hf]
                rfl
              have HFn : Hid (DK.Fine (10 * (k + 1)) (DK.put (DK.del D (lt1 kf)) (lt1 kt) f)) := by
                show DK.Fine _ _
                rw [← eD]
                exact (DK.aft_fine (a := 2) (p := p) (n := lt1 kf) (s := (lt1 kt)) HF.out).mono (by first | (rw [DK.empty_size]; omega) | (rw [lt1_size]; omega))
              have hlf : (lt1 kf).size ≤ maxLen := by rw [lt1_size]; unfold maxLen; omega
              have hlt1 : (lt1 kt).size ≤ maxLen := by rw [lt1_size]; unfold maxLen; omega
              have hb6 := HB6.out
              rw [eD] at hb6
              have HBk := hid hb6
              clear hb6 HB6 HBc
              have HFf := hid hf
              have hlk : ∀ n, (Instr.lookup 56 (.map (some (w2.heap.size + 1))) (.string (lt1 kf)) false).run Try.prog (w6.drewN n) = .ok (.string f.b) (w6.drewN n) := fun n =>
                MapF.look (w := w6.drewN n) (HBk.out.kp.nw.block rfl) Try.underlying9 Try.underlying56 zeroStr hlf (by unfold nF; rw [hf]; rfl)
              have hls : ∀ n, (Instr.lookup 55 (.map (some w2.heap.size)) (.string (lt1 kf)) false).run Try.prog (w6.drewN n) = .ok (.int .i64 f.s) (w6.drewN n) := fun n =>
                MapF.look (w := w6.drewN n) (HBk.out.kp.sf.block rfl) Try.underlying9 Try.underlying55 zeroInt hlf ((HSf.out (lt1 kf)).2 f hf)
              clear hf
              go_upto_region 27 with fail
              go_quiet (fail)
              have HBq : Hid (KeepB w w1.heap.size w2.heap.size (w2.heap.size + 1) (k + 1) (2 * k) X6 (DK.put (DK.del D (lt1 kf)) (lt1 kt) f) (DK.aftP 2 D p (lt1 kf) (lt1 kt)) fs (nF D) bx (.cells #[.int .i64 2, .int .i64 xf, .int .i64 xt, .int .i64 xn] 58) (w6.drewN nq)) := HBk.out.below ⟨rfl, rfl, rfl, Nat.le_refl _, fun _ _ => rfl⟩
              clear hlk hls HBk
              generalize w6.drewN nq = W6 at *
              obtain ⟨w7, hrun7, hM7, hg7, _⟩ := MapF.drop HBq.out.kp.nw Try.underlying9 Try.underlying56 hlf 0
              have hd7 : ∀ ty, (Builtin.delete_ #[56, 9] ty #[.map (some (w2.heap.size + 1)), .string (lt1 kf)]).run Try.prog W6 = .ok (.tuple #[]) w7 := fun ty => hrun7
              have HB7 := hid (HBq.out.noteN hg7 hM7 (Nat.le_refl _))
              obtain ⟨w8, hrun8, hM8, hg8, _⟩ := MapF.drop HB7.out.kp.sf Try.underlying9 Try.underlying55 hlf 0
              have hd8 : ∀ ty, (Builtin.delete_ #[55, 9] ty #[.map (some w2.heap.size), .string (lt1 kf)]).run Try.prog w7 = .ok (.tuple #[]) w8 := fun ty => hrun8
              have HB8 := hid (HB7.out.noteS hg8 hM8 (Nat.le_refl _))
              obtain ⟨w9, hrun9, hM9, hg9⟩ := MapF.store HB8.out.kp.nw Try.underlying9 Try.underlying56 (by unfold maxLen; omega) hlt1 (.string f.b)
              have HB9 := hid (HB8.out.noteN hg9 hM9 (Nat.le_succ _))
              obtain ⟨w10, hrun10, hM10, hg10⟩ := MapF.store HB9.out.kp.sf Try.underlying9 Try.underlying55 (by unfold maxLen; omega) hlt1 (.int .i64 f.s)
              have HQ : Hid (KeepC w w1.heap.size w2.heap.size (w2.heap.size + 1) (k + 1) bx (.cells #[.int .i64 2, .int .i64 xf, .int .i64 xt, .int .i64 xn] 58) 2 Bp .nilIface w10) := by
                have hb := HB9.out.noteS hg10 hM10 (Nat.le_succ _)
                rw [← nF_del, ← nF_put] at hb
                exact ⟨⟨_, _, _, _, hb.mono (Nat.le_refl _) (by omega), (HSf.out.del (lt1 kf)).put (lt1 kt) f, HFn.out, (DK.aftP_range hp1 hp2).1, (DK.aftP_range hp1 hp2).2⟩, .inl ⟨rfl, .inl (HOk.out 0 hp0)⟩⟩
              clear hM7 hg7 hM8 hg8 hM9 hg9 hM10 hg10 HB7 HB8 HB9 HBq hrun7 hrun8
              go_wp2_with fail
              go_meet
              case rel => exact HQ.out
            · have e0 : er (DK.code 2 D p (lt1 kf) (lt1 kt)) = .iface 92 (.int .i64 (DK.code 2 D p (lt1 kf) (lt1 kt))) := by unfold er; rw [if_neg hcode]
              rw [e0]
              have eD : DK.aftD 2 D p (lt1 kf) (lt1 kt) = D := by unfold DK.aftD; rw [if_neg hcode]
              have eP : DK.aftP 2 D p (lt1 kf) (lt1 kt) = p := by unfold DK.aftP; rw [if_neg hcode]
              have HQ : Hid (KeepC w w1.heap.size w2.heap.size (w2.heap.size + 1) (k + 1) bx (.cells #[.int .i64 2, .int .i64 xf, .int .i64 xt, .int .i64 xn] 58) 2 Bp (.iface 92 (.int .i64 (DK.code 2 D p (lt1 kf) (lt1 kt)))) w6) := by
                have hb := HB6.out
                rw [eD, eP] at hb
                exact ⟨⟨_, _, _, _, hb.mono (Nat.le_refl _) (by omega), HSf.out, HF.out.mono (by omega), hp1, hp2⟩, .inr ⟨_, rfl⟩⟩
              generalize (DK.code 2 D p (lt1 kf) (lt1 kt)) = cc at *
              clear HB6 HBc
              go_wp2_with fail
              go_meet
              case rel => exact HQ.out
          by_cases hx3 : xa = 3
          · subst hx3
            obtain ⟨mo, fp, fv, e, l, hd⟩ := HBc.out.kp.dk
            have HAp := hid (remove_any hd (lt1 kf) (by rw [lt1_size]; unfold maxLen; omega))
            clear hd
            go_wp2_with fail
            refine HAp.out.mono ?_
            rintro en w6 ⟨rfl, hend⟩
            obtain ⟨X6, hB6⟩ := HBc.out.left hend
            have HB6 := hid hB6
            clear hB6 hend HAp
            by_cases hcode : DK.code 3 D p (lt1 kf) ByteArray.empty = 0
            · have e0 : er (DK.code 3 D p (lt1 kf) ByteArray.empty) = .nilIface := by rw [hcode]; rfl
              rw [e0]
              have hp0 : p ≠ 0 := (DK.code_zero hcode).2.2.2
              obtain ⟨f, hf⟩ : ∃ f, D (lt1 kf) = some f := by
                cases h0 : D (lt1 kf) with
                | none => exact absurd h0 ((DK.code_zero hcode).2.2.1 (by omega))
                | some f => exact ⟨f, rfl⟩
              have eD : DK.aftD 3 D p (lt1 kf) ByteArray.empty = DK.del D (lt1 kf) := by
                unfold DK.aftD
                rw [if_pos hcode]
                unfold DK.next
                rfl
              have HFn : Hid (DK.Fine (10 * (k + 1)) (DK.del D (lt1 kf))) := by
                show DK.Fine _ _
                rw [← eD]
                exact (DK.aft_fine (a := 3) (p := p) (n := lt1 kf) (s := ByteArray.empty) HF.out).mono (by first | (rw [DK.empty_size]; omega) | (rw [lt1_size]; omega))
              have hlf : (lt1 kf).size ≤ maxLen := by rw [lt1_size]; unfold maxLen; omega
              have hlt1 : (lt1 kt).size ≤ maxLen := by rw [lt1_size]; unfold maxLen; omega
              have hb6 := HB6.out
              rw [eD] at hb6
              have HBk := hid hb6
              clear hb6 HB6 HBc
              have HFf := hid hf
              obtain ⟨w7, hrun7, hM7, hg7, _⟩ := MapF.drop HBk.out.kp.nw Try.underlying9 Try.underlying56 hlf 0
              have hd7 : ∀ ty, (Builtin.delete_ #[56, 9] ty #[.map (some (w2.heap.size + 1)), .string (lt1 kf)]).run Try.prog w6 = .ok (.tuple #[]) w7 := fun ty => hrun7
              have HB7 := hid (HBk.out.noteN hg7 hM7 (Nat.le_refl _))
              obtain ⟨w8, hrun8, hM8, hg8, _⟩ := MapF.drop HB7.out.kp.sf Try.underlying9 Try.underlying55 hlf 0
              have hd8 : ∀ ty, (Builtin.delete_ #[55, 9] ty #[.map (some w2.heap.size), .string (lt1 kf)]).run Try.prog w7 = .ok (.tuple #[]) w8 := fun ty => hrun8
              have HQ : Hid (KeepC w w1.heap.size w2.heap.size (w2.heap.size + 1) (k + 1) bx (.cells #[.int .i64 3, .int .i64 xf, .int .i64 xt, .int .i64 xn] 58) 3 Bp .nilIface w8) := by
                have hb := HB7.out.noteS hg8 hM8 (Nat.le_refl _)
                rw [← nF_del] at hb
                exact ⟨⟨_, _, _, _, hb.mono (Nat.le_refl _) (by omega), HSf.out.del (lt1 kf), HFn.out, (DK.aftP_range hp1 hp2).1, (DK.aftP_range hp1 hp2).2⟩, .inl ⟨rfl, .inl (HOk.out 0 hp0)⟩⟩
              clear hM7 hg7 hM8 hg8 HB7 HBk hf hrun7 hrun8
              go_wp2_with fail
              go_meet
              case rel => exact HQ.out
            · have e0 : er (DK.code 3 D p (lt1 kf) ByteArray.empty) = .iface 92 (.int .i64 (DK.code 3 D p (lt1 kf) ByteArray.empty)) := by unfold er; rw [if_neg hcode]
              rw [e0]
              have eD : DK.aftD 3 D p (lt1 kf) ByteArray.empty = D := by unfold DK.aftD; rw [if_neg hcode]
              have eP : DK.aftP 3 D p (lt1 kf) ByteArray.empty = p := by unfold DK.aftP; rw [if_neg hcode]
              have HQ : Hid (KeepC w w1.heap.size w2.heap.size (w2.heap.size + 1) (k + 1) bx (.cells #[.int .i64 3, .int .i64 xf, .int .i64 xt, .int .i64 xn] 58) 3 Bp (.iface 92 (.int .i64 (DK.code 3 D p (lt1 kf) ByteArray.empty))) w6) := by
                have hb := HB6.out
                rw [eD, eP] at hb
                exact ⟨⟨_, _, _, _, hb.mono (Nat.le_refl _) (by omega), HSf.out, HF.out.mono (by omega), hp1, hp2⟩, .inr ⟨_, rfl⟩⟩
              generalize (DK.code 3 D p (lt1 kf) ByteArray.empty) = cc at *
              clear HB6 HBc
              go_wp2_with fail
              go_meet
              case rel => exact HQ.out
          have HQ : Hid (KeepC w w1.heap.size w2.heap.size (w2.heap.size + 1) (k + 1) bx (.cells #[.int .i64 xa, .int .i64 xf, .int .i64 xt, .int .i64 xn] 58) xa Bp .nilIface wq) := ⟨⟨_, _, _, _, HBc.out.mono (Nat.le_succ _) (by omega), HSf.out, HF.out.mono (by omega), hp1, hp2⟩, .inl ⟨rfl, .inr (by omega)⟩⟩
          go_wp2_with fail
          go_meet
          case rel => exact HQ.out
        case rest =>
          -- the rest
          obtain ⟨⟨X9, D9, p9, fs9, hB9, hS9, hF9, hp9, hp9'⟩, herr⟩ := hcut
          have HKR : Hid (KeepR w w1.heap.size w2.heap.size (w2.heap.size + 1) (k + 1) wc) := ⟨_, _, _, _, hB9.kp, hS9, hF9, hp9, hp9'⟩
          clear k0 k3
          have k0 := zcell _ _ _ _ hB9.box 0 _ rfl
          clear hB9 hS9 hF9 hp9 hp9' HBc HBp
          rcases herr with ⟨rfl, hwh⟩ | ⟨c, rfl⟩
          · cases Bp with
            | true =>
              go_wp2_with fail
              go_roundw
              case rel => exact ⟨k + 1, by omega, by go_num, HKR.out⟩
              case measure => simp [intOf]; omega
            | false =>
              have hwh' : xa < 0 ∨ 3 < xa := by
                rcases hwh with h | h
                · cases h
                · exact h
              clear hwh
              by_cases hneg : xa < 0
              · have hg1 : ¬ (0 ≤ xa) := by omega
                go_wp2_with fail
                go_roundw
                case rel => exact ⟨k + 1, by omega, by go_num, HKR.out⟩
                case measure => simp [intOf]; omega
              · have hg1 : 0 ≤ xa := by omega
                have hg2 : ¬ (xa ≤ 3) := by omega
                go_wp2_with fail
                go_roundw
                case rel => exact ⟨k + 1, by omega, by go_num, HKR.out⟩
                case measure => simp [intOf]; omega
          · go_wp2_with fail
            go_roundw
            case rel => exact ⟨k + 1, by omega, by go_num, HKR.out⟩
            case measure => simp [intOf]; omega
          -- the rest ends
    · have he : k = L.length := by omega
      subst he
      clear hlt hk
      obtain ⟨mo, fp, fv, e, l, hd⟩ := HKp.out.dk
      have HSt := hid (start_any hd keeps hk1 hk2 (HF.out.mono (by omega)))
      clear hd
      go_wp2_with fail
      refine HSt.out.mono ?_
      rintro en w5 ⟨rfl, hend⟩
      obtain ⟨X5, hK5⟩ := HKp.out.left hend
      have HK5 := hid hK5
      clear hK5 hend HSt HKp
      obtain ⟨mo5, fp5, fv5, e5, l5, hd5⟩ := HK5.out.dk
      have HLs := hid (list_any hd5 (by omega))
      clear hd5
      go_wp2_with fail
      refine HLs.out.mono ?_
      rintro en w6 ⟨v6, T, rfl, hT, htl, ho6, hb6⟩
      obtain ⟨ao6, cap6, rfl, hr6⟩ := TRow.of_own ho6
      have HT := hid hT
      have HK6 := hid (HK5.out.below hb6)
      have HR6 := hid hr6
      clear hT ho6 hb6 hr6 HLs HK5
      go_wp2_with fail
      go_loopw [19] (fun t19 W => ∃ i : Nat, i ≤ T.length ∧ t19 = .int .i64 i ∧ Below w6.heap.size w6 W) (fun t19 _ => T.length - (intOf t19).toNat)
      case atStart => exact ⟨0, Nat.zero_le _, rfl, Below.refl _ _⟩
      case round =>
        obtain ⟨i, hi, rfl, hbel⟩ := hrel
        have HBl := hid hbel
        have HKi := hid (HK6.out.below hbel)
        clear hbel
        by_cases hli : i < T.length
        · obtain ⟨b5, off5, hao5, hcn, hb5s⟩ := HR6.out i hli
          subst hao5
          have hcn2 := (HBl.out.cell (p := ⟨b5, off5 + i, none⟩) hb5s).trans hcn
          have hmem : T.getD i [] ∈ T := by
            rw [List.getD_eq_getElem?_getD, List.getElem?_eq_getElem hli]
            exact List.getElem_mem hli
          have hDn : DK.start D keeps (⟨(T.getD i []).toArray⟩ : ByteArray) ≠ none := (HT.out.mem _).1 hmem
          unfold encStr at hcn2
          clear hmem hcn
          generalize (⟨(T.getD i []).toArray⟩ : ByteArray) = nm at *
          obtain ⟨f, hf, hst⟩ : ∃ f, D nm = some f ∧ DK.start D keeps nm = some (DK.keepB f keeps.toNat) := by
            cases h0 : D nm with
            | none => exact absurd (DK.start_none h0) hDn
            | some f =>
              rw [DK.start_some h0] at hDn
              by_cases hs : DK.stay f keeps = true
              · exact ⟨f, rfl, by rw [DK.start_some h0, if_pos hs]⟩
              · rw [if_neg hs] at hDn; exact absurd rfl hDn
          obtain ⟨hn1, hfb, hfs, _⟩ := HF.out nm f hf
          have hnz : nm.size ≤ maxLen := by unfold maxLen; omega
          obtain ⟨hpre, hz1, hz2, hz3⟩ := keepB_facts (c := keeps) hfs
          obtain ⟨mo, fp, fv, e, l, hd⟩ := HKi.out.dk
          have HRd := hid (read_any hd nm hnz)
          have hLn : (Instr.lookup 56 (.map (some (w2.heap.size + 1))) (.string nm) true).run Try.prog wr = .ok (.tuple #[.string f.b, .bool true]) wr :=
            MapF.look_ok HKi.out.nw Try.underlying9 Try.underlying56 zeroStr hnz (by unfold nF; rw [hf]; rfl) (by unfold nF; rw [hf]; rfl)
          have hLs : (Instr.lookup 55 (.map (some w2.heap.size)) (.string nm) false).run Try.prog wr = .ok (.int .i64 f.s) wr :=
            MapF.look HKi.out.sf Try.underlying9 Try.underlying55 zeroInt hnz ((HSf.out nm).2 f hf)
          have HSt := hid hst
          have HPr := hid (prefix_any f.b (DK.keepB f keeps.toNat).b wr)
          rw [hpre] at HPr
          clear hd hDn hf hst hpre
          generalize DK.keepB f keeps.toNat = f2 at *
          have hil : 0 ≤ (i : Int) ∧ (i : Int) < (T.length : Int) := by omega
          have hg1 : ¬ ((f2.b.size : Int) < (f.s : Int)) := by omega
          have hws : IntKind.i64.wrap ((f2.b.size : Int) - (f.s : Int)) = (f2.b.size : Int) - (f.s : Int) := by rw [IntKind.wrap_i64]; omega
          have hws' : wrap64 ((f2.b.size : Int) - (f.s : Int)) = (f2.b.size : Int) - (f.s : Int) := by unfold wrap64; omega
          go_wp2_with fail
          refine HRd.out.mono ?_
          rintro en w8 ⟨⟨hn, _⟩ | ⟨f', hf', rfl⟩, rfl⟩
          · rw [HSt.out] at hn; cases hn
          · obtain rfl : f' = f2 := by
              have := HSt.out
              rw [hf'] at this
              exact Option.some.inj this
            clear hf' HRd
            go_wp2_with fail
            refine HPr.out.mono ?_
            rintro en w9 ⟨rfl, rfl⟩
            by_cases hkn : keeps < 0
            · have hg2 : ¬ ((0 : Int) < (f'.b.size : Int) - (f.s : Int)) := by omega
              go_wp2_with fail
              go_roundw
              case rel => exact ⟨i + 1, by omega, by go_num, HBl.out⟩
              case measure => simp [intOf]; omega
            · have hg2 : ¬ (keeps < (f'.b.size : Int) - (f.s : Int)) := by omega
              go_wp2_with fail
              go_roundw
              case rel => exact ⟨i + 1, by omega, by go_num, HBl.out⟩
              case measure => simp [intOf]; omega
        · have hie : i = T.length := by omega
          subst hie
          clear hi hli HK6 HBl
          go_wp2_with (at_range; refine wpList_range_f rfl (.tmp 208) 55 rfl 9 3 Try.underlying9 Try.underlying55 w2.heap.size (2 * L.length) fs rfl HKi.out.sf ?_)
          intro w7 cn hrg hg7 hsz7
          have HRg := hid hrg
          have HK7 := hid (HKi.out.below (W' := w7) ⟨hg7.os, hg7.tape, hg7.output, hg7.size, fun j hj => hg7.block j hj (by simp)⟩)
          have hrl := hrg.lt
          have HD7 : Hid (∃ X7, Dk w7 X7 w1.heap.size L.length (DK.start D keeps) (-1) ∧ ∀ j, X7 j → j ≠ wr.heap.size) := by
            obtain ⟨mo, fp, fv, e, l, hd⟩ := HKi.out.dk
            exact ⟨_, ⟨mo, fp, fv, e, l, hd.narrow.below ⟨hg7.os, hg7.tape, hg7.output, hg7.size, fun j hj => hg7.block j hj (by simp)⟩⟩, fun j hj => Nat.ne_of_lt hj.2⟩
          have hbsl : w2.heap.size < wr.heap.size := HKi.out.sf.lt
          have hbw : w.heap.size ≤ wr.heap.size := HKi.out.bel.size
          clear hrg hg7 hsz7 HKi
          generalize wr.heap.size = r at *
          go_wp2_with fail
          go_loopw [210] (fun _ W => ∃ ks c X7, RngF Try.prog 9 W w2.heap.size r (2 * L.length) fs ks c ∧ Dk W X7 w1.heap.size L.length (DK.start D keeps) (-1) ∧ (∀ j, X7 j → j ≠ r) ∧ Below w.heap.size w W) (fun _ W => W.rangeLeft w2.heap.size r)
          case atStart =>
            obtain ⟨X7, h1, h2⟩ := HD7.out
            exact ⟨[], cn, X7, HRg.out, h1, h2, HK7.out.bel⟩
          case round =>
            obtain ⟨ks, c, X7, hRg, hDk, hX7, hB7⟩ := hrel
            have HR := hid hRg
            have HDk := hid hDk
            have HX7 := hid hX7
            have HB7 := hid hB7
            have HL0 := hid hRg.left
            clear hRg hDk hX7 hB7 HRg HK7 HD7
            go_wp2_with (at_next; refine wpList_next_f rfl (.tmp 209) rfl 9 Try.underlying9 w2.heap.size r (2 * L.length) fs ks c rfl HR.out ?_ ?_)
            · intro _ _
              obtain ⟨mo, fp, fv, e, l, hd⟩ := HDk.out
              have HOn := hid (on_any hd)
              clear hd
              go_wp2_with fail
              refine HOn.out.mono ?_
              rintro en w9 ⟨rfl, rfl⟩
              go_wp2_with fail
              go_ret
              exact ⟨rfl, HB7.out⟩
            · intro s v w8 c8 hs hv hns hrg8 hlt8 hg8 hsz8 hen
              obtain ⟨f, hf⟩ : ∃ f, D s = some f := by
                cases h0 : D s with
                | none => rw [(HSf.out s).1 h0] at hv; cases hv
                | some f => exact ⟨f, rfl⟩
              obtain rfl : v = .int .i64 f.s := by
                have := (HSf.out s).2 f hf
                rw [hv] at this
                exact this
              obtain ⟨_, hfb, hfs, hfk⟩ := HF.out s f hf
              obtain ⟨mo, fp, fv, e, l, hd⟩ := HDk.out
              have hd8 := hd.kept (w' := w8) fun j hj hjl => hg8.block j hjl (fun e2 => HX7.out j hj (Option.some.inj e2))
              have HRd := hid (read_any hd8 s hs)
              have HQ : Hid (∃ ks c X7, RngF Try.prog 9 w8 w2.heap.size r (2 * L.length) fs ks c ∧ Dk w8 X7 w1.heap.size L.length (DK.start D keeps) (-1) ∧ (∀ j, X7 j → j ≠ r) ∧ Below w.heap.size w w8) :=
                ⟨_, _, _, hrg8, ⟨mo, fp, fv, e, l, hd8⟩, HX7.out, HB7.out.grown hg8 HB7.out.size (fun j hj => by cases hj; exact hbw)⟩
              have HL8 := hid hrg8.left
              have HFf := hid hf
              obtain ⟨_, hz1, _, _⟩ := keepB_facts (c := keeps) hfs
              clear hd hd8 hv hns hrg8 hg8 hsz8 hf HR HDk
              go_wp2_with fail
              refine HRd.out.mono ?_
              by_cases h0 : f.s = 0
              · have h0' : (f.s : Int) = 0 := by omega
                rw [h0'] at *
                rintro en w9 ⟨⟨hn, rfl⟩ | ⟨f', hf', rfl⟩, rfl⟩
                all_goals
                  clear HRd
                  go_wp2_with fail
                  go_roundw
                  case rel => exact HQ.out
                  case measure => rw [HL8.out, HL0.out]; exact hlt8
              · have hst : DK.start D keeps s = some (DK.keepB f keeps.toNat) := by
                  rw [DK.start_some HFf.out]
                  have hkk : f.k = true := by
                    cases hk : f.k with
                    | true => rfl
                    | false => exact absurd (hfk hk) h0
                  have : DK.stay f keeps = true := by unfold DK.stay; rw [hkk]; rfl
                  rw [if_pos this]
                have hpos : (0 : Int) < (f.s : Int) := by omega
                rintro en w9 ⟨⟨hn, rfl⟩ | ⟨f', hf', rfl⟩, rfl⟩
                · rw [hst] at hn; cases hn
                · obtain rfl : f' = DK.keepB f keeps.toNat := by
                    rw [hst] at hf'
                    exact (Option.some.inj hf').symm
                  clear hf' hst HRd
                  generalize DK.keepB f keeps.toNat = f2 at *
                  have hg1 : ¬ ((f2.b.size : Int) < (f.s : Int)) := by omega
                  go_wp2_with fail
                  go_roundw
                  case rel => exact HQ.out
                  case measure => rw [HL8.out, HL0.out]; exact hlt8

end Go.Proofs.Ytdmnlmohfaafoac
