/- DiskPlays: it answers true. -/
import Derived.Test.YtdmnlmohfaafoacDoorDkPlay
import Derived.Test.YtdmnlmohfaafoacDoorDkReg
import Derived.Test.YtdmnlmohfaafoacDoorDkMid
import Derived.Deep.RegionWith
import Derived.BigQuiet
import Derived.Deep.CutBlock
import Derived.Deep.CutRange
import Derived.Deep.DeepCutAuto
namespace Go.Proofs.YtdmnlmohfaafoacDoor
open Go.RowKit Go.Maps

/-- What is kept between two acts. -/
def PlayR (w : World) (bd br k : Nat) (W : World) : Prop :=
  ∃ bm X D p, PlayI w bd br bm k k X D D p p W ∧ DK.Fine (200 * k) D ∧ -1 ≤ p ∧ p ≤ 9223372036854775807

/-- .. behind an act, whose box is there. -/
def PlayC (w : World) (bd br k bx : Nat) (o : Obj) (W : World) : Prop :=
  ∃ bm X D p, PlayB w bd br bm k k X D D p p bx o W ∧ DK.Fine (200 * k) D ∧ -1 ≤ p ∧ p ≤ 9223372036854775807

theorem PlayC.plain {w : World} {bd br k bx : Nat} {o : Obj} {W W' : World} (h : PlayC w bd br k bx o W) (hb : Below W.heap.size W W') : PlayR w bd br k W' := by
  obtain ⟨bm, X, D, p, h1, h2⟩ := h
  exact ⟨bm, X, D, p, h1.pl.below hb, h2⟩

theorem PlayC.below {w : World} {bd br k bx : Nat} {o : Obj} {W W' : World} (h : PlayC w bd br k bx o W) (hb : Below W.heap.size W W') : PlayC w bd br k bx o W' := by
  obtain ⟨bm, X, D, p, h1, h2⟩ := h
  exact ⟨bm, X, D, p, h1.below hb, h2⟩

/-- What lies in a block. -/
def BoxAt (bx : Nat) (o : Obj) (W : World) : Prop := W.heap[bx]? = some o

theorem actF1 (b : Nat) (w : World) : (Instr.fieldAt 29 (.pointer (some ⟨b, 0, none⟩)) 1).run Tryd.prog w = .ok (.pointer (some ⟨b, 1, none⟩)) w := by kernel_rfl
theorem actF2 (b : Nat) (w : World) : (Instr.fieldAt 29 (.pointer (some ⟨b, 0, none⟩)) 2).run Tryd.prog w = .ok (.pointer (some ⟨b, 2, none⟩)) w := by kernel_rfl
theorem actF3 (b : Nat) (w : World) : (Instr.fieldAt 29 (.pointer (some ⟨b, 0, none⟩)) 3).run Tryd.prog w = .ok (.pointer (some ⟨b, 3, none⟩)) w := by kernel_rfl

theorem fileS (b : ByteArray) (s : Int) (w : World) : (Instr.field 48 (.agg #[.string b, .int .i64 s]) 0).run Tryd.prog w = .ok (.string b) w := by kernel_rfl

theorem loadS (b k : Nat) (s : ByteArray) (w : World) (h : w.cell? ⟨b, k, none⟩ = some (.string s)) : (Instr.loadAt 9 (.pointer (some ⟨b, k, none⟩))).run Tryd.prog w = .ok (.string s) w := by
  have hs : (Tryd.prog.info? 9).map (·.size) = some 1 := by kernel_rfl
  go_simp

set_option maxRecDepth 100000 in
set_option maxHeartbeats 3200000 in
theorem plays_any (ao : Option Addr) (L : List Ac) (cap : Nat) (w : World) (hA : ARow w ao L) (hE : ErrT w) (hR : ∀ i, i < L.length → -9223372036854775808 ≤ (atA L i).n ∧ (atA L i).n ≤ 9223372036854775807) :
    Calls Tryd.prog 3 #[.slice ao L.length cap] w fun e w' => e = .returned (.bool true) ∧ Below w.heap.size w w' := by
  have HA := hid hA
  have HE := hid hE
  have HR := hid hR
  clear hA hE hR
  by_cases hl : 60 < L.length
  · have hl' : (60 : Int) < (L.length : Int) := by omega
    go_enter Tryd.func3, Tryd.ntmps3
    go_wp2
    go_ret
    exact ⟨rfl, Below.refl _ _⟩
  have hl' : ¬ (60 : Int) < (L.length : Int) := by omega
  have hb0 := heap_alloc_new w (.cells #[.map none, .bool false, .int .i64 0] 25)
  have HD0 : Hid (DkA (w.alloc (.cells #[.map none, .bool false, .int .i64 0] 25)) (fun j => j = w.heap.size) w.heap.size 0 (fun _ => none) (-1) none (fun _ => none) (fun _ => .slice none 0 0) false 0) :=
    { xd := rfl, dsk := hb0, pw := .inr ⟨rfl, rfl⟩, map := fun bm h => (by cases h), nomap := fun _ _ => rfl, files := { no := fun _ => ⟨fun _ => rfl, fun _ => rfl⟩, inj := fun _ _ _ h => (by cases h), body := fun _ _ _ h => (by cases h), sep := fun _ _ _ h => absurd rfl h } }
  have HB0 := hid ((Below.refl w.heap.size w).alloc (Nat.le_refl _) (.cells #[.map none, .bool false, .int .i64 0] 25))
  have HN := hid (rnew_any (w.alloc (.cells #[.map none, .bool false, .int .i64 0] 25)))
  clear hb0
  go_enter Tryd.func3, Tryd.ntmps3
  go_wp2_with fail
  refine HN.out.mono ?_
  rintro e w1 ⟨rfl, hr1, hb1⟩
  have hs1 : (w.alloc (.cells #[.map none, .bool false, .int .i64 0] 25)).heap.size = w.heap.size + 1 := by simp
  have HP : Hid (PlayR w w.heap.size (w.heap.size + 1 + 1) 0 w1) := by
    rw [hs1] at hr1
    refine ⟨w.heap.size + 1, fun j => j = w.heap.size, fun _ => none, -1, ⟨⟨_, _, _, _, _, HD0.out.below hb1⟩, hr1, fun j hj => ⟨by omega, by omega, by omega⟩, ⟨by omega, by omega⟩, HB0.out.trans (hb1.mono HB0.out.size)⟩, DK.Fine.none _, by omega, by omega⟩
  clear hr1 hb1 HN HD0 HB0 hs1
  go_wp2_with fail
  go_loopw [5] (fun t5 W => ∃ k : Nat, k ≤ L.length ∧ t5 = .int .i64 k ∧ PlayR w w.heap.size (w.heap.size + 1 + 1) k W) (fun t5 _ => L.length - (intOf t5).toNat)
  case atStart => exact ⟨0, Nat.zero_le _, rfl, HP.out⟩
  case round =>
    obtain ⟨k, hk, rfl, bm, X, D, p, hPl, hF, hp1, hp2⟩ := hrel
    have HPl := hid hPl
    have HF := hid hF
    clear hPl hF HP
    by_cases hlt : k < L.length
    · obtain ⟨b, off, hao, ha0, ha1, ha2, ha3, hbs⟩ := HA.out k hlt
      subst hao
      have hc0 := (HPl.out.bel.cell (p := ⟨b, off + k * 4, none⟩) hbs).trans ha0
      have hc1 := (HPl.out.bel.cell (p := ⟨b, off + k * 4 + 1, none⟩) hbs).trans ha1
      have hc2 := (HPl.out.bel.cell (p := ⟨b, off + k * 4 + 2, none⟩) hbs).trans ha2
      have hc3 := (HPl.out.bel.cell (p := ⟨b, off + k * 4 + 3, none⟩) hbs).trans ha3
      obtain ⟨hr1, hr2⟩ := HR.out k hlt
      clear ha0 ha1 ha2 ha3
      generalize atA L k = x at *
      obtain ⟨xa, xn, xf, xs⟩ := x
      simp only at hc0 hc1 hc2 hc3 hr1 hr2
      obtain ⟨X1, hBx⟩ : ∃ X1, PlayB w w.heap.size (w.heap.size + 1 + 1) bm k k X1 D D p p wr.heap.size (.cells #[.int .i64 xa, .int .i64 xn, .string xf, .string xs] 29) (wr.alloc (.cells #[.int .i64 xa, .int .i64 xn, .string xf, .string xs] 29)) := ⟨_, PlayB.made HPl.out _⟩
      have HBx := hid hBx
      clear hBx
      by_cases hbig : 100 < xf.size ∨ 200 < xs.size
      · have HQ : Hid (PlayR w w.heap.size (w.heap.size + 1 + 1) (k + 1) (wr.alloc (.cells #[.int .i64 xa, .int .i64 xn, .string xf, .string xs] 29))) :=
          ⟨_, _, _, _, HBx.out.pl.mono (Nat.le_succ _) (Nat.le_succ _), HF.out.mono (by omega), hp1, hp2⟩
        by_cases hb1 : 100 < xf.size
        · have hb1' : (100 : Int) < (xf.size : Int) := by omega
          go_wp2_with fail
          go_roundw
          case rel => exact ⟨k + 1, by omega, by go_num, HQ.out⟩
          case measure => simp [intOf]; omega
        · have hb1' : ¬ (100 : Int) < (xf.size : Int) := by omega
          have hb2' : (200 : Int) < (xs.size : Int) := by omega
          go_wp2_with fail
          go_roundw
          case rel => exact ⟨k + 1, by omega, by go_num, HQ.out⟩
          case measure => simp [intOf]; omega
      · have hb1' : ¬ (100 : Int) < (xf.size : Int) := by omega
        have hb2' : ¬ (200 : Int) < (xs.size : Int) := by omega
        have hxf : xf.size ≤ 100 := by omega
        have hxs : xs.size ≤ 200 := by omega
        clear hbig
        go_upto_block 2 with fail
        generalize hw1 : wr.alloc (.cells #[.int .i64 xa, .int .i64 xn, .string xf, .string xs] 29) = W1 at *
        generalize hbx : wr.heap.size = bx at *
        clear hw1 hbx
        go_cut [] (fun wx => PlayC w w.heap.size (w.heap.size + 1 + 1) (k + 1) bx (.cells #[.int .i64 xa, .int .i64 xn, .string xf, .string xs] 29) wx)
        case first =>
          have k0 := zcell _ _ _ _ HBx.out.box 0 _ rfl
          have k1 := zcell _ _ _ _ HBx.out.box 1 _ rfl
          have k2 := zcell _ _ _ _ HBx.out.box 2 _ rfl
          have k3 := zcell _ _ _ _ HBx.out.box 3 _ rfl
          have HF2 : Hid (DK.Fine 100000000 D) := HF.out.mono (by omega)
          have HEl := hid HE.out.lt
          -- the acts (mkdklaw.py)
          by_cases hx0 : xa = 0
          · subst hx0
            have HBd := hid HBx.out.drew
            have HAp : Hid (Calls Tryd.prog 6 #[.pointer (some ⟨w.heap.size, 0, none⟩), .string xf, .string xs] W1.drew fun en w' => MetEnd 0 W1.drew X1 w.heap.size k D p xf xs en w') := by
              obtain ⟨mo, fp, fv, e, l, hd⟩ := HBd.out.pl.dk
              exact append_any hd xf xs (by unfold maxLen; omega) (by omega) HF2.out (by omega)
            go_upto_region 12 with fail
            refine wp_region_take (BoxAt bx (.cells #[.int .i64 0, .int .i64 xn, .string xf, .string xs] 29)) [0, 1, 2, 3, 5, 6, 7, 8, 9] [4, 10, 11, 12] (by kernel_rfl) (by kernel_rfl) ?_
            simp only [List.filterMap_cons, List.filterMap_nil, List.getElem?_toArray, List.getElem?_cons_zero, List.getElem?_cons_succ]
            refine takes.on (YC.field rfl (by kernel_rfl) (actF2 bx)) (takes.on (YC.load rfl (by kernel_rfl) fun W hW => loadS bx 2 xf W (zcell W bx _ _ hW 2 _ rfl)) (takes.on (YC.field rfl (by kernel_rfl) (actF3 bx)) (takes.on (YC.load rfl (by kernel_rfl) fun W hW => loadS bx 3 xs W (zcell W bx _ _ hW 3 _ rfl)) (takes.on (YC.move (v := .pointer (some ⟨w.heap.size + 1 + 1, 0, none⟩)) rfl (by kernel_rfl)) (takes.on (YC.field rfl (by kernel_rfl) (actF2 bx)) (takes.on (YC.load rfl (by kernel_rfl) fun W hW => loadS bx 2 xf W (zcell W bx _ _ hW 2 _ rfl)) (takes.on (YC.field rfl (by kernel_rfl) (actF3 bx)) (takes.on (YC.load rfl (by kernel_rfl) fun W hW => loadS bx 3 xs W (zcell W bx _ _ hW 3 _ rfl)) ?_))))))))
            refine takes.off (C := BoxAt bx _) HBd.out.box ?_
            go_frame
            go_wp2_with fail
            refine HAp.out.mono ?_
            rintro en w2 ⟨rfl, hend⟩
            obtain ⟨X2, hB2⟩ := HBd.out.left hend
            have HB2 := hid hB2
            clear hB2 hend HAp
            go_wp2_with fail
            refine SeqQ.on (C := BoxAt bx _) HB2.out.box ?_
            go_wp2_with fail
            refine (rchange0_any HB2.out.pl.rf xf xs (by unfold maxLen; omega) HF2.out (by omega) hp2 (by omega)).mono ?_
            rintro en w3 ⟨rfl, hr3, hx3⟩
            have HB3 := hid (HB2.out.both hr3 hx3)
            clear hr3 hx3 HB2
            go_wp2_with fail
            refine SeqQ.on (C := BoxAt bx _) HB3.out.box ?_
            go_wp2_with fail
            refine (bare_er _ _ (HE.out.below HB3.out.pl.bel HEl.out)).mono ?_
            rintro en w4 ⟨rfl, hb4⟩
            have HB4 := hid (HB3.out.below hb4)
            clear hb4 HB3
            go_wp2_with fail
            refine SeqQ.on (C := BoxAt bx _) HB4.out.box ?_
            go_wp2_with fail
            refine SeqQ.done (C := BoxAt bx _) HB4.out.box ?_
            have HQ : Hid (PlayC w w.heap.size (w.heap.size + 1 + 1) (k + 1) bx (.cells #[.int .i64 0, .int .i64 xn, .string xf, .string xs] 29) w4) := ⟨_, _, _, _, HB4.out, (DK.aft_fine (a := 0) (p := p) (n := xf) (s := xs) HF.out).mono (by omega), (DK.aftP_range hp1 hp2).1, (DK.aftP_range hp1 hp2).2⟩
            clear HB4 HBd HBx HPl
            go_wp2_with fail
            go_meet
            case rel => exact HQ.out
          by_cases hx1 : xa = 1
          · subst hx1
            have HBd := hid HBx.out.drew
            have HAp : Hid (Calls Tryd.prog 8 #[.pointer (some ⟨w.heap.size, 0, none⟩), .string xf] W1.drew fun en w' => MetEnd 1 W1.drew X1 w.heap.size k D p xf ByteArray.empty en w') := by
              obtain ⟨mo, fp, fv, e, l, hd⟩ := HBd.out.pl.dk
              exact sync_any hd xf (by unfold maxLen; omega)
            go_upto_region 15 with fail
            refine wp_region_take (BoxAt bx (.cells #[.int .i64 1, .int .i64 xn, .string xf, .string xs] 29)) [0, 1, 3, 4, 5] [2, 6, 7, 8] (by kernel_rfl) (by kernel_rfl) ?_
            simp only [List.filterMap_cons, List.filterMap_nil, List.getElem?_toArray, List.getElem?_cons_zero, List.getElem?_cons_succ]
            refine takes.on (YC.field rfl (by kernel_rfl) (actF2 bx)) (takes.on (YC.load rfl (by kernel_rfl) fun W hW => loadS bx 2 xf W (zcell W bx _ _ hW 2 _ rfl)) (takes.on (YC.move (v := .pointer (some ⟨w.heap.size + 1 + 1, 0, none⟩)) rfl (by kernel_rfl)) (takes.on (YC.field rfl (by kernel_rfl) (actF2 bx)) (takes.on (YC.load rfl (by kernel_rfl) fun W hW => loadS bx 2 xf W (zcell W bx _ _ hW 2 _ rfl)) ?_))))
            refine takes.off (C := BoxAt bx _) HBd.out.box ?_
            go_frame
            go_wp2_with fail
            refine HAp.out.mono ?_
            rintro en w2 ⟨rfl, hend⟩
            obtain ⟨X2, hB2⟩ := HBd.out.left hend
            have HB2 := hid hB2
            clear hB2 hend HAp
            go_wp2_with fail
            refine SeqQ.on (C := BoxAt bx _) HB2.out.box ?_
            go_wp2_with fail
            refine (rchange1_any HB2.out.pl.rf xf ByteArray.empty (by unfold maxLen; omega) HF2.out (by rw [DK.empty_size]; omega) hp2 (by omega)).mono ?_
            rintro en w3 ⟨rfl, hr3, hx3⟩
            have HB3 := hid (HB2.out.both hr3 hx3)
            clear hr3 hx3 HB2
            go_wp2_with fail
            refine SeqQ.on (C := BoxAt bx _) HB3.out.box ?_
            go_wp2_with fail
            refine (bare_er _ _ (HE.out.below HB3.out.pl.bel HEl.out)).mono ?_
            rintro en w4 ⟨rfl, hb4⟩
            have HB4 := hid (HB3.out.below hb4)
            clear hb4 HB3
            go_wp2_with fail
            refine SeqQ.on (C := BoxAt bx _) HB4.out.box ?_
            go_wp2_with fail
            refine SeqQ.done (C := BoxAt bx _) HB4.out.box ?_
            have HQ : Hid (PlayC w w.heap.size (w.heap.size + 1 + 1) (k + 1) bx (.cells #[.int .i64 1, .int .i64 xn, .string xf, .string xs] 29) w4) := ⟨_, _, _, _, HB4.out, (DK.aft_fine (a := 1) (p := p) (n := xf) (s := ByteArray.empty) HF.out).mono (by rw [DK.empty_size]; omega), (DK.aftP_range hp1 hp2).1, (DK.aftP_range hp1 hp2).2⟩
            clear HB4 HBd HBx HPl
            go_wp2_with fail
            go_meet
            case rel => exact HQ.out
          by_cases hx2 : xa = 2
          · subst hx2
            have HBd := hid HBx.out.drew
            have HAp : Hid (Calls Tryd.prog 9 #[.pointer (some ⟨w.heap.size, 0, none⟩), .string xf, .string xs] W1.drew fun en w' => MetEnd 2 W1.drew X1 w.heap.size k D p xf xs en w') := by
              obtain ⟨mo, fp, fv, e, l, hd⟩ := HBd.out.pl.dk
              exact move_any hd xf xs (by unfold maxLen; omega) (by unfold maxLen; omega) (by omega)
            go_upto_region 18 with fail
            refine wp_region_take (BoxAt bx (.cells #[.int .i64 2, .int .i64 xn, .string xf, .string xs] 29)) [0, 1, 2, 3, 5, 6, 7, 8, 9] [4, 10, 11, 12] (by kernel_rfl) (by kernel_rfl) ?_
            simp only [List.filterMap_cons, List.filterMap_nil, List.getElem?_toArray, List.getElem?_cons_zero, List.getElem?_cons_succ]
            refine takes.on (YC.field rfl (by kernel_rfl) (actF2 bx)) (takes.on (YC.load rfl (by kernel_rfl) fun W hW => loadS bx 2 xf W (zcell W bx _ _ hW 2 _ rfl)) (takes.on (YC.field rfl (by kernel_rfl) (actF3 bx)) (takes.on (YC.load rfl (by kernel_rfl) fun W hW => loadS bx 3 xs W (zcell W bx _ _ hW 3 _ rfl)) (takes.on (YC.move (v := .pointer (some ⟨w.heap.size + 1 + 1, 0, none⟩)) rfl (by kernel_rfl)) (takes.on (YC.field rfl (by kernel_rfl) (actF2 bx)) (takes.on (YC.load rfl (by kernel_rfl) fun W hW => loadS bx 2 xf W (zcell W bx _ _ hW 2 _ rfl)) (takes.on (YC.field rfl (by kernel_rfl) (actF3 bx)) (takes.on (YC.load rfl (by kernel_rfl) fun W hW => loadS bx 3 xs W (zcell W bx _ _ hW 3 _ rfl)) ?_))))))))
            refine takes.off (C := BoxAt bx _) HBd.out.box ?_
            go_frame
            go_wp2_with fail
            refine HAp.out.mono ?_
            rintro en w2 ⟨rfl, hend⟩
            obtain ⟨X2, hB2⟩ := HBd.out.left hend
            have HB2 := hid hB2
            clear hB2 hend HAp
            go_wp2_with fail
            refine SeqQ.on (C := BoxAt bx _) HB2.out.box ?_
            go_wp2_with fail
            refine (rchange2_any HB2.out.pl.rf xf xs (by unfold maxLen; omega) HF2.out (by omega) hp2 (by omega) (by unfold maxLen; omega)).mono ?_
            rintro en w3 ⟨rfl, hr3, hx3⟩
            have HB3 := hid (HB2.out.both hr3 hx3)
            clear hr3 hx3 HB2
            go_wp2_with fail
            refine SeqQ.on (C := BoxAt bx _) HB3.out.box ?_
            go_wp2_with fail
            refine (bare_er _ _ (HE.out.below HB3.out.pl.bel HEl.out)).mono ?_
            rintro en w4 ⟨rfl, hb4⟩
            have HB4 := hid (HB3.out.below hb4)
            clear hb4 HB3
            go_wp2_with fail
            refine SeqQ.on (C := BoxAt bx _) HB4.out.box ?_
            go_wp2_with fail
            refine SeqQ.done (C := BoxAt bx _) HB4.out.box ?_
            have HQ : Hid (PlayC w w.heap.size (w.heap.size + 1 + 1) (k + 1) bx (.cells #[.int .i64 2, .int .i64 xn, .string xf, .string xs] 29) w4) := ⟨_, _, _, _, HB4.out, (DK.aft_fine (a := 2) (p := p) (n := xf) (s := xs) HF.out).mono (by omega), (DK.aftP_range hp1 hp2).1, (DK.aftP_range hp1 hp2).2⟩
            clear HB4 HBd HBx HPl
            go_wp2_with fail
            go_meet
            case rel => exact HQ.out
          by_cases hx3 : xa = 3
          · subst hx3
            have HBd := hid HBx.out.drew
            have HAp : Hid (Calls Tryd.prog 10 #[.pointer (some ⟨w.heap.size, 0, none⟩), .string xf] W1.drew fun en w' => MetEnd 3 W1.drew X1 w.heap.size k D p xf ByteArray.empty en w') := by
              obtain ⟨mo, fp, fv, e, l, hd⟩ := HBd.out.pl.dk
              exact remove_any hd xf (by unfold maxLen; omega)
            go_upto_region 21 with fail
            refine wp_region_take (BoxAt bx (.cells #[.int .i64 3, .int .i64 xn, .string xf, .string xs] 29)) [0, 1, 3, 4, 5] [2, 6, 7, 8] (by kernel_rfl) (by kernel_rfl) ?_
            simp only [List.filterMap_cons, List.filterMap_nil, List.getElem?_toArray, List.getElem?_cons_zero, List.getElem?_cons_succ]
            refine takes.on (YC.field rfl (by kernel_rfl) (actF2 bx)) (takes.on (YC.load rfl (by kernel_rfl) fun W hW => loadS bx 2 xf W (zcell W bx _ _ hW 2 _ rfl)) (takes.on (YC.move (v := .pointer (some ⟨w.heap.size + 1 + 1, 0, none⟩)) rfl (by kernel_rfl)) (takes.on (YC.field rfl (by kernel_rfl) (actF2 bx)) (takes.on (YC.load rfl (by kernel_rfl) fun W hW => loadS bx 2 xf W (zcell W bx _ _ hW 2 _ rfl)) ?_))))
            refine takes.off (C := BoxAt bx _) HBd.out.box ?_
            go_frame
            go_wp2_with fail
            refine HAp.out.mono ?_
            rintro en w2 ⟨rfl, hend⟩
            obtain ⟨X2, hB2⟩ := HBd.out.left hend
            have HB2 := hid hB2
            clear hB2 hend HAp
            go_wp2_with fail
            refine SeqQ.on (C := BoxAt bx _) HB2.out.box ?_
            go_wp2_with fail
            refine (rchange3_any HB2.out.pl.rf xf ByteArray.empty (by unfold maxLen; omega) HF2.out (by rw [DK.empty_size]; omega) hp2 (by omega)).mono ?_
            rintro en w3 ⟨rfl, hr3, hx3⟩
            have HB3 := hid (HB2.out.both hr3 hx3)
            clear hr3 hx3 HB2
            go_wp2_with fail
            refine SeqQ.on (C := BoxAt bx _) HB3.out.box ?_
            go_wp2_with fail
            refine (bare_er _ _ (HE.out.below HB3.out.pl.bel HEl.out)).mono ?_
            rintro en w4 ⟨rfl, hb4⟩
            have HB4 := hid (HB3.out.below hb4)
            clear hb4 HB3
            go_wp2_with fail
            refine SeqQ.on (C := BoxAt bx _) HB4.out.box ?_
            go_wp2_with fail
            refine SeqQ.done (C := BoxAt bx _) HB4.out.box ?_
            have HQ : Hid (PlayC w w.heap.size (w.heap.size + 1 + 1) (k + 1) bx (.cells #[.int .i64 3, .int .i64 xn, .string xf, .string xs] 29) w4) := ⟨_, _, _, _, HB4.out, (DK.aft_fine (a := 3) (p := p) (n := xf) (s := ByteArray.empty) HF.out).mono (by rw [DK.empty_size]; omega), (DK.aftP_range hp1 hp2).1, (DK.aftP_range hp1 hp2).2⟩
            clear HB4 HBd HBx HPl
            go_wp2_with fail
            go_meet
            case rel => exact HQ.out
          by_cases hx4 : xa = 4
          · subst hx4
            obtain ⟨mo, fp, fv, e, l, hd⟩ := HBx.out.pl.dk
            have HCu := hid (cut_any hd xn hr2)
            have HXd := hid hd.xd
            clear hd
            go_wp2_with fail
            refine HCu.out.mono ?_
            rintro en w2 ⟨rfl, ⟨e2, l2, hd2⟩, hg2⟩
            obtain ⟨X2, hB2⟩ := HBx.out.left (⟨X1, ⟨mo, fp, fv, e2, l2, hd2⟩, ChEnd.fr hg2 HXd.out, fun j hj => .inl hj⟩ : DkEnd W1 X1 w.heap.size k D (max xn (-1)) w2)
            have HB2 := hid hB2
            have j1 := zcell _ _ _ _ hB2.box 1 _ rfl
            have j2 := hB2.pl.rf.c1
            have j3 := hB2.pl.rf.fr 1
            clear hB2 hd2 hg2 HCu
            have HB3 : Hid (∀ y : Int, y = max xn (-1) → PlayC w w.heap.size (w.heap.size + 1 + 1) (k + 1) bx (.cells #[.int .i64 4, .int .i64 xn, .string xf, .string xs] 29) (w2.setCell ⟨w.heap.size + 1 + 1, 1, none⟩ (.int .i64 y))) := by
              rintro y rfl
              exact ⟨_, _, _, _, (HB2.out.right (HB2.out.pl.rf.power (max xn (-1))) (XFr.setCell w2 ⟨w.heap.size + 1 + 1, 1, none⟩ _ (.inl rfl))).mono (Nat.le_succ _) (Nat.le_succ _), HF.out.mono (by omega), by omega, by omega⟩
            clear HB2
            go_wp2_with fail
            all_goals
              go_meet
              case rel => exact HB3.out _ (by omega)
          by_cases hx5 : xa = 5
          · subst hx5
            obtain ⟨mo, fp, fv, e, l, hd⟩ := HBx.out.pl.dk
            have HSt := hid (start_any hd xn hr1 hr2 (HF2.out.mono (by omega)))
            clear hd
            go_wp2_with fail
            refine HSt.out.mono ?_
            rintro en w2 ⟨rfl, hend⟩
            obtain ⟨X2, hB2⟩ := HBx.out.left hend
            have HB2 := hid hB2
            have j1 := zcell _ _ _ _ hB2.box 1 _ rfl
            clear hB2 hend HSt
            go_wp2_with fail
            refine (rstart_any HB2.out.pl.rf xn hr1 hr2 HF2.out (by omega)).mono ?_
            rintro en w3 ⟨rfl, bo, hbo, hr3, hx3⟩
            obtain ⟨X3, hB3⟩ := HB2.out.right' hbo hr3 hx3
            have HQ : Hid (PlayC w w.heap.size (w.heap.size + 1 + 1) (k + 1) bx (.cells #[.int .i64 5, .int .i64 xn, .string xf, .string xs] 29) w3) := ⟨_, _, _, _, hB3.mono (Nat.le_succ _) (Nat.le_succ _), (DK.Fine.start HF.out xn).mono (by omega), by omega, by omega⟩
            clear hr3 hx3 hB3 HB2
            go_wp2_with fail
            go_meet
            case rel => exact HQ.out
          have HQ : Hid (PlayC w w.heap.size (w.heap.size + 1 + 1) (k + 1) bx (.cells #[.int .i64 xa, .int .i64 xn, .string xf, .string xs] 29) W1) := ⟨_, _, _, _, HBx.out.mono (Nat.le_succ _) (Nat.le_succ _), HF.out.mono (by omega), hp1, hp2⟩
          go_wp2_with fail
          go_meet
          case rel => exact HQ.out
          -- the acts end
        case rest =>
          -- the rest
          obtain ⟨bm1, X2, D1, p1, hB, hF1, hp3, hp4⟩ := hcut
          clear HBx HPl HF hp1 hp2 hc0 hc1 hc2 hc3
          have HB := hid hB
          have HF1 := hid hF1
          have k3 := zcell _ _ _ _ hB.box 3 _ rfl
          have HNm := hid (rnames_any hB.pl.rf (by omega))
          clear hB hF1
          go_wp2_with fail
          refine HNm.out.mono ?_
          rintro en w5 ⟨v5, T, rfl, hT, htl, ho5, hb5⟩
          obtain ⟨ao5, cap5, rfl, hr5⟩ := TRow.of_own ho5
          have HT := hid hT
          have HB5 := hid (HB.out.below hb5)
          have HR5 := hid hr5
          clear hT ho5 hb5 hr5 HNm HB k3
          have HBd := hid HB5.out.drew
          obtain ⟨mo, fp, fv, e, l, hd⟩ := HBd.out.pl.dk
          have HLs := hid (list_any hd (by omega))
          clear hd
          go_wp2_with fail
          refine wp_region_mid1 (by kernel_rfl) (by kernel_rfl) rfl rfl rfl ?_
          go_wp2_with fail
          refine HLs.out.mono ?_
          rintro en w6 ⟨v6, T6, rfl, hT6, _, ho6, hb6⟩
          obtain ⟨ao6, cap6, rfl, hr6⟩ := TRow.of_own ho6
          obtain rfl : T6 = T := hT6.unique HT.out
          have HB6 := hid (HBd.out.below hb6)
          have HR6 := hid hr6
          have HR56 : Hid (TRow w6 ao5 T6) := (show TRow w5.drew ao5 T6 from HR5.out).below hb6
          clear hT6 ho6 hb6 hr6 HLs HBd HB5 HR5
          obtain ⟨mo6, fp6, fv6, e6, l6, hd6⟩ := HB6.out.pl.dk
          have HD6 := hid hd6
          have hc1 := HB6.out.pl.rf.c1
          obtain ⟨Bp, hBp⟩ : ∃ Bp, Bp = decide (p1 ≠ 0) := ⟨_, rfl⟩
          have HBp := hid hBp
          have hon : (!(Bp == (p1 != 0))) = false := by rw [hBp]; by_cases h0 : p1 = 0 <;> simp [h0]
          clear hBp
          have HOn : Hid (∀ n, Calls Tryd.prog 17 #[.pointer (some ⟨w.heap.size, 0, none⟩)] (w6.drewN n) fun en w' => en = .returned (.bool Bp) ∧ w' = w6.drewN n) := fun n => by
            rw [HBp.out]
            exact on_any (w := w6.drewN n) (HD6.out.kept fun _ _ _ => rfl)
          have HSa : Hid (∀ n, Calls Tryd.prog 15 #[.slice ao6 T6.length cap6, .slice ao5 T6.length cap5] (w6.drewN n) fun en w' => en = .returned (.bool true) ∧ ∃ m, w' = (w6.drewN n).drewN m) := fun n => sameQ_any ao6 ao5 T6 cap6 cap5 (w6.drewN n) HR6.out HR56.out (by omega)
          clear hd6
          go_wp2_with fail
          refine MidQ.on ?_
          repeat (go_big_quiet_step ((first | (go_at_call 15; exact Calls.quiet_of (HSa.out _)) | (go_at_call 17; exact Calls.quiet_of_same (HOn.out _)))))
          refine wpQuiet_nil ?_
          rintro _ ⟨nq, rfl⟩
          refine OnlyN.on ?_
          have HB7 : Hid (PlayB w w.heap.size (w.heap.size + 1 + 1) bm1 (k + 1) (k + 1) X2 D1 D1 p1 p1 bx (.cells #[.int .i64 xa, .int .i64 xn, .string xf, .string xs] 29) (w6.drewN nq)) := HB6.out.below ⟨rfl, rfl, rfl, Nat.le_refl _, fun _ _ => rfl⟩
          have HR7 : Hid (TRow (w6.drewN nq) ao5 T6) := HR56.out
          clear HB6 HR6 HR56 HD6 HOn HSa hc1
          generalize w6.drewN nq = w7 at *
          go_wp2_with fail
          clear hon
          go_loopw [8] (fun t8 W => ∃ i : Nat, i ≤ T6.length ∧ t8 = .int .i64 i ∧ Below w7.heap.size w7 W) (fun t8 _ => T6.length - (intOf t8).toNat)
          case atStart => exact ⟨0, Nat.zero_le _, rfl, Below.refl _ _⟩
          case round =>
            obtain ⟨i, hi, rfl, hbel⟩ := hrel
            have HBl := hid hbel
            have HBi := hid (HB7.out.below hbel)
            clear hbel
            by_cases hli : i < T6.length
            · obtain ⟨b5, off5, hao5, hcn, hb5s⟩ := HR7.out i hli
              subst hao5
              have hcn2 := (HBl.out.cell (p := ⟨b5, off5 + i, none⟩) hb5s).trans hcn
              have hmem : T6.getD i [] ∈ T6 := by
                rw [List.getD_eq_getElem?_getD, List.getElem?_eq_getElem hli]
                exact List.getElem_mem hli
              have hDn : D1 (⟨(T6.getD i []).toArray⟩ : ByteArray) ≠ none := (HT.out.mem _).1 hmem
              unfold encStr at hcn2
              clear hmem hcn
              generalize (⟨(T6.getD i []).toArray⟩ : ByteArray) = nm at *
              obtain ⟨f, hf⟩ : ∃ f, D1 nm = some f := by
                cases h0 : D1 nm with
                | none => exact absurd h0 hDn
                | some f => exact ⟨f, rfl⟩
              have hnz : nm.size ≤ maxLen := by
                have := (HF1.out nm f hf).1
                unfold maxLen; omega
              obtain ⟨mo, fp, fv, e, l, hd⟩ := HBi.out.pl.dk
              have HRd := hid (read_any hd nm hnz)
              have hc0 := HBi.out.pl.rf.c0
              have hLk : ∀ n, (Instr.lookup 38 (.map (some bm1)) (.string nm) false).run Tryd.prog (wr.drewN n) = .ok (.agg #[.string f.b, .int .i64 (sfe f)]) (wr.drewN n) := fun n =>
                MapF.look (w := wr.drewN n) (HBi.out.pl.rf.map.block rfl) Tryd.underlying9 Tryd.underlying38 zeroF hnz (by unfold rF; rw [hf]; rfl)
              have HFf := hid hf
              clear hd hDn hf
              have hil : 0 ≤ (i : Int) ∧ (i : Int) < (T6.length : Int) := by omega
              have hq : (f.b.toList == f.b.toList) = true := by simp
              have hfs := fileS f.b (sfe f)
              go_wp2_with fail
              refine HRd.out.mono ?_
              rintro en w8 ⟨⟨hn, _⟩ | ⟨f', hf', rfl⟩, rfl⟩
              · rw [HFf.out] at hn; cases hn
              · obtain rfl : f' = f := by
                  have := HFf.out
                  rw [hf'] at this
                  exact Option.some.inj this
                clear hf' HRd
                go_wp2_with fail
                go_quiet (fail)
                go_wp2_with fail
                go_roundw
                case rel => exact ⟨i + 1, by omega, by go_num, below_drewN HBl.out _⟩
                case measure => simp [intOf]; omega
            · have hie : i = T6.length := by omega
              subst hie
              have hc0 := HBi.out.pl.rf.c0
              have hx3 := zcell _ _ _ _ HBi.out.box 3 _ rfl
              have hLk := HBi.out.pl.rf.look (W := wr.drew) xs (by unfold maxLen; omega) rfl
              have HBa := hid (HBi.out.below (W' := wr.alloc (.cells #[.string ⟨#[]⟩, .int .i64 0] 48)) ((Below.refl _ _).alloc (Nat.le_refl _) _))
              have hc0A := HBa.out.pl.rf.c0
              have hx3A := zcell _ _ _ _ HBa.out.box 3 _ rfl
              have hLkA := HBa.out.pl.rf.look (W := (wr.alloc (.cells #[.string ⟨#[]⟩, .int .i64 0] 48)).drew) xs (by unfold maxLen; omega) rfl
              go_wp2_with fail
              cases hDx : D1 xs with
              | none =>
                rw [hDx] at hLk hLkA
                simp only [Option.map_none, Option.getD_none, Option.isSome_none] at hLk hLkA
                have HQ : Hid (PlayC w w.heap.size (w.heap.size + 1 + 1) (k + 1) bx (.cells #[.int .i64 xa, .int .i64 xn, .string xf, .string xs] 29) (wr.alloc (.cells #[.string ⟨#[]⟩, .int .i64 0] 48)).drew) := ⟨_, _, _, _, HBa.out.drew, HF1.out, hp3, hp4⟩
                have hx3D := zcell _ _ _ _ HBa.out.drew.box 3 _ rfl
                obtain ⟨mo, fp, fv, e, l, hd⟩ := HBa.out.drew.pl.dk
                have HRd := hid (read_any hd xs (by unfold maxLen; omega))
                have HEd := hid (HE.out.below HBa.out.drew.pl.bel HE.out.lt)
                clear hd
                go_region
                all_goals
                  go_wp2_with fail
                  refine HRd.out.mono ?_
                  rintro en w8 ⟨⟨hn, rfl⟩ | ⟨f', hf', rfl⟩, rfl⟩
                  · go_wp2_with fail
                    refine (bare_errno 7 7 _ HEd.out).mono ?_
                    rintro en w9 ⟨rfl, hb9⟩
                    have HP9 := hid (HQ.out.plain hb9)
                    clear hb9
                    go_wp2_with fail
                    go_roundw
                    case rel => exact ⟨k + 1, by omega, by go_num, HP9.out⟩
                    case measure => simp [intOf]; omega
                  · rw [hDx] at hf'; cases hf'
              | some f =>
                rw [hDx] at hLk hLkA
                simp only [Option.map_some, Option.getD_some, Option.isSome_some] at hLk hLkA
                have HQ : Hid (PlayR w w.heap.size (w.heap.size + 1 + 1) (k + 1) (wr.alloc (.cells #[.string f.b, .int .i64 (sfe f)] 48)).drew) :=
                  PlayC.plain (W := wr) (bx := bx) (o := .cells #[.int .i64 xa, .int .i64 xn, .string xf, .string xs] 29) ⟨_, _, _, _, HBi.out, HF1.out, hp3, hp4⟩ (below_drewN ((Below.refl _ _).alloc (Nat.le_refl _) _) 1)
                go_region
                all_goals
                  go_wp2_with fail
                  go_roundw
                  case rel => exact ⟨k + 1, by omega, by go_num, HQ.out⟩
                  case measure => simp [intOf]; omega
          -- the rest ends
    · have he : k = L.length := by omega
      subst he
      have HBl := hid HPl.out.bel
      go_wp2
      go_ret
      exact ⟨rfl, HBl.out⟩

end Go.Proofs.YtdmnlmohfaafoacDoor
