/- What the document's Start and Names do. -/
import Derived.Test.YtdmnlmohfaafoacDoorDkRef
import Derived.Test.YtdmnlmohfaafoacDoorDkSrt
import Derived.Maps.RangeWalk
namespace Go.Proofs.YtdmnlmohfaafoacDoor
open Go.RowKit Go.Maps

theorem ext_all (b : ByteArray) (a : Nat) (h : a ≤ b.size) : b.extract 0 a ++ b.extract a b.size = b := by
  have := ByteArray.extract_append_extract (a := b) (i := 0) (j := a) (k := b.size)
  rw [this]
  have e1 : min 0 a = 0 := by omega
  have e2 : max a b.size = b.size := by omega
  rw [e1, e2]
  exact ByteArray.extract_zero_size

theorem ext_some (b : ByteArray) (a m : Nat) (h : a + m ≤ b.size) : b.extract 0 a ++ (b.extract a b.size).extract 0 m = b.extract 0 (a + m) := by
  rw [ByteArray.extract_extract]
  have e0 : min (a + m) b.size = a + m := by omega
  rw [Nat.add_zero, e0]
  have := ByteArray.extract_append_extract (a := b) (i := 0) (j := a) (k := a + m)
  rw [this]
  have e1 : min 0 a = 0 := by omega
  have e2 : max a (a + m) = a + m := by omega
  rw [e1, e2]

section
variable {w : World} {br bm cnt : Nat} {D : DK.M} {p : Int}

/-- Under way in the document's Start: what has come is as it is to be. -/
def RstMid (w : World) (br bm bo r cnt : Nat) (D : DK.M) (p c : Int) (ks : List ByteArray) (cn : Nat) (W : World) : Prop :=
  RngF Tryd.prog 9 W bm r cnt (rF D) ks cn ∧ (∃ fo, MapF Tryd.prog 9 W bo ks.length fo ∧ ∀ s, (s ∈ ks → fo s = rF (DK.start D c) s) ∧ (s ∉ ks → fo s = none)) ∧ ks.length + cn ≤ cnt ∧ RfA W br bm cnt D p ∧ Below w.heap.size w W

theorem RstMid.skip {bo r cn c4 : Nat} {c : Int} {ks : List ByteArray} {W W4 : World} {s : ByteArray} {o : Obj} (h : RstMid w br bm bo r cnt D p c ks cn W) (hg : W.grownBy W4 (some r)) (hr : w.heap.size ≤ r) (hbo : bo ≠ r) (hbr : br ≠ r) (hbm : bm ≠ r) (hrg : RngF Tryd.prog 9 W4 bm r cnt (rF D) (ks ++ [s]) c4) (hlt : c4 < cn) (hn : rF (DK.start D c) s = none) : RstMid w br bm bo r cnt D p c (ks ++ [s]) c4 (W4.alloc o) := by
  obtain ⟨h1, ⟨fo, h2, h3⟩, h4, h5, h6⟩ := h
  have hb4 : Below w.heap.size w W4 := h6.grown hg h6.size (fun j hj => by cases hj; exact hr)
  have hR4 : RfA W4 br bm cnt D p := h5.kept (hg.block br h5.lt.1 (fun e => hbr (Option.some.inj e))) (hg.block bm h5.lt.2 (fun e => hbm (Option.some.inj e)))
  refine ⟨hrg.alloc o, ⟨fo, ((h2.kept hg (fun e => hbo (Option.some.inj e))).alloc o).mono (by simp), fun t => ?_⟩, by rw [List.length_append]; simp; omega, hR4.below ((Below.refl _ _).alloc (Nat.le_refl _) o), hb4.alloc hb4.size o⟩
  rw [List.mem_append, List.mem_singleton]
  by_cases e : t = s
  · subst e
    refine ⟨fun _ => ?_, fun h' => absurd (.inr rfl) h'⟩
    rw [hn]
    by_cases hm : t ∈ ks
    · rw [(h3 t).1 hm, hn]
    · exact (h3 t).2 hm
  · exact ⟨fun h' => (h3 t).1 (h'.resolve_right e), fun h' => (h3 t).2 (fun h'' => h' (.inl h''))⟩

theorem RstMid.put {bo r cn c4 : Nat} {c : Int} {ks : List ByteArray} {W W4 w5 : World} {s : ByteArray} {o : Obj} {v : Value} {fo : ByteArray → Option Value} (h : RstMid w br bm bo r cnt D p c ks cn W) (hg : W.grownBy W4 (some r)) (hr : w.heap.size ≤ r) (hbor : bo ≠ r) (hbobr : br ≠ bo) (hbobm : bm ≠ bo) (hbow : w.heap.size ≤ bo) (hbr : br ≠ r) (hbm : bm ≠ r) (hrg : RngF Tryd.prog 9 W4 bm r cnt (rF D) (ks ++ [s]) c4) (hlt : c4 < cn) (hv : rF (DK.start D c) s = some v)
    (h3 : ∀ s, (s ∈ ks → fo s = rF (DK.start D c) s) ∧ (s ∉ ks → fo s = none)) (hM : MapF Tryd.prog 9 w5 bo (ks.length + 1) (upd fo s v)) (hg5 : (W4.alloc o).grownBy w5 (some bo)) : RstMid w br bm bo r cnt D p c (ks ++ [s]) c4 w5 := by
  obtain ⟨h1, _, h4, h5, h6⟩ := h
  have hb4 : Below w.heap.size w W4 := h6.grown hg h6.size (fun j hj => by cases hj; exact hr)
  have hb4' := hb4.alloc hb4.size o
  have hR4 : RfA W4 br bm cnt D p := h5.kept (hg.block br h5.lt.1 (fun e => hbr (Option.some.inj e))) (hg.block bm h5.lt.2 (fun e => hbm (Option.some.inj e)))
  have hR4' : RfA (W4.alloc o) br bm cnt D p := hR4.below ((Below.refl _ _).alloc (Nat.le_refl _) o)
  refine ⟨(hrg.alloc o).kept hg5 (fun e => hbobm (Option.some.inj e)) (fun e => hbor (Option.some.inj e).symm), ⟨_, by rw [List.length_append]; exact hM, fun t => ?_⟩, by rw [List.length_append]; simp; omega, hR4'.kept (hg5.block br hR4'.lt.1 (fun e => hbobr (Option.some.inj e))) (hg5.block bm hR4'.lt.2 (fun e => hbobm (Option.some.inj e))), hb4'.grown hg5 hb4'.size (fun j hj => by cases hj; exact hbow)⟩
  rw [List.mem_append, List.mem_singleton]
  by_cases e : t = s
  · subst e
    exact ⟨fun _ => by rw [upd_same, hv], fun h' => absurd (.inr rfl) h'⟩
  · rw [upd_other _ _ _ _ e]
    exact ⟨fun h' => (h3 t).1 (h'.resolve_right e), fun h' => (h3 t).2 (fun h'' => h' (.inl h''))⟩

theorem RstMid.done {bo r cn : Nat} {c : Int} {ks : List ByteArray} {W : World} (h : RstMid w br bm bo r cnt D p c ks cn W) (hall : ∀ s, s ∈ ks ↔ D s ≠ none) (hbobr : br ≠ bo) :
    RfA ((W.setCell ⟨br, 0, none⟩ (.map (some bo))).setCell ⟨br, 1, none⟩ (.int .i64 (-1))) br bo cnt (DK.start D c) (-1) := by
  obtain ⟨h1, ⟨fo, h2, h3⟩, h4, h5, h6⟩ := h
  have e1 : fo = rF (DK.start D c) := by
    funext s
    by_cases hs : s ∈ ks
    · exact (h3 s).1 hs
    · rw [(h3 s).2 hs]
      have hn : D s = none := by
        cases hd : D s with
        | none => rfl
        | some f => exact absurd ((hall s).2 (by rw [hd]; simp)) hs
      unfold rF
      rw [DK.start_none hn]; rfl
  rw [e1] at h2
  refine ⟨?_, ?_⟩
  · rw [heap_setCell_same _ br 1 _ _ _ (heap_setCell_same W br 0 _ _ _ h5.dsk)]; rfl
  · exact (h2.mono (by omega)).block ((Below.heap_setCell _ ⟨br, 1, none⟩ _ bo (fun e => hbobr e.symm)).trans (Below.heap_setCell W ⟨br, 0, none⟩ _ bo (fun e => hbobr e.symm)))

set_option maxRecDepth 100000 in
set_option maxHeartbeats 1600000 in
theorem rstart_any (h : RfA w br bm cnt D p) (c : Int) (hc0 : -9223372036854775808 ≤ c) (hc1 : c ≤ 9223372036854775807) (hF : DK.Fine 100000000 D) (hcn : cnt < 1000000) :
    Calls Tryd.prog 13 #[.pointer (some ⟨br, 0, none⟩), .int .i64 c] w fun en w' => en = .returned (.tuple #[]) ∧ ∃ bo, w.heap.size ≤ bo ∧ RfA w' br bo cnt (DK.start D c) (-1) ∧ XFr (fun j => j = br) w w' := by
  have hmm := @run_makeMap Tryd.prog
  have HF := hid hF
  have hltb := h.lt.1
  have hltm := h.lt.2
  have HI := hid (h.below (w' := w.alloc (.map #[] 0)) ((Below.refl _ _).alloc (Nat.le_refl _) _))
  have HM0 := hid (MapF.made w Tryd.prog 9)
  have HB0 := hid ((Below.refl w.heap.size w).alloc (Nat.le_refl _) (.map #[] 0))
  have c0 := HI.out.c0
  have hs0 : w.heap.size + 1 ≤ (w.alloc (.map #[] 0)).heap.size := by simp
  clear h hF
  go_enter Tryd.func13, Tryd.ntmps13
  go_wp2_with (at_range; refine wpList_range_f rfl (.tmp 13) 38 rfl 9 48 Tryd.underlying9 Tryd.underlying38 bm cnt (rF D) rfl HI.out.map ?_)
  intro w3 cn hrg hg3 hsz3
  have hle := hrg.le
  have hr3 := hrg.lt
  have HS : Hid (RstMid w br bm w.heap.size (w.heap.size + 1) cnt D p c [] cn w3) := by
    refine ⟨hrg, ⟨_, HM0.out.kept hg3 (by simp), fun s => ⟨fun h => (by simp at h), fun _ => rfl⟩⟩, by simpa using hle, HI.out.kept (hg3.block _ HI.out.lt.1 (by simp)) (hg3.block _ HI.out.lt.2 (by simp)), HB0.out.grown hg3 HB0.out.size (fun j hj => by cases hj)⟩
  clear hrg hg3 hsz3 hle hr3 HI HM0 HB0 c0
  have hrb : w.heap.size < w.heap.size + 1 := by omega
  have HWb : Hid (w.heap.size ≤ w.heap.size) := Nat.le_refl _
  have HWr : Hid (w.heap.size ≤ w.heap.size + 1) := Nat.le_succ _
  generalize w.heap.size + 1 = r at *
  generalize hbo : w.heap.size = bo at hrb hltb hltm HWb HWr HS ⊢
  have HBo := hid hbo
  clear hbo hs0
  go_wp2_with fail
  go_loopw [15] (fun _ W => ∃ ks cn, RstMid w br bm bo r cnt D p c ks cn W) (fun _ W => W.rangeLeft bm r)
  case atStart => exact ⟨[], cn, HS.out⟩
  case round =>
    obtain ⟨ks, cf, hm⟩ := hrel
    have HSM := hid hm
    have HRg := hid hm.1
    have HL0 := hid hm.1.left
    clear hm HS
    go_wp2_with (at_next; refine wpList_next_f rfl (.tmp 14) rfl 9 Tryd.underlying9 bm r cnt (rF D) ks cf rfl HRg.out ?_ ?_)
    · intro _ hall
      have hbb : br ≠ bo := by omega
      have HQ := hid (HSM.out.done (fun s => hall s) hbb)
      have hfc0 := HSM.out.2.2.2.1.c0
      have hfc1 := HSM.out.2.2.2.1.c1
      have hff0 := HSM.out.2.2.2.1.fr 0
      have hff1 := HSM.out.2.2.2.1.fr 1
      have HBl := hid HSM.out.2.2.2.2
      clear HSM HRg hall
      go_wp2
      go_end0
      refine ⟨rfl, bo, Nat.le_of_eq HBo.out, HQ.out, ?_⟩
      exact (XFr.below HBl.out).trans ((XFr.setCell _ ⟨br, 0, none⟩ _ (X := fun j => j = br) rfl).trans (XFr.setCell _ ⟨br, 1, none⟩ _ (X := fun j => j = br) rfl) (fun j hj => .inl hj)) (fun j hj => .inl hj)
    · intro s v w4 c4 hs f hf hv hns hrg4 hlt4 hg4 hsz4 hen
      subst hv
      have hbor : bo ≠ r := by omega
      have hbrr : br ≠ r := by omega
      have hbmr : bm ≠ r := by omega
      have hbrbo : br ≠ bo := by omega
      have hbmbo : bm ≠ bo := by omega
      have HG4 := hid hg4
      have HR4 := hid hrg4
      obtain ⟨_, hfb, hfs, hfk⟩ := HF.out s f hf
      have HSk : Hid (rF (DK.start D c) s = none → RstMid w br bm bo r cnt D p c (ks ++ [s]) c4 (w4.alloc (.cells #[.string f.b, .int .i64 (sfe f)] 48))) := fun hn => HSM.out.skip HG4.out (by rw [HBo.out]; omega) hbor hbrr hbmr HR4.out hlt4 hn
      have HPt : Hid (∀ v, rF (DK.start D c) s = some v → ∃ w5, (Instr.mapUpdate 38 (.map (some bo)) (.string s) v).run Tryd.prog (w4.alloc (.cells #[.string f.b, .int .i64 (sfe f)] 48)) = .ok () w5 ∧ RstMid w br bm bo r cnt D p c (ks ++ [s]) c4 w5) := by
        intro v hv
        obtain ⟨fo, hfo, h3⟩ := HSM.out.2.1
        have hkl := HSM.out.2.2.1
        obtain ⟨w5, hrun, hM, hg5⟩ := ((hfo.kept HG4.out (fun e => hbor (Option.some.inj e))).alloc (.cells #[.string f.b, .int .i64 (sfe f)] 48)).store Tryd.underlying9 Tryd.underlying38 (by unfold maxLen; omega) hs v
        exact ⟨w5, hrun, HSM.out.put HG4.out (by rw [HBo.out]; omega) hbor hbrbo hbmbo (Nat.le_of_eq HBo.out) hbrr hbmr HR4.out hlt4 hv h3 hM hg5⟩
      have HSt := hid (DK.start_some (c := c) hf)
      have HFs := hid hf
      clear hrg4 hg4 hsz4 hns hf HRg HSM
      cases hk : f.k with
      | true =>
        have hsfe : sfe f = (f.s : Int) := by unfold sfe; rw [hk]; rfl
        have HST : Hid (DK.start D c s = some (DK.keepB f c.toNat)) := by
          show _ = _
          rw [HSt.out]; unfold DK.stay; rw [hk]; rfl
        rw [hsfe] at HPt HSk
        by_cases hlen : c < (f.b.size : Int) - (f.s : Int)
        · have HV : Hid (rF (DK.start D c) s = some (.agg #[.string (f.b.extract 0 f.s ++ (f.b.extract f.s f.b.size).extract 0 (max c 0).toNat), .int .i64 ((f.s : Int) + (min (max c 0).toNat (f.b.size - f.s) : Nat))])) := by
            show _ = _
            unfold rF
            rw [HST.out]
            have hM : c.toNat = (max c 0).toNat := by omega
            have hle : f.s + (max c 0).toNat ≤ f.b.size := by omega
            have hmn : min (max c 0).toNat (f.b.size - f.s) = (max c 0).toNat := by omega
            unfold DK.keepB
            rw [hM, hmn, ext_some _ _ _ hle]
            simp [rV, sfe]
          obtain ⟨w5, hrun, hmid⟩ := HPt.out _ HV.out
          have HMid := hid hmid
          have HL5 := hid hmid.1.left
          clear hmid HV
          go_wp2_with fail
          go_roundw
          case rel => exact ⟨_, _, HMid.out⟩
          case measure => rw [HL5.out, HL0.out]; exact hlt4
        · have hstr : DK.keepB f c.toNat = ⟨f.b, f.b.size, true⟩ := by
            unfold DK.keepB
            have e1 : f.s + min c.toNat (f.b.size - f.s) = f.b.size := by omega
            rw [e1, ByteArray.extract_zero_size]
          obtain ⟨w5, hrun, hmid⟩ := HPt.out (.agg #[.string f.b, .int .i64 f.b.size]) (by unfold rF; rw [HST.out, hstr]; rfl)
          have HMid := hid hmid
          have HL5 := hid hmid.1.left
          clear hmid hstr
          go_wp2_with fail
          go_roundw
          case rel => exact ⟨_, _, HMid.out⟩
          case measure => rw [HL5.out, HL0.out]; exact hlt4
      | false =>
        have hsfe : sfe f = -1 := by unfold sfe; rw [hk]; rfl
        have hs0' : f.s = 0 := hfk hk
        have hmx1 : max (-1 : Int) 0 = 0 := rfl
        rw [hsfe] at HPt HSk
        by_cases hc1' : c < 1
        · have HV : Hid (rF (DK.start D c) s = none) := by
            show _ = _
            unfold rF
            rw [HSt.out]
            unfold DK.stay
            rw [hk]
            have : decide (1 ≤ c) = false := decide_eq_false (by omega)
            rw [this]; rfl
          have HMid := hid (HSk.out HV.out)
          have HL5 := hid HMid.out.1.left
          clear HV
          go_wp2_with fail
          go_roundw
          case rel => exact ⟨_, _, HMid.out⟩
          case measure => rw [HL5.out, HL0.out]; exact hlt4
        · have HST : Hid (DK.start D c s = some (DK.keepB f c.toNat)) := by
            show _ = _
            rw [HSt.out]; unfold DK.stay; rw [hk]
            have : decide (1 ≤ c) = true := decide_eq_true (by omega)
            rw [this]; rfl
          by_cases hlen : c < (f.b.size : Int)
          · have HV : Hid (rF (DK.start D c) s = some (.agg #[.string (f.b.extract 0 (max c 0).toNat), .int .i64 (min (max c 0).toNat f.b.size : Nat)])) := by
              show _ = _
              unfold rF
              rw [HST.out]
              have hM : c.toNat = (max c 0).toNat := by omega
              have hmn : min (max c 0).toNat f.b.size = (max c 0).toNat := by omega
              unfold DK.keepB
              rw [hM, hs0', Nat.zero_add, Nat.sub_zero, hmn]
              rfl
            obtain ⟨w5, hrun, hmid⟩ := HPt.out _ HV.out
            clear HV
            have HMid := hid hmid
            have HL5 := hid hmid.1.left
            clear hmid
            go_wp2_with fail
            go_roundw
            case rel => exact ⟨_, _, HMid.out⟩
            case measure => rw [HL5.out, HL0.out]; exact hlt4
          · have HV : Hid (rF (DK.start D c) s = some (.agg #[.string f.b, .int .i64 (f.b.size : Nat)])) := by
              show _ = _
              unfold rF
              rw [HST.out]
              unfold DK.keepB
              have e1 : f.s + min c.toNat (f.b.size - f.s) = f.b.size := by omega
              rw [e1, ByteArray.extract_zero_size]
              rfl
            obtain ⟨w5, hrun, hmid⟩ := HPt.out _ HV.out
            clear HV
            have HMid := hid hmid
            have HL5 := hid hmid.1.left
            clear hmid
            go_wp2_with fail
            go_roundw
            case rel => exact ⟨_, _, HMid.out⟩
            case measure => rw [HL5.out, HL0.out]; exact hlt4

set_option maxRecDepth 100000 in
set_option maxHeartbeats 800000 in
theorem rnames_any (h : RfA w br bm cnt D p) (hcn : cnt ≤ 1000) :
    Calls Tryd.prog 14 #[.pointer (some ⟨br, 0, none⟩)] w fun e w' => TextEnd (fun n => D n ≠ none) w e w' := by
  obtain ⟨ii, hii, hi'⟩ := Option.map_eq_some_iff.1 Tryd.infoS
  simp only [Prod.mk.injEq] at hi'
  obtain ⟨hz0, hz1, hz2⟩ := hi'
  have HI0 := hid hii
  have HZ0 := hid hz0
  have HZ1 := hid hz1
  have HZ2 := hid hz2
  clear hii hz0 hz1 hz2
  have c0 := h.c0
  have HM := hid h.map
  clear h
  go_enter Tryd.func14, Tryd.ntmps14
  go_wp2_with (at_range; refine wpList_range_f rfl (.tmp 8) 38 rfl 9 48 Tryd.underlying9 Tryd.underlying38 bm cnt (rF D) rfl HM.out ?_)
  intro w3 cn hrg hg3 hsz3
  have hc0 := hrg.le
  have HRg := hid hrg
  have hbmr : bm < w.heap.size := HM.out.lt
  have HB3 := hid ((Below.refl w.heap.size w).grown hg3 (Nat.le_refl _) (fun j hj => by cases hj))
  have hs3 : w.heap.size + 1 ≤ w3.heap.size := by rw [hsz3]; exact Nat.le_refl _
  clear hrg hg3 hsz3 HM c0
  go_wp2_with fail
  go_loopw [3] (fun t3 W => ∃ (ks : List ByteArray) (c : Nat), RngF Tryd.prog 9 W bm w.heap.size cnt (rF D) ks c ∧ W.ownsRow (w.heap.size + 1) 9 1 t3 ks.length (tv ks) ∧ ks.length + c ≤ cnt ∧ Below w.heap.size w W ∧ w.heap.size + 1 ≤ W.heap.size) (fun _ W => W.rangeLeft bm w.heap.size)
  case atStart => exact ⟨[], cn, HRg.out, World.ownsRow_nil _ _ _ _, by simpa using hc0, HB3.out, hs3⟩
  case round =>
    obtain ⟨ks, c, hrg, hown, hkc, hbel, hsr⟩ := hrel
    have HR := hid hrg
    have HO := hid hown
    have HBl := hid hbel
    have hsz := hbel.size
    clear hrg hown hbel HRg HB3 hs3
    go_wp2_with (at_next; refine wpList_next_f rfl (.tmp 9) rfl 9 Tryd.underlying9 bm w.heap.size cnt (rF D) ks c rfl HR.out ?_ ?_)
    · intro hnd hall
      have HST : Hid (ST ((ks.map fun s => s.data.toList).mergeSort fun x y => decide (x ≤ y)) fun n => D n ≠ none) := by
        refine ST.sorted ?_ fun s => ?_
        · refine List.pairwise_map.2 (hnd.imp fun {a b} hne e => hne ?_)
          cases a; cases b
          simp only [Array.toList_inj] at e
          rw [e]
        · have hal : s ∈ ks ↔ D s ≠ none := hall s
          rw [List.mem_map, ← hal]
          constructor
          · rintro ⟨t, ht, e⟩
            have : t = s := by
              cases t; cases s
              simp only [Array.toList_inj] at e
              rw [e]
            rw [← this]; exact ht
          · exact fun h => ⟨s, h, rfl⟩
      have HO2 : Hid (wr.ownsRow (w.heap.size + 1) 9 1 u3 (ks.map fun s => s.data.toList).length ((ks.map fun s => s.data.toList).map encStr)) := by
        show World.ownsRow _ _ _ _ _ _ _
        rw [List.length_map, ← tv_enc]; exact HO.out
      have hkl : (ks.map fun s => s.data.toList).length ≤ 1000 := by rw [List.length_map]; omega
      clear hnd hall HR HO
      generalize (ks.map fun s => s.data.toList) = SS at *
      go_wp2_with fail
      refine (sortT_any u3 (w.heap.size + 1) SS wr HO2.out (by omega)).mono ?_
      rintro e w8 ⟨rfl, ho8, hg8⟩
      have HO8 := hid (ho8.mono (base' := w.heap.size) (by omega))
      have HB8 := hid (HBl.out.grown hg8 hsz (fun j hj => by have := (HO2.out.lt j hj).1; omega))
      clear ho8 hg8
      go_wp2_with fail
      go_ret
      exact ⟨_, _, rfl, HST.out, by rw [List.length_mergeSort]; omega, HO8.out, HB8.out⟩
    · intro s v w4 c4 hs f hf hv hns hrg4 hlt4 hg4 hsz4 hen
      subst hv
      have HR4 := hid hrg4
      have HO4 := hid (HO.out.kept hg4 (.inr (rowN_far HO.out (by omega))))
      have HB4 := hid (HBl.out.grown hg4 hsz (fun j hj => by cases hj; omega))
      have hsr4 : w.heap.size + 1 ≤ w4.heap.size := Nat.le_trans hsr hg4.size
      have hsz4' := HB4.out.size
      have HL1 := hid HR.out.left
      clear hrg4 hg4 hsz4 HR HO HBl hns hf
      go_wp2_with (at_builtin; refine wpList_append_own _ rfl (.tmp 14) (.tmp 16) 41 rfl (w.heap.size + 1) 9 ii (.string ⟨#[]⟩) 1 16 Tryd.underlying41 HI0.out HZ0.out HZ1.out HZ2.out rfl (by decide) u3 ks.length (tv ks) rfl (HO4.out.alloc _) ⟨w4.heap.size, 0, none⟩ 1 1 [.string s] rfl rfl (cell_one_new _ _ _) (by simp [Value.oneCell']) (by unfold maxLen; omega) (by omega) (by simp; omega) ?_)
      intro v7 w7 hown7 hgrow7 _
      have HO7 : Hid (w7.ownsRow (w.heap.size + 1) 9 1 v7 (ks ++ [s]).length (tv (ks ++ [s]))) := by
        show World.ownsRow _ _ _ _ _ _ _
        rw [tv_append, List.length_append]; exact hown7
      have HB7 := hid ((HB4.out.alloc hsz4' (.cells #[.string s] 9)).grown hgrow7 (by simp; omega) (fun j hj => by have := (HO4.out.lt j hj).1; omega))
      have HR7 := hid ((HR4.out.alloc (.cells #[.string s] 9)).kept hgrow7 (fun e => rowN_far HO4.out (by omega) e.symm) (fun e => rowN_far HO4.out (by omega) e.symm))
      have hsr7 : w.heap.size + 1 ≤ w7.heap.size := by have := hgrow7.size; simp at this; omega
      clear hown7 hgrow7
      go_wp2_with fail
      go_roundw
      case rel => exact ⟨ks ++ [s], c4, HR7.out, HO7.out, by rw [List.length_append]; simp; omega, HB7.out, hsr7⟩
      case measure => rw [HR7.out.left, HL1.out]; exact hlt4

end

end Go.Proofs.YtdmnlmohfaafoacDoor
