/- Cut, Gone and Series. -/
import Derived.Test.YtdmnlmohfaafoadGreatDoorPHdTake
namespace Go.Proofs.YtdmnlmohfaafoadGreatDoor
open Go.RowKit

theorem cut1_any (t tm : Int) (B : Nat) (w : World) (h : w.cell? ⟨B, 0, none⟩ = some (.int .i64 tm)) :
    Calls Tryz.prog 56 #[.int .i64 t, .pointer (some ⟨B, 0, none⟩)] w fun e w' => e = .returned (.bool (decide (t ≤ tm))) ∧ Below w.heap.size w w' := by
  go_enter Tryz.func56, Tryz.ntmps56
  go_wp2
  go_ret
  exact ⟨rfl, Below.refl _ _⟩

theorem gone1_any (t fr tt : Int) (vm : Value) (B : Nat) (w : World) (h : w.heap[B]? = some (.cells #[vm, .int .i64 fr, .int .i64 tt] 61)) :
    Calls Tryz.prog 59 #[.int .i64 t, .pointer (some ⟨B, 0, none⟩)] w fun e w' => e = .returned (.bool (decide (fr ≤ t) && decide (t ≤ tt))) ∧ Below w.heap.size w w' := by
  have h1 : w.cell? ⟨B, 1, none⟩ = some (.int .i64 fr) := zcell' _ _ _ _ h 1 _ rfl
  have h2 : w.cell? ⟨B, 2, none⟩ = some (.int .i64 tt) := zcell' _ _ _ _ h 2 _ rfl
  clear h
  by_cases hc : fr ≤ t
  · go_enter Tryz.func59, Tryz.ntmps59
    go_wp2
    go_ret
    exact ⟨by rw [decide_eq_true hc]; rfl, Below.refl _ _⟩
  · go_enter Tryz.func59, Tryz.ntmps59
    go_wp2
    go_ret
    exact ⟨by rw [decide_eq_false (show ¬ fr ≤ t by omega)]; rfl, Below.refl _ _⟩

theorem HdI.mark {w : World} {hb : Nat} {Z : Nat → Prop} {mark : Int} {S : List Sr} (h : HdI w hb Z mark S) (m' : Int) : HdI (w.setCell ⟨hb, 0, none⟩ (.int .i64 m')) hb Z m' S := by
  obtain ⟨⟨v, xs, hX, hz⟩, hb0, hl⟩ := h
  have hset : ∀ {e : TypeId} {u : Value} {m : Nat} {ys : List Value}, w.ownsRow 0 e 2 u m ys → e ≠ 105 → (w.setCell ⟨hb, 0, none⟩ (.int .i64 m')).ownsRow 0 e 2 u m ys := fun hh hne => own_set hh (own_kind hh hX.box hne) _ _
  exact ⟨⟨v, xs, ⟨heap_setCell_same w hb 0 _ _ _ hX.box, hX.len, hset hX.row (by decide), fun i hi => hset (hX.labs i hi) (by decide), fun i hi => hset (hX.smps i hi) (by decide), hX.apart⟩, hz⟩, hb0, fun j hj => by rw [set_size]; exact hl j hj⟩

theorem wid_trans {Z : Nat → Prop} {w w1 w2 : World} (h1 : w.heap.size ≤ w1.heap.size) {j : Nat} (h : wid Z w1 w2 j) : wid Z w w2 j := by
  rcases h with e | e
  · exact .inl e
  · exact .inr ⟨Nat.le_trans h1 e.1, e.2⟩

/-- From a world behind on. -/
theorem TakeEnd.left {hb : Nat} {Z : Nat → Prop} {mark : Int} {S : List Sr} {p : List LB.Lab → Int → Bool} {w w1 w' : World} {e : Ending} (h : ZFr Z w w1) (k : TakeEnd hb Z mark S p w1 e w') : TakeEnd hb Z mark S p w e w' := by
  obtain ⟨k1, ⟨⟨v, xs, k2, k3⟩, k4, k5⟩, k6⟩ := k
  refine ⟨k1, ⟨⟨v, xs, k2, fun i hi g hg => wid_trans h.size (k3 i hi g hg)⟩, wid_trans h.size k4, fun j hj => ?_⟩, h.trans k6⟩
  rcases hj with e | e
  · exact k5 j (.inl e)
  · exact e.2

set_option maxRecDepth 100000 in
set_option maxHeartbeats 1600000 in
theorem cut_any (hb : Nat) (Z : Nat → Prop) (mark t : Int) (S : List Sr) (w : World) (hI : HdI w hb Z mark S) (hG : HD.Good S) :
    Calls Tryz.prog 20 #[.pointer (some ⟨hb, 0, none⟩), .int .i64 t] w fun e w' => TakeEnd hb Z (max mark t) S (fun _ s => decide (s ≤ t)) w e w' := by
  have hbel : Below w.heap.size w (w.alloc (.cells #[.int .i64 t] 2)) := (Below.refl _ w).alloc (Nat.le_refl _) _
  have hbx : (w.alloc (.cells #[.int .i64 t] 2)).heap[w.heap.size]? = some (.cells #[.int .i64 t] 2) := heap_alloc_new w _
  have hI1 := hI.below hbel
  obtain ⟨⟨v, xs, hX, _⟩, hb0, hl⟩ := id hI1
  have hbw : hb < w.heap.size := by obtain ⟨_, h1, h2⟩ := hI; exact h2 hb h1
  have m0 : (w.alloc (.cells #[.int .i64 t] 2)).cell? ⟨hb, 0, none⟩ = some (.int .i64 mark) := zcell' _ _ _ _ hX.box 0 _ rfl
  have m1 : (w.alloc (.cells #[.int .i64 t] 2)).frozen? ⟨hb, 0, none⟩ = false := hfz hX.box 0
  have m2 : (w.alloc (.cells #[.int .i64 t] 2)).cell? ⟨w.heap.size, 0, none⟩ = some (.int .i64 t) := zcell' _ _ _ _ hbx 0 _ rfl
  have HI1 := hid hI1
  have HB := hid hbel
  have HBx := hid hbx
  have HG := hid hG
  have HZ := hid hb0
  clear hI hI1 hX hb0 hl hbel hbx hG
  go_enter Tryz.func20, Tryz.ntmps20
  go_wp2_with fail
  generalize w.alloc (.cells #[.int .i64 t] 2) = w1 at *
  go_region
  generalize hMM : (if mark < t then t else mark) = M at *
  have hM : M = max mark t := by
    rw [← hMM, Int.max_def]
    split <;> split <;> omega
  clear hMM
  have hI2 : HdI (w1.setCell ⟨hb, 0, none⟩ (.int .i64 M)).drew hb Z (max mark t) S := by
    rw [hM]
    exact (HI1.out.mark (max mark t)).below ((Below.refl _ _).drew)
  have hz2 : ZFr Z w (w1.setCell ⟨hb, 0, none⟩ (.int .i64 M)).drew := by
    refine ⟨HB.out.os, HB.out.tape, HB.out.output, by show _ ≤ (w1.setCell _ _).heap.size; rw [set_size]; exact HB.out.size, fun j hj hn => ?_⟩
    show (w1.setCell _ _).heap[j]? = _
    rw [Below.heap_setCell w1 ⟨hb, 0, none⟩ _ j (fun e => hn (by rw [e]; exact HZ.out))]
    exact HB.out.block j hj
  have hbx2 : (w1.setCell ⟨hb, 0, none⟩ (.int .i64 M)).drew.heap[w.heap.size]? = some (.cells #[.int .i64 t] 2) := by
    show (w1.setCell _ _).heap[_]? = _
    rw [Below.heap_setCell w1 ⟨hb, 0, none⟩ _ w.heap.size (by show _ ≠ hb; omega)]
    exact HBx.out
  generalize (w1.setCell ⟨hb, 0, none⟩ (.int .i64 M)).drew = w2 at *
  have HC := hid (take_any hb Z (max mark t) S none [] 0 56 #[.pointer (some ⟨w.heap.size, 0, none⟩)] (fun s => decide (s ≤ t)) w2 hI2 HG.out (fun i hi => by simp at hi) (by simp) (enters_of Tryz.func56 (by kernel_rfl) rfl) (fun W hW s => cut1_any s t w.heap.size W ((hW.cell (p := ⟨w.heap.size, 0, none⟩) (heap_lt hbx2)).trans (zcell' _ _ _ _ hbx2 0 _ rfl))))
  have HZ2 := hid hz2
  clear hI2 hz2 hbx2
  go_wp2_with fail
  refine HC.out.mono ?_
  intro e w3 hend
  obtain ⟨⟨v3, xs3, rfl, _⟩, _⟩ := id hend
  have HE := hid (TakeEnd.left HZ2.out hend)
  clear hend
  go_wp2_with fail
  go_ret
  exact HE.out

set_option maxRecDepth 100000 in
set_option maxHeartbeats 1600000 in
theorem gone_any (hb : Nat) (Z : Nat → Prop) (mark fr tt : Int) (S : List Sr) (mo : Option Addr) (m : List LB.Mat) (mc : Nat) (w : World) (hI : HdI w hb Z mark S) (hG : HD.Good S) (hM : MRow w mo m) (hm : m.length ≤ 1000) :
    Calls Tryz.prog 22 #[.pointer (some ⟨hb, 0, none⟩), .agg #[.slice mo m.length mc, .int .i64 fr, .int .i64 tt]] w fun e w' => e = .returned (.tuple #[]) ∧ ∃ e2, TakeEnd hb Z mark S (goP m fun s => decide (fr ≤ s) && decide (s ≤ tt)) w e2 w' := by
  have hbel : Below w.heap.size w (w.alloc (.cells #[.slice mo m.length mc, .int .i64 fr, .int .i64 tt] 61)) := (Below.refl _ w).alloc (Nat.le_refl _) _
  have hbx : (w.alloc (.cells #[.slice mo m.length mc, .int .i64 fr, .int .i64 tt] 61)).heap[w.heap.size]? = some (.cells #[.slice mo m.length mc, .int .i64 fr, .int .i64 tt] 61) := heap_alloc_new w _
  have HC := hid (take_any hb Z mark S mo m mc 59 #[.pointer (some ⟨w.heap.size, 0, none⟩)] (fun s => decide (fr ≤ s) && decide (s ≤ tt)) (w.alloc (.cells #[.slice mo m.length mc, .int .i64 fr, .int .i64 tt] 61)) (hI.below hbel) hG (hM.below hbel) hm (enters_of Tryz.func59 (by kernel_rfl) rfl) (fun W hW s => gone1_any s fr tt _ w.heap.size W ((hW.block w.heap.size (heap_lt hbx)).trans hbx)))
  have HB := hid hbel
  clear hI hG hM hbel hbx
  go_enter Tryz.func22, Tryz.ntmps22
  go_wp2_with fail
  refine HC.out.mono ?_
  intro e w3 hend
  obtain ⟨⟨v3, xs3, rfl, _⟩, _⟩ := id hend
  have HE := hid (TakeEnd.left (ZFr.below HB.out) hend)
  clear hend
  go_wp2_with fail
  go_end0
  exact ⟨rfl, _, HE.out⟩

set_option maxRecDepth 100000 in
set_option maxHeartbeats 1600000 in
/-- Series: all of them, laid anew. -/
theorem series_any (hb : Nat) (Z : Nat → Prop) (mark : Int) (S : List Sr) (w : World) (hI : HdI w hb Z mark S) (hG : HD.Good S) :
    Calls Tryz.prog 24 #[.pointer (some ⟨hb, 0, none⟩)] w fun e w' => ∃ v, e = .returned v ∧ SrOwn w' w.heap.size v S ∧ Below w.heap.size w w' := by
  obtain ⟨⟨v, xs, hX, _⟩, _, _⟩ := hI
  obtain ⟨ao, cap, hva, hSr⟩ := SrRow.of_own hX.srow
  have m0 : w.cell? ⟨hb, 1, none⟩ = some (.slice ao S.length cap) := by rw [← hva]; exact zcell' _ _ _ _ hX.box 1 _ rfl
  have HSr := hid hSr
  have HG := hid hG
  have hfew := hG.few
  clear hX hva hSr hG
  go_enter Tryz.func24, Tryz.ntmps24
  go_wp2_with fail
  go_loopw [3, 13] (fun tv ti wr => ∃ i : Nat, i ≤ S.length ∧ ti = .int .i64 i ∧ SrOwn wr w.heap.size tv (S.take i) ∧ Below w.heap.size w wr) (fun _ ti _ => S.length - (intOf ti).toNat)
  case atStart => exact ⟨0, Nat.zero_le _, rfl, SrOwn.nil _ _, Below.refl _ _⟩
  case round =>
    obtain ⟨i, hi, rfl, hown, hbel⟩ := hrel
    have HO := hid hown
    have HB := hid hbel
    clear hown hbel
    by_cases hlt : i < S.length
    · obtain ⟨b, off, hao, hbs, lo, lc, so, sc, d0, d1, hLR, hSR⟩ := HSr.out i hlt
      subst hao
      have c0 : wr.cell? ⟨b, off + i * 2, none⟩ = some (.slice lo (atSr S i).1.length lc) := (HB.out.cell (p := ⟨b, _, none⟩) hbs).trans d0
      have c1 : wr.cell? ⟨b, off + i * 2 + 1, none⟩ = some (.slice so (atSr S i).2.length sc) := (HB.out.cell (p := ⟨b, _, none⟩) hbs).trans d1
      have hok := HG.out.ok _ (HD.at_mem S i hlt)
      have hln := right_len hok.1
      have hsn := right_le hok.2.1
      have hsp := hok.2.2.1
      have hbelx : Below wr.heap.size wr (wr.alloc (.cells #[.slice lo (atSr S i).1.length lc, .slice so (atSr S i).2.length sc] 55)) := (Below.refl _ wr).alloc (Nat.le_refl _) _
      have HC := hid (copied_any (atSr S i) lo so lc sc _ ((hLR.below HB.out).below hbelx) ((hSR.below HB.out).below hbelx) (by omega) hsp (by omega) (by omega))
      have HBx := hid hbelx
      have hil : 0 ≤ (i : Int) ∧ (i : Int) < (S.length : Int) := by omega
      clear d0 d1 hLR hSR hok hbelx
      go_wp2_with fail
      refine HC.out.mono ?_
      rintro e w2 ⟨vl, vs, rfl, o1, o2, hb2⟩
      have hB2 := bel2 HBx.out hb2
      obtain ⟨al, cl, el⟩ := own_slice o1
      obtain ⟨asm, csm, es⟩ := own_slice o2
      subst el es
      have h2 : SrOwn w2 w.heap.size u3 (S.take i) := HO.out.below hB2
      obtain ⟨xs0, q1, q2, q3⟩ := h2
      have hlt0 : (S.take i).length = i := by rw [List.length_take]; omega
      rw [hlt0] at q2
      obtain ⟨v3, w3, hrun, k1, k2, k3⟩ := app_ser (w2.alloc (.cells #[.slice al (atSr S i).1.length cl, .slice asm (atSr S i).2.length csm] 55)) w.heap.size w2.heap.size u3 (.slice al (atSr S i).1.length cl) (.slice asm (atSr S i).2.length csm) i (flat xs0) (heap_alloc_new w2 _) rfl rfl (q2.alloc _) (by omega) (Nat.le_trans (bel2 HB.out hB2).size (World.grownBy_alloc w2 _ none).size)
      have hsn3 : SrOwn w3 w.heap.size v3 (S.take (i + 1)) := by
        rw [List.take_succ_eq_append_getElem hlt, HD.at_get]
        have hsz : w.heap.size ≤ wr.heap.size := HB.out.size
        have hszx := HBx.out.size
        refine SrOwn.snoc (xs := xs0) q1 (by rw [hlt0]; exact k1) (fun j hj => ⟨kind_grown (q2.alloc _) ((q3 j hj).1.alloc _) (by decide) k2, kind_grown (q2.alloc _) ((q3 j hj).2.alloc _) (by decide) k2⟩) (row_low (kind_grown (q2.alloc _) (o1.alloc _) (by decide) k2) (by omega)) (row_low (kind_grown (q2.alloc _) (o2.alloc _) (by decide) k2) (by omega))
      have HO3 := hid hsn3
      have HB3 := hid (((bel2 HB.out hB2).alloc (bel2 HB.out hB2).size (.cells #[.slice al (atSr S i).1.length cl, .slice asm (atSr S i).2.length csm] 55)).grown k2 (Nat.le_trans (bel2 HB.out hB2).size (World.grownBy_alloc w2 _ none).size) (fun k hk => (q2.lt k hk).1))
      obtain ⟨a3, c3, e3⟩ := own_slice k1
      obtain ⟨a4, c4, e4⟩ := own_slice q2
      clear k1 k2 k3 hsn3 q1 q2 q3 o1 o2 hb2 hB2 hlt0
      subst e3
      rw [e4] at hrun
      subst e4
      go_wp2_with (at_builtin; refine Lib.wpList_append_run _ rfl _ _ _ _ rfl _ _ rfl rfl _ _ hrun ?_)
      go_roundw
      case rel => exact ⟨i + 1, by omega, by go_num, HO3.out, HB3.out⟩
      case measure => simp [intOf]; omega
    · have he : i = S.length := by omega
      subst he
      have h1 := HO.out
      rw [List.take_length] at h1
      have H1 := hid h1
      clear h1
      go_wp2_with fail
      go_ret
      exact ⟨_, rfl, H1.out, HB.out⟩

end Go.Proofs.YtdmnlmohfaafoadGreatDoor

