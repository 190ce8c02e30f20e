/- Append: series come, all or none. -/
import Derived.Test.YtdmnlmohfaafoadGreatDoorPHdCome
import Derived.Test.YtdmnlmohfaafoadGreatDoorPHrReg
namespace Go.Proofs.YtdmnlmohfaafoadGreatDoor
open Go.RowKit

/-- The blocks of a head's samples. -/
def Zs (xs : List (Value × Value)) (S : List Sr) : Nat → Prop := fun j => ∃ k, k < S.length ∧ (atX xs k).2.ownBlock = some j

/-- On the way: the head as it was, the next one, and what is still to come. -/
structure ASt (w wr : World) (nb : Nat) (mark : Int) (S : List Sr) (xs : List (Value × Value)) (l : List Sr) (i : Nat) (Sj : List Sr) (vj : Value) (xsj : List (Value × Value)) : Prop where
  good : HD.Good Sj
  run : HD.run mark S l 0 = HD.run mark Sj (l.drop i) i
  hx : HdX wr nb mark Sj vj xsj
  nbn : w.heap.size ≤ nb
  rown : ∀ g, vj.ownBlock = some g → w.heap.size ≤ g
  smb : ∀ k, k < Sj.length → ∀ g, (atX xsj k).2.ownBlock = some g → Zs xs S g ∨ w.heap.size ≤ g
  fr : ZFr (Zs xs S) w wr
  old : ∀ k, k < S.length → OwnSm wr 0 (atX xs k).2 (atSr S k).2 ∧ Und (atX xs k).2 (atSr S k).2.length xsj Sj

theorem ASt.below {w wr wr' : World} {nb : Nat} {mark : Int} {S : List Sr} {xs : List (Value × Value)} {l : List Sr} {i : Nat} {Sj : List Sr} {vj : Value} {xsj : List (Value × Value)} (h : ASt w wr nb mark S xs l i Sj vj xsj) (k : Below wr.heap.size wr wr') : ASt w wr' nb mark S xs l i Sj vj xsj :=
  ⟨h.good, h.run, h.hx.below k, h.nbn, h.rown, h.smb, h.fr.trans (ZFr.below k), fun j hj => ⟨row_kept (h.old j hj).1 fun g _ hg => k.block g (heap_lt hg), (h.old j hj).2⟩⟩

theorem ASt.step {w wr w' : World} {nb : Nat} {mark : Int} {S : List Sr} {xs : List (Value × Value)} {l : List Sr} {i : Nat} {Sj : List Sr} {vj v' : Value} {xsj xs' : List (Value × Value)} (h : ASt w wr nb mark S xs l i Sj vj xsj) (hi : i < l.length) (he : HD.err mark Sj (atSr l i) = 0) (hR : ∀ s ∈ (atSr l i).2, CL.Rs s)
    (hx : HdX w' nb mark (HD.nxt Sj (atSr l i)) v' xs') (hf : StepFr nb Sj (HD.nxt Sj (atSr l i)) vj v' xsj xs' wr w') : ASt w w' nb mark S xs l (i + 1) (HD.nxt Sj (atSr l i)) v' xs' where
  good := HD.nxt_good h.good he hR
  run := by rw [h.run, HD.run_drop mark Sj l i hi, if_pos he]
  hx := hx
  nbn := h.nbn
  rown g hg := by
    rcases hf.row with e | ⟨g', e, hg'⟩
    · exact h.rown g (by rw [← e]; exact hg)
    · rw [e] at hg; cases hg
      exact Nat.le_trans h.fr.size hg'
  smb k hk g hg := by
    rcases hf.smps k hk with ⟨k', h1, h2⟩ | ⟨g', e, hg'⟩
    · exact h.smb k' h1 g (by rw [← h2]; exact hg)
    · rw [e] at hg; cases hg
      exact .inr (Nat.le_trans h.fr.size hg')
  fr := ⟨hf.os.trans h.fr.os, hf.tape.trans h.fr.tape, hf.output.trans h.fr.output, Nat.le_trans h.fr.size hf.size, fun j hj hn => by
    have hnb := h.nbn
    refine (hf.block j (Nat.lt_of_lt_of_le hj h.fr.size) (by omega) (fun e => by have := h.rown j e; omega) (fun k hk e => ?_)).trans (h.fr.block j hj hn)
    rcases h.smb k hk j e with e2 | e2
    · exact hn e2
    · omega⟩
  old k hk := hf.keeps _ _ _ (h.old k hk).1 (h.old k hk).2

/-- The head as it was is still there. -/
theorem ASt.keep {w wr : World} {hb nb : Nat} {mark : Int} {S : List Sr} {v : Value} {xs : List (Value × Value)} {l : List Sr} {i : Nat} {Sj : List Sr} {vj : Value} {xsj : List (Value × Value)} (h : ASt w wr nb mark S xs l i Sj vj xsj) (h0 : HdX w hb mark S v xs) : HdX wr hb mark S v xs := by
  have key : ∀ {g : Nat} {c : Array Value} {e : TypeId}, w.heap[g]? = some (.cells c e) → e ≠ 52 → wr.heap[g]? = w.heap[g]? := fun {g c e} hg hne => h.fr.block g (heap_lt hg) (fun ⟨k, hk, hz⟩ => own_kind (h0.smps k hk) hg (fun e2 => hne e2.symm) hz)
  exact ⟨(key h0.box (by decide)).trans h0.box, h0.len, row_kept h0.row (fun g c hg => key hg (by decide)), fun k hk => row_kept (h0.labs k hk) (fun g c hg => key hg (by decide)), fun k hk => (h.old k hk).1, h0.apart⟩

/-- What an error is, in a world. -/
def ErrAt (w : World) (c : Int × Int) (ev : Value) : Prop :=
  (c = (0, -1) ∧ ev = .nilIface) ∨ (c = (4, -1) ∧ ev = .iface 24 (.int .i64 4)) ∨
  (0 ≤ c.2 ∧ c.1 ≠ 0 ∧ ∃ p, ev = .iface 89 (.pointer (some ⟨p, 0, none⟩)) ∧ w.heap[p]? = some (.cells #[.int .i64 c.1, .int .i64 c.2] 90))

/-- What Append leaves. -/
def AppEnd (hb : Nat) (Z : Nat → Prop) (mark : Int) (S l : List Sr) (w : World) (e : Ending) (w' : World) : Prop :=
  (∃ ev, e = .returned ev ∧ ErrAt w' (HD.app mark S l).1 ev) ∧ HdI w' hb (wid Z w w') mark (HD.app mark S l).2 ∧ ZFr Z w w'

theorem HdI.stays {w w' : World} {hb : Nat} {Z : Nat → Prop} {mark : Int} {S : List Sr} {v : Value} {xs : List (Value × Value)} (h : HdX w' hb mark S v xs) (hz : ∀ i, i < S.length → ∀ g, (atX xs i).2.ownBlock = some g → Z g) (hb0 : Z hb) (hl : ∀ j, Z j → j < w.heap.size) (hs : w.heap.size ≤ w'.heap.size) : HdI w' hb (wid Z w w') mark S :=
  ⟨⟨v, xs, h, fun i hi g hg => .inl (hz i hi g hg)⟩, .inl hb0, fun j hj => by
    rcases hj with e | e
    · exact Nat.lt_of_lt_of_le (hl j e) hs
    · exact e.2⟩

/-- Refused: nothing has come. -/
theorem ASt.refused {w wr w' : World} {hb nb : Nat} {Z : Nat → Prop} {mark : Int} {S : List Sr} {v : Value} {xs : List (Value × Value)} {l : List Sr} {i : Nat} {Sj : List Sr} {vj : Value} {xsj : List (Value × Value)} (h : ASt w wr nb mark S xs l i Sj vj xsj) (h0 : HdX w hb mark S v xs) (hz : ∀ i, i < S.length → ∀ g, (atX xs i).2.ownBlock = some g → Z g) (hb0 : Z hb) (hl : ∀ j, Z j → j < w.heap.size)
    (hi : i < l.length) (he : HD.err mark Sj (atSr l i) ≠ 0) (ht : ¬ 40 < HD.total l) (hbl : Below wr.heap.size wr w') {p : Nat} (hp : w'.heap[p]? = some (.cells #[.int .i64 (HD.err mark Sj (atSr l i)), .int .i64 i] 90)) :
    AppEnd hb Z mark S l w (.returned (.iface 89 (.pointer (some ⟨p, 0, none⟩)))) w' := by
  have hrun : HD.run mark S l 0 = (some (HD.err mark Sj (atSr l i), i), Sj) := by rw [h.run, HD.run_drop mark Sj l i hi, if_neg he]
  have happ : HD.app mark S l = ((HD.err mark Sj (atSr l i), (i : Int)), S) := by
    unfold HD.app
    rw [if_neg ht, hrun]
  have h2 := h.below hbl
  refine ⟨⟨_, rfl, ?_⟩, ?_, ?_⟩
  · rw [happ]
    exact .inr (.inr ⟨by simp, he, p, rfl, hp⟩)
  · rw [happ]
    exact HdI.stays (h2.keep h0) hz hb0 hl h2.fr.size
  · exact ⟨h2.fr.os, h2.fr.tape, h2.fr.output, h2.fr.size, fun j hj hn => h2.fr.block j hj (fun ⟨k, hk, e⟩ => hn (hz k hk j e))⟩

/-- All came. -/
theorem ASt.came {w wr : World} {hb nb : Nat} {Z : Nat → Prop} {mark : Int} {S : List Sr} {v : Value} {xs : List (Value × Value)} {l : List Sr} {i : Nat} {Sj : List Sr} {vj : Value} {xsj : List (Value × Value)} (h : ASt w wr nb mark S xs l i Sj vj xsj) (h0 : HdX w hb mark S v xs) (hz : ∀ i, i < S.length → ∀ g, (atX xs i).2.ownBlock = some g → Z g) (hb0 : Z hb) (hl : ∀ j, Z j → j < w.heap.size)
    (hi : i = l.length) (ht : ¬ 40 < HD.total l) : AppEnd hb Z mark S l w (.returned .nilIface) (wr.setCell ⟨hb, 1, none⟩ vj) := by
  have hrun : HD.run mark S l 0 = (none, Sj) := by rw [h.run, hi, List.drop_length]; rfl
  have happ : HD.app mark S l = ((0, -1), Sj) := by
    unfold HD.app
    rw [if_neg ht, hrun]
  have hbx : wr.heap[hb]? = some (.cells #[.int .i64 mark, v] 105) := (h.keep h0).box
  have hset : ∀ {e : TypeId} {u : Value} {m : Nat} {ys : List Value}, wr.ownsRow 0 e 2 u m ys → e ≠ 105 → (wr.setCell ⟨hb, 1, none⟩ vj).ownsRow 0 e 2 u m ys := fun hh hne => own_set hh (own_kind hh hbx hne) _ _
  refine ⟨⟨_, rfl, ?_⟩, ?_, ?_⟩
  · rw [happ]; exact .inl ⟨rfl, rfl⟩
  · rw [happ]
    have hx : HdX (wr.setCell ⟨hb, 1, none⟩ vj) hb mark Sj vj xsj := ⟨heap_setCell_same wr hb 1 _ _ vj hbx, h.hx.len, hset h.hx.row (by decide), fun k hk => hset (h.hx.labs k hk) (by decide), fun k hk => hset (h.hx.smps k hk) (by decide), h.hx.apart⟩
    refine ⟨⟨vj, xsj, hx, fun k hk g hg => ?_⟩, .inl hb0, fun j hj => ?_⟩
    · rcases h.smb k hk g hg with ⟨k', hk', e⟩ | e
      · exact .inl (hz k' hk' g e)
      · exact .inr ⟨e, by rw [set_size]; exact ((h.hx.smps k hk).lt g hg).2⟩
    · rcases hj with e | e
      · rw [set_size]; exact Nat.lt_of_lt_of_le (hl j e) h.fr.size
      · exact e.2
  · refine ⟨h.fr.os, h.fr.tape, h.fr.output, by rw [set_size]; exact h.fr.size, fun j hj hn => ?_⟩
    rw [Below.heap_setCell wr ⟨hb, 1, none⟩ vj j (fun e => hn (by rw [e]; exact hb0))]
    exact h.fr.block j hj (fun ⟨k, hk, e⟩ => hn (hz k hk j e))

theorem ld_int (b k : Nat) (n : Int) (w : World) (h : w.cell? ⟨b, k, none⟩ = some (.int .i64 n)) : (Instr.loadAt 2 (.pointer (some ⟨b, k, none⟩))).run Tryz.prog w = .ok (.int .i64 n) w := by
  have hs : (Tryz.prog.info? 2).map (·.size) = some 1 := by kernel_rfl
  go_simp

/-- slices.Clone of a head's row. -/
theorem cloneX_own {w : World} {v : Value} {n : Nat} {xs : List Value} (h : w.ownsRow 0 55 2 v n xs) (h1 : ∀ u ∈ xs, u.oneCell' = true) (hn : n ≤ 1000000) :
    Calls Tryz.prog 47 #[v] w fun en w' => ∃ v', en = .returned v' ∧ w'.ownsRow w.heap.size 55 2 v' n xs ∧ Below w.heap.size w w' := by
  rcases h.2 with ⟨h0, hn0⟩ | ⟨g, cap, cur, h0, _, hc, _⟩
  · subst h0 hn0
    refine (cloneX_none w).mono ?_
    rintro en w' ⟨rfl, rfl⟩
    exact ⟨_, rfl, ⟨h.1, .inl ⟨rfl, rfl⟩⟩, Below.refl _ _⟩
  · have hcl := h.cells (g := g) (by rw [h0]; rfl)
    subst h0
    exact cloneX ⟨g, 0, none⟩ n cap xs w h.1 hcl (heap_lt hc) h1 hn

set_option maxRecDepth 100000 in
set_option maxHeartbeats 3200000 in
theorem happend_any (hb : Nat) (Z : Nat → Prop) (mark : Int) (S l : List Sr) (ao : Option Addr) (cap : Nat) (w : World) (hI : HdI w hb Z mark S) (hG : HD.Good S) (hL : SrOut w Z ao l) (hl : l.length ≤ 1000) (hl1 : ∀ i, i < l.length → (atSr l i).1.length ≤ 1000 ∧ (atSr l i).2.length ≤ 1000) (hR : ∀ i, i < l.length → ∀ s ∈ (atSr l i).2, CL.Rs s) :
    Calls Tryz.prog 14 #[.pointer (some ⟨hb, 0, none⟩), .slice ao l.length cap] w fun e w' => AppEnd hb Z mark S l w e w' := by
  obtain ⟨⟨v, xs, hX, hz⟩, hb0, hlz⟩ := hI
  have HX := hid hX
  have HZ := hid (And.intro hz (And.intro hb0 hlz))
  have HG := hid hG
  have HL := hid hL
  have HL1 := hid hl1
  have HR := hid hR
  have hbw : hb < w.heap.size := heap_lt hX.box
  have hpn : (Value.pointer (some ⟨hb, 0, none⟩) : Value) ≠ .pointer none := by simp
  clear hX hz hb0 hlz hG hL hl1 hR
  go_enter Tryz.func14, Tryz.ntmps14
  go_wp2_with fail
  refine (tooMany_any ao l cap w HL.out.row hl (fun i hi => (HL1.out i hi).2)).mono ?_
  rintro e w1 ⟨rfl, hb1⟩
  have HB1 := hid hb1
  clear hb1
  by_cases ht : 40 < HD.total l
  · have ht' : decide (40 < HD.total l) = true := decide_eq_true ht
    have HT := hid ht
    rw [ht']
    clear ht ht'
    go_wp2_with fail
    go_ret
    have happ : HD.app mark S l = ((4, -1), S) := by unfold HD.app; rw [if_pos HT.out]
    refine ⟨⟨_, rfl, ?_⟩, ?_, ZFr.below HB1.out⟩
    · rw [happ]; exact .inr (.inl ⟨rfl, rfl⟩)
    · rw [happ]
      exact HdI.stays (HX.out.below HB1.out) HZ.out.1 HZ.out.2.1 HZ.out.2.2 HB1.out.size
  · have ht' : decide (40 < HD.total l) = false := decide_eq_false ht
    have HT := hid ht
    rw [ht']
    clear ht ht'
    go_wp2_with fail
    have hX1 := HX.out.below HB1.out
    obtain ⟨ao1, cap1, hva⟩ := own_slice hX1.row
    have HVa := hid hva
    subst hva
    refine wp_region_take (fun W => W.heap[hb]? = some (.cells #[.int .i64 mark, .slice ao1 S.length cap1] 105)) [0, 1, 2, 3, 4, 5, 6, 7] [8, 9, 10, 11] (by kernel_rfl) (by kernel_rfl) ?_
    simp only [List.filterMap_cons, List.filterMap_nil, List.getElem?_toArray, List.getElem?_cons_zero, List.getElem?_cons_succ]
    refine takes.on (v := .pointer (some ⟨hb, 0, none⟩)) (YC.move rfl (by kernel_rfl)) (takes.on (v := .pointer (some ⟨hb, 0, none⟩)) (fun W _ => .inl (by kernel_rfl)) (takes.on (v := .pointer (some ⟨hb, 0, none⟩)) (fun W _ => .inl (by kernel_rfl)) (takes.on (YC.load rfl (by kernel_rfl) fun W hW => ld_int hb 0 mark W (zcell' W hb _ _ hW 0 _ rfl)) (takes.on (v := .pointer (some ⟨hb, 0, none⟩)) (YC.move rfl (by kernel_rfl)) (takes.on (v := .pointer (some ⟨hb, 0, none⟩)) (fun W _ => .inl (by kernel_rfl)) (takes.on (v := .pointer (some ⟨hb, 1, none⟩)) (fun W _ => .inl (by kernel_rfl)) (takes.on (YC.load rfl (by kernel_rfl) fun W hW => ld_series hb 1 ao1 S.length cap1 W (zcell' W hb _ _ hW 1 _ rfl)) ?_)))))))
    refine takes.off (C := fun W => W.heap[hb]? = some (.cells #[.int .i64 mark, .slice ao1 S.length cap1] 105)) hX1.box ?_
    go_frame
    go_wp2_with fail
    refine (cloneX_own (w := w1.drew) (own_heap hX1.row rfl) hX1.one (by have := HG.out.few; omega)).mono ?_
    rintro en w2 ⟨v2, rfl, ho2, hb2⟩
    have hbx2 := (hb2.block hb (heap_lt hX1.box)).trans hX1.box
    obtain ⟨ao2, cap2, e2⟩ := own_slice ho2
    subst e2
    have HO2 := hid ho2
    have HB2 := hid (bel2 HB1.out.drew hb2)
    clear hb2 ho2 hX1
    go_wp2_with fail
    refine SeqQ.on (C := fun W => W.heap[hb]? = some (.cells #[.int .i64 mark, .slice ao1 S.length cap1] 105)) hbx2 ?_
    go_wp2_with fail
    refine SeqQ.on (C := fun W => W.heap[hb]? = some (.cells #[.int .i64 mark, .slice ao1 S.length cap1] 105)) hbx2 ?_
    go_wp2_with fail
    have hbx3 := (Below.heap_alloc w2 (.cells #[.int .i64 mark, .slice ao2 S.length cap2] 105) hb (heap_lt hbx2)).trans hbx2
    refine SeqQ.on (C := fun W => W.heap[hb]? = some (.cells #[.int .i64 mark, .slice ao1 S.length cap1] 105)) hbx3 ?_
    go_wp2_with fail
    refine SeqQ.done (C := fun W => W.heap[hb]? = some (.cells #[.int .i64 mark, .slice ao1 S.length cap1] 105)) hbx3 ?_
    have hst : ASt w (w2.alloc (.cells #[.int .i64 mark, .slice ao2 S.length cap2] 105)) w2.heap.size mark S xs l 0 S (.slice ao2 S.length cap2) xs := by
      have hB3 : Below w.heap.size w (w2.alloc (.cells #[.int .i64 mark, .slice ao2 S.length cap2] 105)) := HB2.out.alloc HB2.out.size _
      have h3 := HX.out.below hB3
      refine ⟨HG.out, rfl, ⟨heap_alloc_new w2 _, h3.len, row_low (HO2.out.alloc _) (Nat.zero_le _), h3.labs, h3.smps, h3.apart⟩, HB2.out.size, fun g hg => ?_, fun k hk g hg => .inl ⟨k, hk, hg⟩, ZFr.below hB3, fun k hk => ⟨h3.smps k hk, fun i hi g h1 h2 => ?_⟩⟩
      · exact Nat.le_trans HB1.out.size (HO2.out.lt g hg).1
      · by_cases e : i = k
        · rw [e]; exact Nat.le_refl _
        · exact absurd (h2.trans h1.symm) (h3.apart i k hi hk e)
    clear hbx2 hbx3 HO2
    generalize hw3 : w2.alloc (.cells #[.int .i64 mark, .slice ao2 S.length cap2] 105) = w3 at *
    generalize hnb : w2.heap.size = nb at *
    have HS3 := hid hst
    clear hst hw3 hnb
    go_wp2_with fail
    go_loopw [28] (fun ti wr => ∃ (i : Nat) (Sj : List Sr) (vj : Value) (xsj : List (Value × Value)), i ≤ l.length ∧ ti = .int .i64 i ∧ ASt w wr nb mark S xs l i Sj vj xsj) (fun ti _ => l.length - (intOf ti).toNat)
    case atStart => exact ⟨0, S, _, xs, Nat.zero_le _, rfl, HS3.out⟩
    case round =>
      obtain ⟨i, Sj, vj, xsj, hi, rfl, hst⟩ := hrel
      have HSt := hid hst
      clear hst HS3
      by_cases hlt : i < l.length
      · have hzl : ∀ j, Zs xs S j → Z j := fun j ⟨k, hk, e⟩ => HZ.out.1 k hk j e
        have hfrZ : ZFr Z w wr := ⟨HSt.out.fr.os, HSt.out.fr.tape, HSt.out.fr.output, HSt.out.fr.size, fun j hj hn => HSt.out.fr.block j hj (fun e => hn (hzl j e))⟩
        obtain ⟨b, off, hao, hbs, _, lo, lc, so, sc, hc0, hc1, hLo, hSo⟩ := HL.out.kept hfrZ i hlt
        subst hao
        obtain ⟨hq1, hq2⟩ := HL1.out i hlt
        have hRi := HR.out i hlt
        have hbelx : Below wr.heap.size wr (wr.alloc (.cells #[.slice lo (atSr l i).1.length lc, .slice so (atSr l i).2.length sc] 55)) := (Below.refl _ wr).alloc (Nat.le_refl _) _
        have HC := hid (come_any nb mark Sj vj xsj (atSr l i) lo so lc sc _ (HSt.out.hx.below hbelx) HSt.out.good (hLo.1.below hbelx) (hSo.1.below hbelx) hRi hq1 hq2)
        have HSt1 := hid (HSt.out.below hbelx)
        have HBl := hid hbelx
        have hil : 0 ≤ (i : Int) ∧ (i : Int) < (l.length : Int) := by omega
        clear hLo hSo hfrZ hzl hbelx
        generalize hln : (atSr l i).1.length = ln at *
        generalize hsn : (atSr l i).2.length = sn at *
        have HRi := hid hRi
        clear hRi hln hsn
        by_cases he : HD.err mark Sj (atSr l i) = 0
        · have HEr := hid he
          clear he
          go_wp2_with fail
          refine HC.out.mono ?_
          intro en w4 hend
          unfold ComeEnd at hend
          rw [if_pos HEr.out] at hend
          obtain ⟨rfl, v4, xs4, hx4, hf4⟩ := hend
          have HSt4 := hid (HSt1.out.step hlt HEr.out HRi.out hx4 hf4)
          clear hx4 hf4 HC
          go_wp2_with fail
          go_roundw
          case rel => exact ⟨i + 1, _, v4, xs4, by omega, by go_num, HSt4.out⟩
          case measure => simp [intOf]; omega
        · generalize hev : HD.err mark Sj (atSr l i) = ev at *
          have HEv := hid hev
          have hne : (ev == 0) = false := by simpa using he
          clear hev
          go_wp2_with fail
          refine HC.out.mono ?_
          intro en w4 hend
          unfold ComeEnd at hend
          rw [HEv.out, if_neg he] at hend
          obtain ⟨rfl, hb4⟩ := hend
          have HB4 := hid hb4
          clear hb4 HC
          go_wp2_with fail
          go_ret
          have h5 := (bel2 HBl.out HB4.out).alloc (o := .cells #[.int .i64 ev, .int .i64 i] 90) (Nat.le_trans HBl.out.size HB4.out.size)
          exact HSt.out.refused HX.out HZ.out.1 HZ.out.2.1 HZ.out.2.2 hlt (by rw [HEv.out]; exact he) HT.out h5 (by rw [HEv.out]; exact heap_alloc_new w4 _)
      · have he : i = l.length := by omega
        have HE := hid he
        have hbx := (HSt.out.keep HX.out).box
        have hnx := HSt.out.hx.box
        obtain ⟨aoj, capj, ej⟩ := own_slice HSt.out.hx.row
        subst ej
        have n1 : wr.cell? ⟨nb, 1, none⟩ = some (.slice aoj Sj.length capj) := zcell' _ _ _ _ hnx 1 _ rfl
        have n2 : wr.cell? ⟨hb, 1, none⟩ = some (.slice ao1 S.length cap1) := zcell' _ _ _ _ hbx 1 _ rfl
        have n3 : wr.frozen? ⟨hb, 1, none⟩ = false := hfz hbx 1
        clear hbx hnx
        go_wp2_with fail
        go_ret
        exact HSt.out.came HX.out HZ.out.1 HZ.out.2.1 HZ.out.2.2 HE.out HT.out

end Go.Proofs.YtdmnlmohfaafoadGreatDoor

