/- take: the samples that go are taken out of a head, and told; Cut and Gone. -/
import Derived.Test.YtdmnlmohfaafoadGreatDoorPHdBeh
import Derived.Test.YtdmnlmohfaafoadGreatDoorPHdApp
import Derived.Test.YtdmnlmohfaafoadGreatDoorPHxAsk
namespace Go.Proofs.YtdmnlmohfaafoadGreatDoor
open Go.RowKit

/-- Two rows of series that are being made: what stays, and what is told. -/
structure TB (w W : World) (xs : List (Value × Value)) (S : List Sr) (i : Nat) (vs : Value) (xsS : List (Value × Value)) (LS : List Sr) (vt : Value) (xsT : List (Value × Value)) (LT : List Sr) : Prop where
  stay : SB W w.heap.size vs xsS LS
  told : SB W w.heap.size vt xsT LT
  two : vs.ownBlock = none ∨ vs.ownBlock ≠ vt.ownBlock
  apart : ∀ a b, a < LS.length → b < LS.length → a ≠ b → (atX xsS a).2.ownBlock ≠ (atX xsS b).2.ownBlock
  src : ∀ k, k < LS.length → (∃ k', k' < i ∧ k' < S.length ∧ (atX xsS k).2.ownBlock = (atX xs k').2.ownBlock) ∨ ∃ g, (atX xsS k).2.ownBlock = some g ∧ w.heap.size ≤ g
  bel : Below w.heap.size w W

section
variable {w W W' : World} {xs : List (Value × Value)} {S : List Sr} {i : Nat} {vs : Value} {xsS : List (Value × Value)} {LS : List Sr} {vt : Value} {xsT : List (Value × Value)} {LT : List Sr}

theorem TB.below (h : TB w W xs S i vs xsS LS vt xsT LT) (k : Below W.heap.size W W') : TB w W' xs S i vs xsS LS vt xsT LT :=
  ⟨h.stay.below k, h.told.below k, h.two, h.apart, h.src, bel2 h.bel k⟩

theorem TB.next (h : TB w W xs S i vs xsS LS vt xsT LT) : TB w W xs S (i + 1) vs xsS LS vt xsT LT :=
  ⟨h.stay, h.told, h.two, h.apart, fun k hk => (h.src k hk).imp (fun ⟨k', h1, h2⟩ => ⟨k', by omega, h2⟩) id, h.bel⟩

theorem TB.pushT (h : TB w W xs S i vs xsS LS vt xsT LT) {v' a b : Value} {x : Sr} (ha : OwnLb W 0 a x.1) (hb : OwnSm W 0 b x.2) (hr : W'.ownsRow w.heap.size 55 2 v' (LT.length + 1) (flat xsT ++ [a, b])) (k : W.grownBy W' vt.ownBlock) (hv : v'.ownBlock = vt.ownBlock ∨ v'.ownBlock = some W.heap.size) : TB w W' xs S i vs xsS LS v' (xsT ++ [(a, b)]) (LT ++ [x]) := by
  refine ⟨h.stay.other h.told.row h.two k, h.told.push ha hb hr k, ?_, h.apart, h.src, h.bel.grown k h.bel.size (fun j hj => (h.told.row.lt j hj).1)⟩
  rcases hv with e | e
  · rw [e]; exact h.two
  · rcases hs : vs.ownBlock with _ | g
    · exact .inl rfl
    · right
      rw [e]
      intro e2
      have := (h.stay.row.lt _ (hs.trans e2)).2
      omega

theorem TB.pushS (h : TB w W xs S i vs xsS LS vt xsT LT) {v' a b : Value} {x : Sr} (ha : OwnLb W 0 a x.1) (hb : OwnSm W 0 b x.2) (hr : W'.ownsRow w.heap.size 55 2 v' (LS.length + 1) (flat xsS ++ [a, b])) (k : W.grownBy W' vs.ownBlock) (hv : v'.ownBlock = vs.ownBlock ∨ v'.ownBlock = some W.heap.size)
    (hap : ∀ c, c < LS.length → (atX xsS c).2.ownBlock ≠ b.ownBlock) (hsrc : (i < S.length ∧ b.ownBlock = (atX xs i).2.ownBlock) ∨ ∃ g, b.ownBlock = some g ∧ w.heap.size ≤ g) : TB w W' xs S (i + 1) v' (xsS ++ [(a, b)]) (LS ++ [x]) vt xsT LT := by
  have htw : vt.ownBlock = none ∨ vt.ownBlock ≠ vs.ownBlock := by
    rcases h.two with e | e
    · rcases ht : vt.ownBlock with _ | g
      · exact .inl rfl
      · rw [e]; exact .inr (by simp)
    · exact .inr (fun e2 => e e2.symm)
  refine ⟨h.stay.push ha hb hr k, h.told.other h.stay.row htw k, ?_, fun c d hc hd hcd => ?_, fun c hc => ?_, h.bel.grown k h.bel.size (fun j hj => (h.stay.row.lt j hj).1)⟩
  · rcases hv with e | e
    · rw [e]; exact h.two
    · right
      rw [e]
      intro e2
      have := (h.told.row.lt _ e2.symm).2
      omega
  · rw [List.length_append] at hc hd
    simp only [List.length_cons, List.length_nil] at hc hd
    rw [atX_snoc, atX_snoc, h.stay.len]
    by_cases h1 : c < LS.length
    · rw [if_pos h1]
      by_cases h2 : d < LS.length
      · rw [if_pos h2]; exact h.apart c d h1 h2 hcd
      · rw [if_neg h2, if_pos (by omega)]; exact hap c h1
    · rw [if_neg h1, if_pos (by omega)]
      rw [if_pos (show d < LS.length by omega)]
      exact fun e => hap d (by omega) e.symm
  · rw [List.length_append] at hc
    simp only [List.length_cons, List.length_nil] at hc
    rw [atX_snoc, h.stay.len]
    by_cases h1 : c < LS.length
    · rw [if_pos h1]
      exact (h.src c h1).imp (fun ⟨k', h1, h2⟩ => ⟨k', by omega, h2⟩) id
    · rw [if_neg h1, if_pos (by omega)]
      rcases hsrc with ⟨e1, e2⟩ | e
      · exact .inl ⟨i, by omega, e1, e2⟩
      · exact .inr e

/-- A block that was not there is none of theirs. -/
theorem TB.new (h : TB w W xs S i vs xsS LS vt xsT LT) {g : Nat} (hg : W.heap.size ≤ g) : ∀ c, c < LS.length → (atX xsS c).2.ownBlock ≠ some g := fun c hc e => by
  have := ((h.stay.smps c hc).lt g e).2
  omega

end

theorem kp_yes {p : List LB.Lab → Int → Bool} {S : List Sr} {i : Nat} (h : i < S.length) {ys : List CL.Smp} (hy : (atSr S i).2.filter (fun s => p (atSr S i).1 s.1) = ys) (hn : 0 < ys.length) : HD.kp p (S.take (i + 1)) = HD.kp p (S.take i) ++ [((atSr S i).1, ys)] := by
  rw [HD.kp_snoc p S i h]
  have : HD.keepS p (atSr S i) = ((atSr S i).1, ys) := by unfold HD.keepS; rw [hy]
  rw [this, if_pos hn]

theorem kp_no {p : List LB.Lab → Int → Bool} {S : List Sr} {i : Nat} (h : i < S.length) {ys : List CL.Smp} (hy : (atSr S i).2.filter (fun s => p (atSr S i).1 s.1) = ys) (hn : ¬ 0 < ys.length) : HD.kp p (S.take (i + 1)) = HD.kp p (S.take i) := by
  rw [HD.kp_snoc p S i h]
  have : HD.keepS p (atSr S i) = ((atSr S i).1, ys) := by unfold HD.keepS; rw [hy]
  rw [this, if_neg hn, List.append_nil]

theorem kp_take_len (p : List LB.Lab → Int → Bool) (S : List Sr) (i : Nat) (h : S.length ≤ 60) : (HD.kp p (S.take i)).length ≤ 60 := by
  unfold HD.kp
  refine Nat.le_trans (List.length_filter_le _ _) ?_
  rw [List.length_map, List.length_take]
  omega

theorem TB.behT {w W W' : World} {xs : List (Value × Value)} {S : List Sr} {i j : Nat} {vs : Value} {xsS : List (Value × Value)} {LS : List Sr} {vt : Value} {xsT : List (Value × Value)} {p : List LB.Lab → Int → Bool} {b : Value} {e : Ending} {v' : Value} (h : TB w W xs S i vs xsS LS vt xsT (HD.kp p (S.take j))) (hj : j < S.length) {ys : List CL.Smp} (hy : (atSr S j).2.filter (fun s => p (atSr S j).1 s.1) = ys) (hb : OwnSm W 0 b ys) (hend : BehAny w.heap.size (HD.kp p (S.take j)).length vt b (flat xsT) (atSr S j).1 ys.length W e W') (he : e = .returned v') :
    (∃ xsT', TB w W' xs S i vs xsS LS v' xsT' (HD.kp p (S.take (j + 1)))) ∧ (∀ {e : TypeId} {u : Value} {base m : Nat} {zs : List Value}, W.ownsRow base e 2 u m zs → e ≠ 55 → W'.ownsRow base e 2 u m zs) ∧ W.heap.size ≤ W'.heap.size ∧ (∀ k, k < W.heap.size → vt.ownBlock ≠ some k → W'.heap[k]? = W.heap[k]?) := by
  obtain ⟨v2, e2, hend⟩ := hend
  rw [he] at e2
  cases e2
  rcases hend with ⟨h0, rfl, rfl⟩ | ⟨h0, a, W2, k1, k2, k3, k4, k5⟩
  · exact ⟨⟨xsT, by rw [kp_no hj hy (by omega)]; exact h⟩, fun hu _ => hu, Nat.le_refl _, fun _ _ _ => rfl⟩
  · have hb2 := h.below k1
    refine ⟨⟨xsT ++ [(a, b)], ?_⟩, fun hu hne => kind_grown hb2.told.row (row_kept hu fun g _ hg => k1.block g (heap_lt hg)) hne k4, Nat.le_trans k1.size k4.size, fun k hk hne => (k4.block k (Nat.lt_of_lt_of_le hk k1.size) (fun e => hne e.symm)).trans (k1.block k hk)⟩
    rw [kp_yes hj hy h0]
    exact hb2.pushT (x := ((atSr S j).1, ys)) (row_low k2 (Nat.zero_le _)) (row_kept hb fun g _ hg => k1.block g (heap_lt hg)) k3 k4 k5

theorem TB.behS {w W W' : World} {xs : List (Value × Value)} {S : List Sr} {i : Nat} {vs : Value} {xsS : List (Value × Value)} {LT : List Sr} {vt : Value} {xsT : List (Value × Value)} {p : List LB.Lab → Int → Bool} {b : Value} {e : Ending} {v' : Value} (h : TB w W xs S i vs xsS (HD.kp p (S.take i)) vt xsT LT) (hj : i < S.length) {ys : List CL.Smp} (hy : (atSr S i).2.filter (fun s => p (atSr S i).1 s.1) = ys) (hb : OwnSm W 0 b ys) (hend : BehAny w.heap.size (HD.kp p (S.take i)).length vs b (flat xsS) (atSr S i).1 ys.length W e W') (he : e = .returned v')
    (hap : ∀ c, c < (HD.kp p (S.take i)).length → ∀ g, b.ownBlock = some g → (atX xsS c).2.ownBlock ≠ some g) (hsrc : b.ownBlock = none ∨ ∃ g, b.ownBlock = some g ∧ w.heap.size ≤ g) :
    ∃ xsS', TB w W' xs S (i + 1) v' xsS' (HD.kp p (S.take (i + 1))) vt xsT LT := by
  obtain ⟨v2, e2, hend⟩ := hend
  rw [he] at e2
  cases e2
  rcases hend with ⟨h0, rfl, rfl⟩ | ⟨h0, a, W2, k1, k2, k3, k4, k5⟩
  · exact ⟨xsS, by rw [kp_no hj hy (by omega)]; exact h.next⟩
  · have hb2 := h.below k1
    refine ⟨xsS ++ [(a, b)], ?_⟩
    rw [kp_yes hj hy h0]
    obtain ⟨g, _, _, _, e3, _⟩ := own_block hb h0
    refine hb2.pushS (x := ((atSr S i).1, ys)) (row_low k2 (Nat.zero_le _)) (row_kept hb fun g _ hg => k1.block g (heap_lt hg)) k3 k4 k5 (fun c hc => by rw [e3]; exact hap c hc g e3) ?_
    rcases hsrc with e | e
    · rw [e] at e3; cases e3
    · exact .inr e

/-- What goes: of series that all matchers hold of, at such times. -/
abbrev goP (m : List LB.Mat) (q : Int → Bool) : List LB.Lab → Int → Bool := fun L t => LB.all L m && q t
abbrev noP (m : List LB.Mat) (q : Int → Bool) : List LB.Lab → Int → Bool := fun L t => !(LB.all L m && q t)

/-- What take leaves. -/
def TakeEnd (hb : Nat) (Z : Nat → Prop) (mark : Int) (S : List Sr) (p : List LB.Lab → Int → Bool) (w : World) (e : Ending) (w' : World) : Prop :=
  (∃ v xs, e = .returned v ∧ SB w' 0 v xs (HD.kp p S)) ∧ HdI w' hb (wid Z w w') mark (HD.kp (fun L t => !p L t) S) ∧ ZFr Z w w'

theorem TB.fin {w wr : World} {hb : Nat} {Z : Nat → Prop} {mark : Int} {xs : List (Value × Value)} {S : List Sr} {v vs : Value} {xsS : List (Value × Value)} {vt : Value} {xsT : List (Value × Value)} {p : List LB.Lab → Int → Bool} (h : TB w wr xs S S.length vs xsS (HD.kp (fun L t => !p L t) S) vt xsT (HD.kp p S)) (h0 : HdX w hb mark S v xs)
    (hz : ∀ i, i < S.length → ∀ g, (atX xs i).2.ownBlock = some g → Z g) (hb0 : Z hb) (hl : ∀ j, Z j → j < w.heap.size) : TakeEnd hb Z mark S p w (.returned vt) (wr.setCell ⟨hb, 1, none⟩ vs) := by
  have hbx : wr.heap[hb]? = some (.cells #[.int .i64 mark, v] 105) := (h0.below h.bel).box
  have hset : ∀ {base : Nat} {e : TypeId} {u : Value} {m : Nat} {ys : List Value}, wr.ownsRow base e 2 u m ys → e ≠ 105 → (wr.setCell ⟨hb, 1, none⟩ vs).ownsRow base e 2 u m ys := fun hh hne => own_set hh (own_kind hh hbx hne) _ _
  refine ⟨⟨vt, xsT, rfl, ⟨h.told.len, row_low (hset h.told.row (by decide)) (Nat.zero_le _), fun i hi => hset (h.told.labs i hi) (by decide), fun i hi => hset (h.told.smps i hi) (by decide)⟩⟩, ⟨⟨vs, xsS, ⟨heap_setCell_same wr hb 1 _ _ vs hbx, h.stay.len, row_low (hset h.stay.row (by decide)) (Nat.zero_le _), fun i hi => hset (h.stay.labs i hi) (by decide), fun i hi => hset (h.stay.smps i hi) (by decide), h.apart⟩, fun i hi g hg => ?_⟩, .inl hb0, fun j hj => ?_⟩, ⟨h.bel.os, h.bel.tape, h.bel.output, by rw [set_size]; exact h.bel.size, fun j hj hn => ?_⟩⟩
  · rcases h.src i hi with ⟨k', _, h2, h3⟩ | ⟨g', h2, h3⟩
    · exact .inl (hz k' h2 g (by rw [← h3]; exact hg))
    · rw [h2] at hg; cases hg
      exact .inr ⟨h3, by rw [set_size]; exact ((h.stay.smps i hi).lt g h2).2⟩
  · rcases hj with e | e
    · rw [set_size]; exact Nat.lt_of_lt_of_le (hl j e) h.bel.size
    · exact e.2
  · rw [Below.heap_setCell wr ⟨hb, 1, none⟩ vs j (fun e => hn (by rw [e]; exact hb0))]
    exact h.bel.block j hj

set_option maxRecDepth 100000 in
set_option maxHeartbeats 3200000 in
theorem take_any (hb : Nat) (Z : Nat → Prop) (mark : Int) (S : List Sr) (mo : Option Addr) (m : List LB.Mat) (mc g : Nat) (lb : Array Value) (q : Int → Bool) (w : World) (hI : HdI w hb Z mark S) (hG : HD.Good S) (hM : MRow w mo m) (hm : m.length ≤ 1000) (eg : ∀ args w, (callFunc g args).run Tryz.prog w = .ok (.enter g args) w)
    (hcall : ∀ W, Below w.heap.size w W → ∀ t, Calls Tryz.prog g (#[.int .i64 t] ++ lb) W fun e w' => e = .returned (.bool (q t)) ∧ Below W.heap.size W w') :
    Calls Tryz.prog 55 #[.pointer (some ⟨hb, 0, none⟩), .slice mo m.length mc, .func (.func g) #[] lb] w fun e w' => TakeEnd hb Z mark S (goP m q) w e w' := by
  obtain ⟨⟨v, xs, hX, hz⟩, hb0, hlz⟩ := hI
  have HX := hid hX
  have HZ := hid (And.intro hz (And.intro hb0 hlz))
  have HG := hid hG
  have HM := hid hM
  have HC := hid hcall
  obtain ⟨ao, cap, hva, hSr⟩ := SrRow.of_own hX.srow
  have m0 : w.cell? ⟨hb, 1, none⟩ = some (.slice ao S.length cap) := by rw [← hva]; exact zcell' _ _ _ _ hX.box 1 _ rfl
  have HVa := hid hva
  have hfew := hG.few
  clear hX hz hb0 hlz hG hM hcall hva hSr
  go_enter Tryz.func55, Tryz.ntmps55
  go_wp2_with fail
  go_loopw [7, 8, 18] (fun ts tt ti wr => ∃ (i : Nat) (xsS xsT : List (Value × Value)), i ≤ S.length ∧ ti = .int .i64 i ∧ TB w wr xs S i ts xsS (HD.kp (noP m q) (S.take i)) tt xsT (HD.kp (goP m q) (S.take i))) (fun _ _ ti _ => S.length - (intOf ti).toNat)
  case atStart => exact ⟨0, [], [], Nat.zero_le _, rfl, ⟨SB.nil _ _, SB.nil _ _, .inl rfl, fun a b ha => by simp [HD.kp] at ha, fun a ha => by simp [HD.kp] at ha, Below.refl _ _⟩⟩
  case round =>
    obtain ⟨i, xsS, xsT, hi, rfl, htb⟩ := hrel
    have HTB := hid htb
    clear htb
    by_cases hlt : i < S.length
    · obtain ⟨gr, capr, hvr, hgr, hcl⟩ := (HX.out.below HTB.out.bel).cells (by omega)
      have hea := HVa.out
      rw [hvr] at hea
      simp only [Value.slice.injEq, true_and] at hea
      obtain ⟨rfl, rfl⟩ := hea
      obtain ⟨c0, c1⟩ := hcl i hlt
      have hlab : OwnLb wr 0 (atX xs i).1 (atSr S i).1 := (HX.out.below HTB.out.bel).labs i hlt
      have hsmp : OwnSm wr 0 (atX xs i).2 (atSr S i).2 := (HX.out.below HTB.out.bel).smps i hlt
      obtain ⟨lo, lc, el, hLR⟩ := LRow.of_own hlab
      obtain ⟨so, sc, es, hSR⟩ := SRow.of_own hsmp
      rw [el] at c0
      rw [es] at c1
      have hok := HG.out.ok _ (HD.at_mem S i hlt)
      have hln := right_len hok.1
      have hsn := right_le hok.2.1
      have hsp := hok.2.2.1
      have HEl := hid el
      have HEs := hid es
      have HLab := hid hlab
      have HSmp := hid hsmp
      have hbelx : Below wr.heap.size wr (wr.alloc (.cells #[.slice lo (atSr S i).1.length lc, .slice so (atSr S i).2.length sc] 55)) := (Below.refl _ wr).alloc (Nat.le_refl _) _
      have hbx : (wr.alloc (.cells #[.slice lo (atSr S i).1.length lc, .slice so (atSr S i).2.length sc] 55)).heap[wr.heap.size]? = some (.cells #[.slice lo (atSr S i).1.length lc, .slice so (atSr S i).2.length sc] 55) := heap_alloc_new wr _
      have HAll := hid (all_any lo mo (atSr S i).1 m lc mc (wr.alloc (.cells #[.slice lo (atSr S i).1.length lc, .slice so (atSr S i).2.length sc] 55)) (hLR.below hbelx) ((HM.out.below HTB.out.bel).below hbelx) (by omega) hm)
      have HBx := hid hbx
      have HBlx := hid hbelx
      have HLR := hid hLR
      have HSR := hid hSR
      have hil : 0 ≤ (i : Int) ∧ (i : Int) < (S.length : Int) := by omega
      clear hlab hsmp hLR hSR el es hbelx hbx hok hvr hcl
      go_wp2_with fail
      refine HAll.out.mono ?_
      rintro e w2 ⟨rfl, hb2⟩
      have HB2 := hid (bel2 HBlx.out hb2)
      have hbx2 := (hb2.block wr.heap.size (heap_lt HBx.out)).trans HBx.out
      have d0 : w2.cell? ⟨wr.heap.size, 0, none⟩ = some (.slice lo (atSr S i).1.length lc) := zcell' _ _ _ _ hbx2 0 _ rfl
      have d1 : w2.cell? ⟨wr.heap.size, 1, none⟩ = some (.slice so (atSr S i).2.length sc) := zcell' _ _ _ _ hbx2 1 _ rfl
      have HTB2 := hid (HTB.out.below HB2.out)
      have HBx2 := hid hbx2
      clear hb2 HAll HBlx hbx2
      rcases hal : LB.all (atSr S i).1 m with _ | _
      · have HAl := hid hal
        clear hal
        obtain ⟨v3, w3, hrun, k1, k2, k3⟩ := app_ser (w2.alloc (.cells #[.slice lo (atSr S i).1.length lc, .slice so (atSr S i).2.length sc] 55)) w.heap.size w2.heap.size u7 (.slice lo (atSr S i).1.length lc) (.slice so (atSr S i).2.length sc) _ _ (heap_alloc_new w2 _) rfl rfl (HTB2.out.stay.row.alloc _) (by have := kp_take_len (noP m q) S i hfew; omega) (Nat.le_trans HTB2.out.bel.size (World.grownBy_alloc w2 _ none).size)
        have h3 := HTB2.out.below ((Below.refl _ w2).alloc (Nat.le_refl _) (.cells #[.slice lo (atSr S i).1.length lc, .slice so (atSr S i).2.length sc] 55))
        have hlab3 := row_kept (row_kept HLab.out fun g _ hg => HB2.out.block g (heap_lt hg)) fun g _ hg => Below.heap_alloc w2 (.cells #[.slice lo (atSr S i).1.length lc, .slice so (atSr S i).2.length sc] 55) g (heap_lt hg)
        have hsmp3 := row_kept (row_kept HSmp.out fun g _ hg => HB2.out.block g (heap_lt hg)) fun g _ hg => Below.heap_alloc w2 (.cells #[.slice lo (atSr S i).1.length lc, .slice so (atSr S i).2.length sc] 55) g (heap_lt hg)
        rw [HEl.out] at hlab3
        rw [HEs.out] at hsmp3
        have h4 := h3.pushS (x := atSr S i) hlab3 hsmp3 k1 k2 k3 (fun c hc e => ?apc) (.inl ⟨hlt, by rw [HEs.out]⟩)
        case apc =>
          rw [← HEs.out] at e
          rcases h3.src c hc with ⟨k', h5, h6, h7⟩ | ⟨g', h5, h6⟩
          · exact HX.out.apart k' i h6 hlt (by omega) (by rw [← h7, e])
          · rw [h5] at e
            have := ((HX.out.smps i hlt).lt g' e.symm).2
            omega
        have f1 : HD.kp (noP m q) (S.take (i + 1)) = HD.kp (noP m q) (S.take i) ++ [atSr S i] := by
          refine kp_yes hlt (ys := (atSr S i).2) ?_ hsp
          refine List.filter_eq_self.2 fun s _ => ?_
          show (!(LB.all (atSr S i).1 m && q s.1)) = true
          rw [HAl.out]; rfl
        have f2 : HD.kp (goP m q) (S.take (i + 1)) = HD.kp (goP m q) (S.take i) := by
          refine kp_no hlt (ys := []) ?_ (by simp)
          refine List.filter_eq_nil_iff.2 fun s _ => ?_
          show ¬ (LB.all (atSr S i).1 m && q s.1) = true
          rw [HAl.out]; simp
        have H4 := hid h4
        have HF := hid (And.intro f1 f2)
        obtain ⟨a3, c3, e3⟩ := own_slice k1
        obtain ⟨a7, c7, e7⟩ := own_slice HTB2.out.stay.row
        clear k1 k2 k3 h3 hlab3 hsmp3 h4 f1 f2
        subst e3
        rw [e7] at hrun
        subst e7
        go_wp2_with (at_builtin; refine Lib.wpList_append_run _ rfl _ _ _ _ rfl _ _ rfl rfl _ _ hrun ?_)
        go_roundw
        case rel => exact ⟨i + 1, _, _, by omega, by go_num, by rw [HF.out.1, HF.out.2]; exact H4.out⟩
        case measure => simp [intOf]; omega
      · have HAl := hid hal
        clear hal
        have HP := hid (parted_any so (atSr S i).2 sc g lb q w2 (HSR.out.below HB2.out) (by omega) eg (fun W hW t => HC.out W (bel2 HTB2.out.bel hW) t))
        go_wp2_with fail
        refine HP.out.mono ?_
        rintro e w3 ⟨vo, vl, rfl, htwo⟩
        have HTw := hid htwo
        have HTB3 := hid (HTB2.out.below htwo.bel)
        have hbx3 := (htwo.bel.block wr.heap.size (heap_lt HBx2.out)).trans HBx2.out
        have y0 : w3.cell? ⟨wr.heap.size, 0, none⟩ = some (.slice lo (atSr S i).1.length lc) := zcell' _ _ _ _ hbx3 0 _ rfl
        have HBx3 := hid hbx3
        have hL3 : LRow w3 lo (atSr S i).1 := (HLR.out.below HB2.out).below htwo.bel
        have HBh := hid (behind_any w.heap.size (HD.kp (goP m q) (S.take i)).length u8 vo (flat xsT) lo (atSr S i).1 lc _ w3 HTB3.out.told.row hL3 (by omega) (by omega) (row_low htwo.out (Nat.zero_le _)) (by have := kp_take_len (goP m q) S i hfew; omega) HTB3.out.bel.size)
        have HL3 := hid hL3
        clear htwo hbx3 HP hL3
        go_wp2_with fail
        refine HBh.out.mono ?_
        intro e w4 hend
        obtain ⟨v4, rfl, hend2⟩ := id hend
        obtain ⟨⟨xsT4, h4⟩, hkind, hs4, hblk⟩ := HTB3.out.behT hlt (ys := (atSr S i).2.filter fun s => q s.1) (by
          congr 1
          funext s
          show (LB.all (atSr S i).1 m && q s.1) = q s.1
          rw [HAl.out]; rfl) (row_low HTw.out.out (Nat.zero_le _)) hend rfl
        have HTB4 := hid h4
        have hvl4 : OwnSm w4 w2.heap.size vl ((atSr S i).2.filter fun s => !q s.1) := hkind HTw.out.left (by decide)
        have hbx4 := (hblk wr.heap.size (heap_lt HBx3.out) (fun e => by have := (HTB.out.told.row.lt _ e).2; omega)).trans HBx3.out
        have z0 : w4.cell? ⟨wr.heap.size, 0, none⟩ = some (.slice lo (atSr S i).1.length lc) := zcell' _ _ _ _ hbx4 0 _ rfl
        have hlab4 : OwnLb w4 0 (.slice lo (atSr S i).1.length lc) (atSr S i).1 := by
          rw [← HEl.out]
          exact hkind (row_kept (row_kept HLab.out fun g _ hg => HB2.out.block g (heap_lt hg)) fun g _ hg => HTw.out.bel.block g (heap_lt hg)) (by decide)
        obtain ⟨lo4, lc4, el4, hL4⟩ := LRow.of_own hlab4
        simp only [Value.slice.injEq, true_and] at el4
        obtain ⟨rfl, rfl⟩ := el4
        have HBs := hid (behind_any w.heap.size (HD.kp (noP m q) (S.take i)).length u7 vl (flat xsS) lo (atSr S i).1 lc _ w4 h4.stay.row hL4 (by omega) (by omega) (row_low hvl4 (Nat.zero_le _)) (by have := kp_take_len (noP m q) S i hfew; omega) h4.bel.size)
        have HVl := hid hvl4
        clear hend2 hend h4 hkind hs4 hblk hbx4 hlab4 hL4 hvl4 HBh
        go_wp2_with fail
        refine HBs.out.mono ?_
        intro e w5 hend
        obtain ⟨v5, rfl, _⟩ := id hend
        obtain ⟨xsS5, h5⟩ := HTB4.out.behS hlt (ys := (atSr S i).2.filter fun s => !q s.1) (by
          congr 1
          funext s
          show (!(LB.all (atSr S i).1 m && q s.1)) = !q s.1
          rw [HAl.out]; rfl) (row_low HVl.out (Nat.zero_le _)) hend rfl (fun c hc g hg e => by
            have h6 := (HVl.out.lt g hg).1
            have := ((HTB2.out.stay.smps c hc).lt g e).2
            omega) (by
            rcases hvb : vl.ownBlock with _ | g
            · exact .inl rfl
            · exact .inr ⟨g, rfl, Nat.le_trans HTB2.out.bel.size (HVl.out.lt g hvb).1⟩)
        have H5 := hid h5
        clear hend h5 HBs
        go_wp2_with fail
        go_roundw
        case rel => exact ⟨i + 1, _, _, by omega, by go_num, H5.out⟩
        case measure => simp [intOf]; omega
    · have he : i = S.length := by omega
      subst he
      have h1 := HTB.out
      rw [List.take_length] at h1
      have H1 := hid h1
      have hbx := (HX.out.below h1.bel).box
      rw [HVa.out] at hbx
      have n2 : wr.cell? ⟨hb, 1, none⟩ = some (.slice ao S.length cap) := zcell' _ _ _ _ hbx 1 _ rfl
      have n3 : wr.frozen? ⟨hb, 1, none⟩ = false := hfz hbx 1
      obtain ⟨a7, c7, e7⟩ := own_slice h1.stay.row
      have HE7 := hid e7
      clear hbx h1
      rw [e7]
      go_wp2_with fail
      go_ret
      rw [← HE7.out]
      exact H1.out.fin HX.out HZ.out.1 HZ.out.2.1 HZ.out.2.2

end Go.Proofs.YtdmnlmohfaafoadGreatDoor

