/- Blocks, plain: which series may be a block's. Names no function. Texts as bits; the document's way of reading samples, as a plain fact. What is read is few, and is written just so, plain. Names no function. Series that are written and read again, plain. Names no function. Blocks as bytes, plain; what block's Write and Read tell. -/
import Derived.Test.YtdmnlmohfaafoaeDoorPSCdMem
import Derived.Test.YtdmnlmohfaafoaeDoorPSBitRd
import Derived.Test.YtdmnlmohfaafoaeDoorPSChMrg
import Derived.Test.YtdmnlmohfaafoaeDoorPSCdTxt
import Derived.Test.YtdmnlmohfaafoaeDoorPSCwAll
import Derived.Test.YtdmnlmohfaafoaeDoorPSBkQ
namespace Go.Proofs.YtdmnlmohfaafoaeDoor
open Go.RowKit

namespace BK

/-- A series that may be in a block. -/
def okS (tp : Int) (x : Sr) : Bool := LB.right x.1 && (CL.right x.2 && (decide (0 < x.2.length) && decide ((CL.at' x.2 (x.2.length - 1)).1 ≤ tp)))

/-- The first i series are so, and rise. -/
def Ok (tp : Int) (S : List Sr) (i : Nat) : Prop := ∀ k, k < i → okS tp (atSr S k) = true ∧ (0 < k → LB.cmp (atSr S (k - 1)).1 (atSr S k).1 < 0)


def ser (tp : Int) (S : List Sr) : Bool := decide (∀ k, k < S.length → okS tp (atSr S k) = true ∧ (0 < k → LB.cmp (atSr S (k - 1)).1 (atSr S k).1 < 0))

/-- Which blocks may be. -/
def right (tp old : Int) (S : List Sr) : Bool := ser tp S && (decide (-1099511627776 ≤ tp ∧ tp ≤ 1099511627776) && decide (-1 ≤ old))

theorem Ok.next {tp : Int} {S : List Sr} {i : Nat} (h : Ok tp S i) (h1 : okS tp (atSr S i) = true) (h2 : 0 < i → LB.cmp (atSr S (i - 1)).1 (atSr S i).1 < 0) : Ok tp S (i + 1) := fun k hk => by
  rcases Nat.lt_or_ge k i with h3 | h3
  · exact h k h3
  · have : k = i := by omega
    subst this
    exact ⟨h1, h2⟩

theorem ser_ok {tp : Int} {S : List Sr} (h : Ok tp S S.length) : ser tp S = true := decide_eq_true h

theorem right_bad {tp old : Int} {S : List Sr} {i : Nat} (hi : i < S.length) (h : okS tp (atSr S i) = false ∨ (0 < i ∧ ¬ LB.cmp (atSr S (i - 1)).1 (atSr S i).1 < 0)) : right tp old S = false := by
  have : ser tp S = false := by
    unfold ser
    rw [decide_eq_false_iff_not]
    intro h2
    obtain ⟨h3, h4⟩ := h2 i hi
    rcases h with h | ⟨h, h5⟩
    · rw [h] at h3; cases h3
    · exact h5 (h4 h)
  unfold right
  rw [this]
  rfl

theorem okS_lab {tp : Int} {x : Sr} (h : LB.right x.1 = false) : okS tp x = false := by unfold okS; rw [h]; rfl
theorem okS_smp {tp : Int} {x : Sr} (h : CL.right x.2 = false) : okS tp x = false := by unfold okS; rw [h]; simp
theorem okS_none {tp : Int} {x : Sr} (h : x.2.length = 0) : okS tp x = false := by unfold okS; simp [h]
theorem okS_late {tp : Int} {x : Sr} (h : tp < (CL.at' x.2 (x.2.length - 1)).1) : okS tp x = false := by
  have : decide ((CL.at' x.2 (x.2.length - 1)).1 ≤ tp) = false := decide_eq_false (by omega)
  unfold okS; rw [this]; simp
theorem okS_yes {tp : Int} {x : Sr} (h1 : LB.right x.1 = true) (h2 : CL.right x.2 = true) (h3 : 0 < x.2.length) (h4 : (CL.at' x.2 (x.2.length - 1)).1 ≤ tp) : okS tp x = true := by
  unfold okS; rw [h1, h2, decide_eq_true h3, decide_eq_true h4]; rfl

end BK

end Go.Proofs.YtdmnlmohfaafoaeDoor

namespace Go.Proofs.YtdmnlmohfaafoaeDoor

theorem tx_bitsS_str (bs : List Bool) : bitsS (strOf (BL.pk bs)) = bs ++ List.replicate (8 * ((bs.length + 7) / 8) - bs.length) false := by
  rw [← BL.bitsB_pk]
  unfold bitsS strOf
  congr 1
  simp only [List.map_map]
  conv => rhs; rw [← List.map_id (BL.pk bs)]
  apply List.map_congr_left
  intro x hx
  have := BL.pk_lt bs x hx
  simp [UInt8.toNat_ofNat', Nat.mod_eq_of_lt this]

theorem tx_str_size (l : List Nat) : (strOf l).size = l.length := by simp [strOf, ByteArray.size]

theorem tx_bitsB_inj : ∀ (l l' : List Nat), (∀ x ∈ l, x < 256) → (∀ x ∈ l', x < 256) → BL.bitsB l = BL.bitsB l' → l = l'
  | [], [], _, _, _ => rfl
  | [], b :: l', _, _, h => by have := congrArg List.length h; rw [BL.bitsB_length, BL.bitsB_length] at this; simp at this
  | b :: l, [], _, _, h => by have := congrArg List.length h; rw [BL.bitsB_length, BL.bitsB_length] at this; simp at this
  | b :: l, b' :: l', h1, h2, h => by
    have e : ∀ (x : Nat) (m : List Nat), BL.bitsB (x :: m) = BL.bitsOf x 8 ++ BL.bitsB m := fun x m => rfl
    rw [e, e] at h
    obtain ⟨ha, hb⟩ := List.append_inj h (by rw [BL.bitsOf_length, BL.bitsOf_length])
    have hv := congrArg BL.val ha
    rw [BL.val_bitsOf, BL.val_bitsOf] at hv
    have hb1 := h1 b (List.mem_cons_self)
    have hb2 := h2 b' (List.mem_cons_self)
    have : b = b' := by omega
    rw [this, tx_bitsB_inj l l' (fun x hx => h1 x (List.mem_cons_of_mem _ hx)) (fun x hx => h2 x (List.mem_cons_of_mem _ hx)) hb]

theorem tx_bitsS_inj (s t : ByteArray) (h : bitsS s = bitsS t) : s = t := by
  unfold bitsS at h
  have hs : ∀ (u : ByteArray), ∀ x ∈ u.data.toList.map UInt8.toNat, x < 256 := by
    intro u x hx
    rw [List.mem_map] at hx
    obtain ⟨y, _, rfl⟩ := hx
    exact y.toNat_lt
  have h1 := tx_bitsB_inj _ _ (hs s) (hs t) h
  have h2 : s.data.toList = t.data.toList := by
    apply List.map_inj_right (f := UInt8.toNat) (fun a b hab => UInt8.toNat_inj.1 hab) |>.1 h1
  obtain ⟨⟨a⟩⟩ := s
  obtain ⟨⟨b⟩⟩ := t
  simp at h2
  rw [h2]

/-- What is read is written just so. -/
theorem tx_write_read (s : ByteArray) (m : List CL.Smp) (h : CL.readL (bitsS s) = some m) : strOf (BL.pk (CL.chB m)) = s := by
  obtain ⟨_, _, k, hk, hb⟩ := CL.read_inv _ _ h
  apply tx_bitsS_inj
  rw [tx_bitsS_str, hb]
  have hl := congrArg List.length hb
  rw [bitsS_length, List.length_append, List.length_replicate] at hl
  congr 2
  omega

theorem tx_read_of_write (l : List CL.Smp) (hr : CL.right l = true) (hR : ∀ s ∈ l, CL.Rs s) : CL.readL (bitsS (strOf (BL.pk (CL.chB l)))) = some l := by
  rw [tx_bitsS_str]
  exact CL.read_write l hr hR _ (by omega)

/-! ## the document's reading, step by step -/

theorem at_drop (L : List CL.Smp) (a i : Nat) : CL.at' (L.drop a) i = CL.at' L (a + i) := by
  unfold CL.at'; rw [List.getD_eq_getElem?_getD, List.getElem?_drop, ← List.getD_eq_getElem?_getD]

theorem right_take (L : List CL.Smp) (n : Nat) (h : CL.right L = true) : CL.right (L.take n) = true := by
  obtain ⟨h1, h2⟩ := (CL.right_iff L).1 h
  refine CL.right_of _ (by rw [List.length_take]; omega) (fun i hi => ?_)
  have hi' : i < n ∧ i < L.length := by rw [List.length_take] at hi; omega
  have := (CL.okAt_iff L i).1 (h2 i hi'.2)
  rw [CL.okAt_iff, CL.at_take L n i hi'.1]
  refine ⟨this.1, ?_⟩
  by_cases h0 : i = 0
  · exact .inl h0
  · rw [CL.at_take L n (i - 1) (by omega)]; exact this.2

theorem right_drop (L : List CL.Smp) (n : Nat) (h : CL.right L = true) : CL.right (L.drop n) = true := by
  obtain ⟨h1, h2⟩ := (CL.right_iff L).1 h
  refine CL.right_of _ (by rw [List.length_drop]; omega) (fun i hi => ?_)
  have hi' : n + i < L.length := by rw [List.length_drop] at hi; omega
  have := (CL.okAt_iff L (n + i)).1 (h2 _ hi')
  rw [CL.okAt_iff, at_drop]
  refine ⟨this.1, ?_⟩
  by_cases h0 : i = 0
  · exact .inl h0
  · rw [at_drop, show n + (i - 1) = n + i - 1 by omega]
    rcases this.2 with h | h
    · omega
    · exact .inr h

/-- What is known of samples that were read so far, if there are any at all. -/
def JJ (P : Option (List CL.Smp)) (n : Nat) (l : List CL.Smp) (b : List Bool) : Prop :=
  ∀ L, P = some L → (CL.right L = true ∧ ∀ s ∈ L, CL.Rs s) ∧ n = L.length ∧ l = L.take l.length ∧ ∃ pad, b = CL.seg L l.length (n - l.length) ++ pad

theorem none_of_get (b : List Bool) (h : BL.getL b = none) : CL.readL b = none := by unfold CL.readL; rw [h]
theorem none_of_count (b : List Bool) (u : Nat) (r : List Bool) (h : BL.getL b = some (u, r)) (hc : ¬ (0 ≤ BL.zag u ∧ BL.zag u ≤ 2000)) : CL.readL b = none := by
  unfold CL.readL; rw [h]; simp only []; rw [if_neg hc]

theorem JJ.start (b : List Bool) (u : Nat) (r : List Bool) (n : Nat) (h : BL.getL b = some (u, r)) (hn : BL.zag u = n) : JJ (CL.readL b) n [] r := by
  intro L hL
  obtain ⟨h1, h2, k, hk, hb⟩ := CL.read_inv _ _ hL
  have hl := ((CL.right_iff L).1 h1).1
  have hg : BL.getL b = some (BL.zig L.length, CL.seg L 0 L.length ++ List.replicate k false) := by
    rw [hb]; unfold CL.chB; rw [List.append_assoc]; exact CL.get_num _ (by omega) (by omega) _
  rw [hg] at h
  simp only [Option.some.injEq, Prod.mk.injEq] at h
  obtain ⟨rfl, rfl⟩ := h
  rw [CL.zag_cast] at hn
  have e : n = L.length := by omega
  subst e
  exact ⟨⟨h1, h2⟩, rfl, rfl, _, rfl⟩

theorem JJ.bits {P : Option (List CL.Smp)} {n : Nat} {l : List CL.Smp} {b : List Bool} (h : JJ P n l b) (hk : l.length < n) (L : List CL.Smp) (hL : P = some L) :
    ∃ q, BL.getL b = some (BL.zig (CL.num1 L l.length), BL.putL (BL.zig (CL.num2 L l.length)) ++ (CL.seg L (l.length + 1) (n - (l.length + 1)) ++ q)) := by
  obtain ⟨_, _, _, q, hb⟩ := h L hL
  refine ⟨q, ?_⟩
  rw [hb, show n - l.length = (n - (l.length + 1)) + 1 by omega]
  simp only [CL.seg, CL.pairB, List.append_assoc]
  exact CL.get_num _ (CL.num_range1 L _).1 (CL.num_range1 L _).2 _

theorem JJ.none1 {P : Option (List CL.Smp)} {n : Nat} {l : List CL.Smp} {b : List Bool} (h : JJ P n l b) (hk : l.length < n) (hg : BL.getL b = none) : P = none := by
  rcases hP : P with _ | L
  · rfl
  · obtain ⟨q, hq⟩ := h.bits hk L hP
    rw [hg] at hq; cases hq

theorem JJ.range {P : Option (List CL.Smp)} {n : Nat} {l : List CL.Smp} {b : List Bool} {u : Nat} {r : List Bool} (h : JJ P n l b) (hk : l.length < n) (hg : BL.getL b = some (u, r)) (hr : ¬ (-8796093022208 ≤ BL.zag u ∧ BL.zag u ≤ 8796093022208)) : P = none := by
  rcases hP : P with _ | L
  · rfl
  · obtain ⟨q, hq⟩ := h.bits hk L hP
    obtain ⟨⟨h1, _⟩, h2, _⟩ := h L hP
    rw [hg] at hq
    simp only [Option.some.injEq, Prod.mk.injEq] at hq
    have := CL.num1_bound L h1 l.length (by omega)
    rw [hq.1, BL.zag_zig] at hr
    exact absurd this hr

theorem JJ.none2 {P : Option (List CL.Smp)} {n : Nat} {l : List CL.Smp} {b : List Bool} {u : Nat} {r : List Bool} (h : JJ P n l b) (hk : l.length < n) (hg : BL.getL b = some (u, r)) (hg2 : BL.getL r = none) : P = none := by
  rcases hP : P with _ | L
  · rfl
  · obtain ⟨q, hq⟩ := h.bits hk L hP
    rw [hg] at hq
    simp only [Option.some.injEq, Prod.mk.injEq] at hq
    rw [hq.2, CL.get_num _ (CL.num_range2 L _).1 (CL.num_range2 L _).2] at hg2
    cases hg2

theorem JJ.next {P : Option (List CL.Smp)} {n : Nat} {l : List CL.Smp} {b : List Bool} {u v : Nat} {r r2 : List Bool} (h : JJ P n l b) (hk : l.length < n) (hg : BL.getL b = some (u, r)) (hg2 : BL.getL r = some (v, r2)) :
    JJ P n (l ++ [CL.nxt l (BL.zag u) (BL.zag v)]) r2 := by
  intro L hP
  obtain ⟨q, hq⟩ := h.bits hk L hP
  obtain ⟨h1, h2, h3, _⟩ := h L hP
  rw [hg] at hq
  simp only [Option.some.injEq, Prod.mk.injEq] at hq
  rw [hq.2, CL.get_num _ (CL.num_range2 L _).1 (CL.num_range2 L _).2] at hg2
  simp only [Option.some.injEq, Prod.mk.injEq] at hg2
  have hx : CL.nxt l (BL.zag u) (BL.zag v) = CL.at' L l.length := by
    have := CL.nxt_num L l.length (by omega) h1.2
    rw [← h3] at this
    rw [hq.1, ← hg2.1, BL.zag_zig, BL.zag_zig]; exact this
  rw [hx, List.length_append]
  refine ⟨h1, h2, ?_, q, ?_⟩
  · have := CL.take_nxt L l.length (by omega)
    rw [← h3] at this
    exact this
  · rw [← hg2.2]; rfl

theorem JJ.sub {P : Option (List CL.Smp)} {n : Nat} {l : List CL.Smp} {b : List Bool} (h : JJ P n l b) (a : Nat) (hr : CL.right (l.drop a) = false) : P = none := by
  rcases hP : P with _ | L
  · rfl
  · obtain ⟨⟨h1, _⟩, _, h3, _⟩ := h L hP
    have := right_drop _ a (right_take L l.length h1)
    rw [← h3, hr] at this
    cases this

theorem JJ.whole {P : Option (List CL.Smp)} {l : List CL.Smp} {b : List Bool} (h : JJ P l.length l b) (L : List CL.Smp) (hP : P = some L) : L = l ∧ CL.right l = true := by
  obtain ⟨⟨h1, _⟩, h2, h3, _⟩ := h L hP
  have : l = L := by
    rw [h3, List.take_of_length_le (by omega)]
  subst this
  exact ⟨rfl, h1⟩

end Go.Proofs.YtdmnlmohfaafoaeDoor

namespace Go.Proofs.YtdmnlmohfaafoaeDoor
open Go.RowKit

theorem chDE (c : List UInt8) (x : List CL.Smp) (h : chD c = some x) : chE x = c := by
  have := tx_write_read (sb c) x h
  unfold chE
  rw [this, sb_data]

theorem chD_rs {c : List UInt8} {x : List CL.Smp} (h : chD c = some x) : CL.right x = true ∧ x.length ≤ 2000 ∧ ∀ s ∈ x, CL.Rs s := by
  obtain ⟨h1, h2, _⟩ := CL.read_inv _ x h
  exact ⟨h1, ((CL.right_iff x).1 h1).1, h2⟩

/-- What is read of few bytes is few. -/
theorem rAll_few {S r : List UInt8} {l : List (List CD.Lb × List CL.Smp)} (h : CD.rAll chD lbK S = some (l, r)) : l.length ≤ S.length ∧ ∀ x ∈ l, lbK x.1 = true ∧ x.1.length ≤ 8 ∧ chD (chE x.2) = some x.2 := by
  refine ⟨?_, (CD.rAll_inv chDE h).2⟩
  unfold CD.rAll at h
  split at h
  · cases h
  · rename_i n r1 h1
    have hl := rN_len h1
    split at h
    · have h2 := CD.rS_len h
      have h3 := (CD.rS_inv chDE h).2.1
      omega
    · cases h

theorem atSr_map (l : List (List CD.Lb × List CL.Smp)) (i : Nat) (hi : i < l.length) : ∃ x ∈ l, atSr (l.map toSr) i = toSr x := by
  refine ⟨l[i]'hi, List.getElem_mem hi, ?_⟩
  unfold atSr
  rw [List.getD_eq_getElem?_getD, List.getElem?_map, List.getElem?_eq_getElem hi]
  rfl

theorem srFew_of {S r : List UInt8} {l : List (List CD.Lb × List CL.Smp)} (h : CD.rAll chD lbK S = some (l, r)) (hS : S.length ≤ 5000000) : SrFew (l.map toSr) := by
  obtain ⟨h1, h2⟩ := rAll_few h
  refine ⟨by rw [List.length_map]; omega, fun i hi => ?_⟩
  rw [List.length_map] at hi
  obtain ⟨x, hx, e⟩ := atSr_map l i hi
  obtain ⟨_, h4, h5⟩ := h2 x hx
  rw [e]
  refine ⟨?_, by have := (chD_rs h5).2.1; show x.2.length ≤ _; omega⟩
  show (toLab x.1).length ≤ 1000
  unfold toLab
  rw [List.length_map]
  omega

theorem srFew_nil : SrFew [] := ⟨by simp, fun i hi => by simp at hi⟩

theorem SrRow.nil (w : World) (ao : Option Addr) : SrRow w ao [] := fun i hi => by simp at hi

end Go.Proofs.YtdmnlmohfaafoaeDoor

namespace Go.Proofs.YtdmnlmohfaafoaeDoor
open Go.RowKit

theorem toSr_srOf (l : List Sr) : (l.map srOf).map toSr = l := by
  rw [List.map_map]
  conv => rhs; rw [← List.map_id l]
  apply List.map_congr_left
  intro p _
  show (toLab (lbOf p.1), p.2) = p
  rw [toLab_lbOf]

theorem srOf_toSr (l : List (List CD.Lb × List CL.Smp)) : (l.map toSr).map srOf = l := by
  rw [List.map_map]
  conv => rhs; rw [← List.map_id l]
  apply List.map_congr_left
  intro p _
  show (lbOf (toLab p.1), p.2) = p
  rw [lbOf_toLab]

theorem right_small {l : List LB.Lab} (h : LB.right l = true) : l.length ≤ 8 ∧ ∀ i, i < l.length → (LB.at' l i).1.size ≤ 24 ∧ (LB.at' l i).2.size ≤ 24 := by
  have h1 := of_decide_eq_true h
  refine ⟨h1.2.1, fun i hi => ?_⟩
  obtain ⟨h2, h3, _⟩ := h1.2.2 i hi
  exact ⟨(of_decide_eq_true h2).2.1, (of_decide_eq_true h3).1⟩

theorem mem_atSr {l : List Sr} {x : Sr} (h : x ∈ l) : ∃ i, i < l.length ∧ atSr l i = x := by
  obtain ⟨i, hi, e⟩ := List.getElem_of_mem h
  refine ⟨i, hi, ?_⟩
  unfold atSr
  rw [List.getD_eq_getElem?_getD, List.getElem?_eq_getElem hi, e]
  rfl

theorem lb_mem {l : List LB.Lab} {x : CD.Lb} (h : x ∈ lbOf l) : ∃ i, i < l.length ∧ x = ((LB.at' l i).1.data.toList, (LB.at' l i).2.data.toList) := by
  unfold lbOf at h
  obtain ⟨p, hp, rfl⟩ := List.mem_map.1 h
  obtain ⟨i, hi, e⟩ := List.getElem_of_mem hp
  refine ⟨i, hi, ?_⟩
  have e3 : LB.at' l i = p := by
    unfold LB.at'
    rw [List.getD_eq_getElem?_getD, List.getElem?_eq_getElem hi, e]
    rfl
  rw [e3]

theorem chE_data (l : List CL.Smp) : sb (chE l) = strOf (BL.pk (CL.chB l)) := by unfold chE; rw [sb_of]

/-- What may be written. -/
theorem ok_of {l : List Sr} (hs : SrSh l) (h : ∀ i, i < l.length → okS (atSr l i) = true) : CD.Ok chE chD lbK (l.map srOf) := by
  intro x hx
  obtain ⟨y, hy, rfl⟩ := List.mem_map.1 hx
  obtain ⟨i, hi, rfl⟩ := mem_atSr hy
  obtain ⟨_, _, h3, h4⟩ := hs.2 i hi
  have h5 := h i hi
  unfold okS at h5
  rw [Bool.and_eq_true] at h5
  obtain ⟨h6, h7⟩ := right_small h5.2
  have hln : (lbOf (atSr l i).1).length = (atSr l i).1.length := by simp [lbOf]
  refine ⟨by show lbK (lbOf (atSr l i).1) = true; rw [lbK_of]; exact h5.2, by show (lbOf (atSr l i).1).length ≤ 8; omega, fun z hz => ?_, ?_, ?_⟩
  · obtain ⟨j, hj, rfl⟩ := lb_mem hz
    have := h7 j hj
    have e1 : (LB.at' (atSr l i).1 j).1.data.toList.length = (LB.at' (atSr l i).1 j).1.size := by rw [Array.length_toList]; rfl
    have e2 : (LB.at' (atSr l i).1 j).2.data.toList.length = (LB.at' (atSr l i).1 j).2.size := by rw [Array.length_toList]; rfl
    show (LB.at' (atSr l i).1 j).1.data.toList.length ≤ _ ∧ (LB.at' (atSr l i).1 j).2.data.toList.length ≤ _
    omega
  · show (chE (atSr l i).2).length ≤ _
    have e1 : (chE (atSr l i).2).length = (strOf (BL.pk (CL.chB (atSr l i).2))).size := by unfold chE; rw [Array.length_toList]; rfl
    have := chE_len (atSr l i).2 (by omega)
    omega
  · show chD (chE (atSr l i).2) = some (atSr l i).2
    unfold chD
    rw [chE_data]
    exact tx_read_of_write (atSr l i).2 h5.1 h4

/-- How many bytes they are. -/
theorem wAll_len {l : List Sr} (hs : SrSh l) (hl : l.length ≤ 20) : 8 ≤ (CD.wAll chE (l.map srOf)).length ∧ (CD.wAll chE (l.map srOf)).length ≤ 2500000 := by
  have h := wS_len l hs l.length (Nat.le_refl _)
  rw [List.take_of_length_le (by simp)] at h
  unfold CD.wAll
  rw [List.length_append, CD.wN_length]
  omega

/-- What is read may be written, and is written just so. -/
theorem read_sh {S : List UInt8} {l : List (List CD.Lb × List CL.Smp)} (h : CD.rAll chD lbK S = some (l, [])) (hS : S.length ≤ 1500) : SrSh (l.map toSr) ∧ (∀ i, i < (l.map toSr).length → okS (atSr (l.map toSr) i) = true) ∧ CD.wAll chE ((l.map toSr).map srOf) = S := by
  obtain ⟨h1, h2⟩ := rAll_few h
  have h3 := (CD.rAll_inv chDE h).1
  refine ⟨⟨by rw [List.length_map]; omega, fun i hi => ?_⟩, fun i hi => ?_, ?_⟩
  · rw [List.length_map] at hi
    obtain ⟨x, hx, e⟩ := atSr_map l i hi
    obtain ⟨h4, h5, h6⟩ := h2 x hx
    obtain ⟨k1, k2, k3⟩ := chD_rs h6
    obtain ⟨k4, k5⟩ := right_small (show LB.right (toLab x.1) = true from h4)
    rw [e]
    refine ⟨fun j hj => ?_, by show (toLab x.1).length ≤ 20; omega, k2, k3⟩
    have := k5 j hj
    show (LB.at' (toLab x.1) j).1.size ≤ _ ∧ (LB.at' (toLab x.1) j).2.size ≤ _
    omega
  · rw [List.length_map] at hi
    obtain ⟨x, hx, e⟩ := atSr_map l i hi
    obtain ⟨h4, h5, h6⟩ := h2 x hx
    rw [e]
    show (CL.right x.2 && LB.right (toLab x.1)) = true
    rw [(chD_rs h6).1, show LB.right (toLab x.1) = true from h4]
    rfl
  · rw [srOf_toSr, h3, List.append_nil]

/-- What is written is read. -/
theorem write_back {l : List Sr} (hs : SrSh l) (h : ∀ i, i < l.length → okS (atSr l i) = true) : CD.rAll chD lbK (CD.wAll chE (l.map srOf)) = some (l.map srOf, []) := by
  have hl := hs.1
  have := CD.rAll_w (l.map srOf) (ok_of hs h) (by rw [List.length_map]; omega) []
  rw [List.append_nil] at this
  exact this

/-- No beginning of it is any. -/
theorem write_part {l : List Sr} (hs : SrSh l) (hl : l.length ≤ 20) (h : ∀ i, i < l.length → okS (atSr l i) = true) {k : Nat} (hk : k < (CD.wAll chE (l.map srOf)).length) (m : List (List CD.Lb × List CL.Smp)) : CD.rAll chD lbK ((CD.wAll chE (l.map srOf)).take k) ≠ some (m, []) := fun hm =>
  CD.no_part chDE (l.map srOf) (ok_of hs h) (by rw [List.length_map]; omega) (by have := (wAll_len hs hl).2; omega) hk hm

end Go.Proofs.YtdmnlmohfaafoaeDoor

namespace Go.Proofs.YtdmnlmohfaafoaeDoor
open Go.RowKit

namespace BK

/-- The bytes of a block. -/
def bytes (tp old : Int) (S : List Sr) : List UInt8 := CD.wN tp ++ (CD.wN old ++ CD.wAll chE (S.map srOf))

theorem right_okS {tp old : Int} {S : List Sr} (h : right tp old S = true) (i : Nat) (hi : i < S.length) : Go.Proofs.YtdmnlmohfaafoaeDoor.okS (atSr S i) = true := by
  unfold right at h
  simp only [Bool.and_eq_true] at h
  have h1 := (of_decide_eq_true h.1 i hi).1
  unfold okS at h1
  simp only [Bool.and_eq_true] at h1
  unfold Go.Proofs.YtdmnlmohfaafoaeDoor.okS
  rw [h1.1, h1.2.1]; rfl

end BK

/-- The block that bytes are. -/
def rBlk (s : List UInt8) : Option (Int × Int × List (List CD.Lb × List CL.Smp)) := match CD.rN s with
  | none => none
  | some (tp, r1) => match CD.rN r1 with
    | none => none
    | some (old, r2) => match CD.rAll chD lbK r2 with
      | none => none
      | some (l, r) => if r = [] ∧ BK.right tp old (l.map toSr) = true then some (tp, old, l) else none

theorem shrt_right {l : List LB.Lab} (h : LB.right l = true) : Shrt l := fun i hi => by
  have h1 := ((of_decide_eq_true h).2.2 i hi)
  have h2 := (of_decide_eq_true h1.1).2.1
  have h3 := (of_decide_eq_true h1.2.1).1
  omega

/-- Series that were read. -/
theorem read_lim {S r : List UInt8} {l : List (List CD.Lb × List CL.Smp)} (h : CD.rAll chD lbK S = some (l, r)) (hS : S.length ≤ 2000) : (l.map toSr).length ≤ 2000 ∧ ∀ i, i < (l.map toSr).length → (atSr (l.map toSr) i).1.length ≤ 1000 ∧ (atSr (l.map toSr) i).2.length ≤ 100000 ∧ Shrt (atSr (l.map toSr) i).1 := by
  obtain ⟨h1, h2⟩ := rAll_few h
  refine ⟨by rw [List.length_map]; omega, fun i hi => ?_⟩
  rw [List.length_map] at hi
  obtain ⟨x, hx, e⟩ := atSr_map l i hi
  obtain ⟨h3, h4, h5⟩ := h2 x hx
  have h6 := chD_rs h5
  rw [e]
  have h7 : LB.right (toLab x.1) = true := h3
  have h8 := (of_decide_eq_true h7).2.1
  exact ⟨by show (toLab x.1).length ≤ 1000; omega, by show x.2.length ≤ 100000; omega, shrt_right h7⟩

theorem rBlk_none {s S1 S2 : List UInt8} {n1 n2 : Int} {b1 b2 : Bool} (h1 : (b1 = false ∧ CD.rN s = some (n1, S1)) ∨ (b1 = true ∧ CD.rN s = none)) (h2 : (b2 = false ∧ b1 = false ∧ CD.rN S1 = some (n2, S2)) ∨ (b2 = true ∧ (b1 = true ∨ CD.rN S1 = none))) (h3 : b2 = true ∨ CD.rAll chD lbK S2 = none) : rBlk s = none := by
  unfold rBlk
  rcases h1 with ⟨e1, r1⟩ | ⟨e1, r1⟩
  · rw [r1]
    rcases h2 with ⟨e2, _, r2⟩ | ⟨e2, r2⟩
    · rw [e2] at h3
      rcases h3 with h3 | h3
      · cases h3
      · simp only [r2, h3]
    · rw [e1] at r2
      rcases r2 with r2 | r2
      · cases r2
      · simp only [r2]
  · rw [r1]

theorem rBlk_some {s S1 S2 S3 : List UInt8} {n1 n2 : Int} {b1 b2 : Bool} {l : List (List CD.Lb × List CL.Smp)} (h1 : (b1 = false ∧ CD.rN s = some (n1, S1)) ∨ (b1 = true ∧ CD.rN s = none)) (h2 : (b2 = false ∧ b1 = false ∧ CD.rN S1 = some (n2, S2)) ∨ (b2 = true ∧ (b1 = true ∨ CD.rN S1 = none))) (hb : b2 = false) (h3 : CD.rAll chD lbK S2 = some (l, S3)) : rBlk s = if S3 = [] ∧ BK.right n1 n2 (l.map toSr) = true then some (n1, n2, l) else none := by
  rcases h2 with ⟨_, e1, r2⟩ | ⟨e2, _⟩
  · rcases h1 with ⟨_, r1⟩ | ⟨e, _⟩
    · unfold rBlk
      simp only [r1, r2, h3]
    · rw [e1] at e; cases e
  · rw [hb] at e2; cases e2

theorem tN_form (S : List UInt8) (bad : Bool) : ∃ n R b, tN S bad = (n, R, b) ∧ R.length ≤ S.length ∧ -9223372036854775808 ≤ n ∧ n ≤ 9223372036854775807 ∧ ((b = false ∧ bad = false ∧ CD.rN S = some (n, R)) ∨ (b = true ∧ (bad = true ∨ CD.rN S = none))) := by
  cases bad with
  | true => exact ⟨0, S, true, rfl, Nat.le_refl _, by omega, by omega, .inr ⟨rfl, .inl rfl⟩⟩
  | false =>
    cases hr : CD.rN S with
    | none => exact ⟨0, S, true, tN_none hr, Nat.le_refl _, by omega, by omega, .inr ⟨rfl, .inr rfl⟩⟩
    | some p =>
      obtain ⟨n, r⟩ := p
      have h1 := CD.rN_inv hr
      have h2 := rN_len hr
      exact ⟨n, r, false, tN_some hr, by omega, h1.2.1, h1.2.2, .inl ⟨rfl, rfl, rfl⟩⟩

theorem results_cell_one {P : Program} {fn : Func} {p u : Tmp} {ty : TypeId} (h : fn.results = #[.cell p ty, .tmp u]) (tmps : Array Value) (w : World) (g : Nat) (t : TypeId) (cs : Array Value) (fr : Nat × Nat) (d : TypeDesc)
    (hp : tmps.getD p undef = .pointer (some ⟨g, 0, none⟩)) (hg : w.heap[g]? = some (.cells cs t fr)) (hu : P.underlying ty = some d) (hd : (match d with | .struct _ | .array _ _ => true | _ => false) = true) (hi : (P.info? ty).map (·.size) = some cs.size) :
    (results fn tmps).run P w = .ok (.tuple #[.agg cs, tmps.getD u undef]) w := by
  have hp' : tmps[p]?.getD undef = .pointer (some ⟨g, 0, none⟩) := by simpa using hp
  simp [results, h, hp', asAddr, run_loadVar_row w g t ty cs fr d hg hu hd hi]

theorem set_three {w : World} {b : Nat} {x y z u v s : Value} {t : TypeId} (h : w.heap[b]? = some (.cells #[x, y, z] t)) : (((w.setCell ⟨b, 0, none⟩ u).setCell ⟨b, 1, none⟩ v).setCell ⟨b, 2, none⟩ s).heap[b]? = some (.cells #[u, v, s] t) :=
  heap_setCell_same _ _ 2 _ _ _ (heap_setCell_same _ _ 1 _ _ _ (heap_setCell_same _ _ 0 _ _ _ h))

theorem bel_three {w W : World} {u v s : Value} (h : Below w.heap.size w W) : Below w.heap.size w (((W.setCell ⟨w.heap.size, 0, none⟩ u).setCell ⟨w.heap.size, 1, none⟩ v).setCell ⟨w.heap.size, 2, none⟩ s) :=
  ((h.setCell (p := ⟨w.heap.size, 0, none⟩) (Nat.le_refl _) u).setCell (p := ⟨w.heap.size, 1, none⟩) (Nat.le_refl _) v).setCell (p := ⟨w.heap.size, 2, none⟩) (Nat.le_refl _) s

/-- What block.Write tells. -/
def PWBEnd (w : World) (tp old : Int) (S : List Sr) (e : Ending) (w' : World) : Prop :=
  Below w.heap.size w w' ∧ ((BK.right tp old S = true ∧ e = .returned (.tuple #[.string (sb (BK.bytes tp old S)), .nilIface])) ∨ (BK.right tp old S = false ∧ e = .returned (.tuple #[.string ⟨#[]⟩, .iface 70 (.int .i64 1)])))

/-- What block.Read tells. -/
def PRBEnd (w : World) (s : List UInt8) (e : Ending) (w' : World) : Prop :=
  Below w.heap.size w w' ∧ ((∃ tp old l ao cap, rBlk s = some (tp, old, l) ∧ e = .returned (.tuple #[.agg #[.int .i64 tp, .int .i64 old, .slice ao (l.map toSr).length cap], .nilIface]) ∧ SrRow w' ao (l.map toSr)) ∨ (rBlk s = none ∧ e = .returned (.tuple #[.agg #[.int .i64 0, .int .i64 0, .slice none 0 0], .iface 70 (.int .i64 3)])))

theorem rBlk_few {s : List UInt8} {tp old : Int} {l : List (List CD.Lb × List CL.Smp)} (h : rBlk s = some (tp, old, l)) (hs : s.length ≤ 2000) : SrFew (l.map toSr) := by
  unfold rBlk at h
  split at h
  · cases h
  · rename_i t1 r1 h1
    split at h
    · cases h
    · rename_i o1 r2 h2
      split at h
      · cases h
      · rename_i l1 r3 h3
        split at h
        · cases h
          have e1 := rN_len h1
          have e2 := rN_len h2
          exact srFew_of h3 (by omega)
        · cases h

/-- What block.Read tells, the series in memory of their own. -/
def PRBOwn (w : World) (s : List UInt8) (e : Ending) (w' : World) : Prop :=
  Below w.heap.size w w' ∧ ((∃ tp old l v, rBlk s = some (tp, old, l) ∧ e = .returned (.tuple #[.agg #[.int .i64 tp, .int .i64 old, v], .nilIface]) ∧ SrOwn w' w.heap.size v (l.map toSr)) ∨ (rBlk s = none ∧ e = .returned (.tuple #[.agg #[.int .i64 0, .int .i64 0, .slice none 0 0], .iface 70 (.int .i64 3)])))

theorem PRBOwn.row {w w' : World} {s : List UInt8} {e : Ending} (h : PRBOwn w s e w') : PRBEnd w s e w' := by
  refine ⟨h.1, ?_⟩
  rcases h.2 with ⟨tp, old, l, v, h1, h2, h3⟩ | h
  · obtain ⟨ao, cap, ev, hr⟩ := SrRow.of_own h3
    exact .inl ⟨tp, old, l, ao, cap, h1, by rw [h2, ev], hr⟩
  · exact .inr h

/-- A block that is written is read. -/
theorem rBlk_bytes {tp old : Int} {S : List Sr} (hs : SrSh S) (hr : BK.right tp old S = true) (h1 : -9223372036854775808 ≤ tp ∧ tp ≤ 9223372036854775807) (h2 : -9223372036854775808 ≤ old ∧ old ≤ 9223372036854775807) : rBlk (BK.bytes tp old S) = some (tp, old, S.map srOf) := by
  have e1 : CD.rN (BK.bytes tp old S) = some (tp, CD.wN old ++ CD.wAll chE (S.map srOf)) := CD.rN_wN tp h1.1 h1.2 _
  have e2 := CD.rN_wN old h2.1 h2.2 (CD.wAll chE (S.map srOf))
  have e3 := write_back hs (BK.right_okS hr)
  have e4 := rBlk_some (b1 := false) (b2 := false) (.inl ⟨rfl, e1⟩) (.inl ⟨rfl, rfl, e2⟩) rfl e3
  rw [toSr_srOf] at e4
  rw [e4]
  exact if_pos ⟨rfl, hr⟩

end Go.Proofs.YtdmnlmohfaafoaeDoor

