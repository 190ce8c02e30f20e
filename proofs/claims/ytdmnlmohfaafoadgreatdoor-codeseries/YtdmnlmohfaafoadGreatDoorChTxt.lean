/- Texts as bits; the document's way of reading samples, as a plain fact. -/
import Derived.Test.YtdmnlmohfaafoadGreatDoorBitRd
import Derived.Test.YtdmnlmohfaafoadGreatDoorChNum
namespace Go.Proofs.YtdmnlmohfaafoadGreatDoor

theorem tx_bitsS_str (bs : List Bool) : bitsS (strOf (BL.pk bs)) = bs ++ List.replicate (8 * ((bs.length + 7) / 8) - bs.length) false := by
  rw [← BL.bitsB_pk]
  unfold bitsS strOf
  congr 1
  simp only [List.map_map]
  conv => rhs; rw [← List.map_id (BL.pk bs)]
  apply List.map_congr_left
  intro x hx
  have := BL.pk_lt bs x hx
  simp [UInt8.toNat_ofNat', Nat.mod_eq_of_lt this]

theorem tx_str_size (l : List Nat) : (strOf l).size = l.length := by simp [strOf, ByteArray.size]

theorem tx_bitsB_inj : ∀ (l l' : List Nat), (∀ x ∈ l, x < 256) → (∀ x ∈ l', x < 256) → BL.bitsB l = BL.bitsB l' → l = l'
  | [], [], _, _, _ => rfl
  | [], b :: l', _, _, h => by have := congrArg List.length h; rw [BL.bitsB_length, BL.bitsB_length] at this; simp at this
  | b :: l, [], _, _, h => by have := congrArg List.length h; rw [BL.bitsB_length, BL.bitsB_length] at this; simp at this
  | b :: l, b' :: l', h1, h2, h => by
    have e : ∀ (x : Nat) (m : List Nat), BL.bitsB (x :: m) = BL.bitsOf x 8 ++ BL.bitsB m := fun x m => rfl
    rw [e, e] at h
    obtain ⟨ha, hb⟩ := List.append_inj h (by rw [BL.bitsOf_length, BL.bitsOf_length])
    have hv := congrArg BL.val ha
    rw [BL.val_bitsOf, BL.val_bitsOf] at hv
    have hb1 := h1 b (List.mem_cons_self)
    have hb2 := h2 b' (List.mem_cons_self)
    have : b = b' := by omega
    rw [this, tx_bitsB_inj l l' (fun x hx => h1 x (List.mem_cons_of_mem _ hx)) (fun x hx => h2 x (List.mem_cons_of_mem _ hx)) hb]

theorem tx_bitsS_inj (s t : ByteArray) (h : bitsS s = bitsS t) : s = t := by
  unfold bitsS at h
  have hs : ∀ (u : ByteArray), ∀ x ∈ u.data.toList.map UInt8.toNat, x < 256 := by
    intro u x hx
    rw [List.mem_map] at hx
    obtain ⟨y, _, rfl⟩ := hx
    exact y.toNat_lt
  have h1 := tx_bitsB_inj _ _ (hs s) (hs t) h
  have h2 : s.data.toList = t.data.toList := by
    apply List.map_inj_right (f := UInt8.toNat) (fun a b hab => UInt8.toNat_inj.1 hab) |>.1 h1
  obtain ⟨⟨a⟩⟩ := s
  obtain ⟨⟨b⟩⟩ := t
  simp at h2
  rw [h2]

/-- What is read is written just so. -/
theorem tx_write_read (s : ByteArray) (m : List CL.Smp) (h : CL.readL (bitsS s) = some m) : strOf (BL.pk (CL.chB m)) = s := by
  obtain ⟨_, _, k, hk, hb⟩ := CL.read_inv _ _ h
  apply tx_bitsS_inj
  rw [tx_bitsS_str, hb]
  have hl := congrArg List.length hb
  rw [bitsS_length, List.length_append, List.length_replicate] at hl
  congr 2
  omega

theorem tx_read_of_write (l : List CL.Smp) (hr : CL.right l = true) (hR : ∀ s ∈ l, CL.Rs s) : CL.readL (bitsS (strOf (BL.pk (CL.chB l)))) = some l := by
  rw [tx_bitsS_str]
  exact CL.read_write l hr hR _ (by omega)

/-! ## the document's reading, step by step -/

theorem at_drop (L : List CL.Smp) (a i : Nat) : CL.at' (L.drop a) i = CL.at' L (a + i) := by
  unfold CL.at'; rw [List.getD_eq_getElem?_getD, List.getElem?_drop, ← List.getD_eq_getElem?_getD]

theorem right_take (L : List CL.Smp) (n : Nat) (h : CL.right L = true) : CL.right (L.take n) = true := by
  obtain ⟨h1, h2⟩ := (CL.right_iff L).1 h
  refine CL.right_of _ (by rw [List.length_take]; omega) (fun i hi => ?_)
  have hi' : i < n ∧ i < L.length := by rw [List.length_take] at hi; omega
  have := (CL.okAt_iff L i).1 (h2 i hi'.2)
  rw [CL.okAt_iff, CL.at_take L n i hi'.1]
  refine ⟨this.1, ?_⟩
  by_cases h0 : i = 0
  · exact .inl h0
  · rw [CL.at_take L n (i - 1) (by omega)]; exact this.2

theorem right_drop (L : List CL.Smp) (n : Nat) (h : CL.right L = true) : CL.right (L.drop n) = true := by
  obtain ⟨h1, h2⟩ := (CL.right_iff L).1 h
  refine CL.right_of _ (by rw [List.length_drop]; omega) (fun i hi => ?_)
  have hi' : n + i < L.length := by rw [List.length_drop] at hi; omega
  have := (CL.okAt_iff L (n + i)).1 (h2 _ hi')
  rw [CL.okAt_iff, at_drop]
  refine ⟨this.1, ?_⟩
  by_cases h0 : i = 0
  · exact .inl h0
  · rw [at_drop, show n + (i - 1) = n + i - 1 by omega]
    rcases this.2 with h | h
    · omega
    · exact .inr h

/-- What is known of samples that were read so far, if there are any at all. -/
def JJ (P : Option (List CL.Smp)) (n : Nat) (l : List CL.Smp) (b : List Bool) : Prop :=
  ∀ L, P = some L → (CL.right L = true ∧ ∀ s ∈ L, CL.Rs s) ∧ n = L.length ∧ l = L.take l.length ∧ ∃ pad, b = CL.seg L l.length (n - l.length) ++ pad

theorem none_of_get (b : List Bool) (h : BL.getL b = none) : CL.readL b = none := by unfold CL.readL; rw [h]
theorem none_of_count (b : List Bool) (u : Nat) (r : List Bool) (h : BL.getL b = some (u, r)) (hc : ¬ (0 ≤ BL.zag u ∧ BL.zag u ≤ 2000)) : CL.readL b = none := by
  unfold CL.readL; rw [h]; simp only []; rw [if_neg hc]

theorem JJ.start (b : List Bool) (u : Nat) (r : List Bool) (n : Nat) (h : BL.getL b = some (u, r)) (hn : BL.zag u = n) : JJ (CL.readL b) n [] r := by
  intro L hL
  obtain ⟨h1, h2, k, hk, hb⟩ := CL.read_inv _ _ hL
  have hl := ((CL.right_iff L).1 h1).1
  have hg : BL.getL b = some (BL.zig L.length, CL.seg L 0 L.length ++ List.replicate k false) := by
    rw [hb]; unfold CL.chB; rw [List.append_assoc]; exact CL.get_num _ (by omega) (by omega) _
  rw [hg] at h
  simp only [Option.some.injEq, Prod.mk.injEq] at h
  obtain ⟨rfl, rfl⟩ := h
  rw [CL.zag_cast] at hn
  have e : n = L.length := by omega
  subst e
  exact ⟨⟨h1, h2⟩, rfl, rfl, _, rfl⟩

theorem JJ.bits {P : Option (List CL.Smp)} {n : Nat} {l : List CL.Smp} {b : List Bool} (h : JJ P n l b) (hk : l.length < n) (L : List CL.Smp) (hL : P = some L) :
    ∃ q, BL.getL b = some (BL.zig (CL.num1 L l.length), BL.putL (BL.zig (CL.num2 L l.length)) ++ (CL.seg L (l.length + 1) (n - (l.length + 1)) ++ q)) := by
  obtain ⟨_, _, _, q, hb⟩ := h L hL
  refine ⟨q, ?_⟩
  rw [hb, show n - l.length = (n - (l.length + 1)) + 1 by omega]
  simp only [CL.seg, CL.pairB, List.append_assoc]
  exact CL.get_num _ (CL.num_range1 L _).1 (CL.num_range1 L _).2 _

theorem JJ.none1 {P : Option (List CL.Smp)} {n : Nat} {l : List CL.Smp} {b : List Bool} (h : JJ P n l b) (hk : l.length < n) (hg : BL.getL b = none) : P = none := by
  rcases hP : P with _ | L
  · rfl
  · obtain ⟨q, hq⟩ := h.bits hk L hP
    rw [hg] at hq; cases hq

theorem JJ.range {P : Option (List CL.Smp)} {n : Nat} {l : List CL.Smp} {b : List Bool} {u : Nat} {r : List Bool} (h : JJ P n l b) (hk : l.length < n) (hg : BL.getL b = some (u, r)) (hr : ¬ (-8796093022208 ≤ BL.zag u ∧ BL.zag u ≤ 8796093022208)) : P = none := by
  rcases hP : P with _ | L
  · rfl
  · obtain ⟨q, hq⟩ := h.bits hk L hP
    obtain ⟨⟨h1, _⟩, h2, _⟩ := h L hP
    rw [hg] at hq
    simp only [Option.some.injEq, Prod.mk.injEq] at hq
    have := CL.num1_bound L h1 l.length (by omega)
    rw [hq.1, BL.zag_zig] at hr
    exact absurd this hr

theorem JJ.none2 {P : Option (List CL.Smp)} {n : Nat} {l : List CL.Smp} {b : List Bool} {u : Nat} {r : List Bool} (h : JJ P n l b) (hk : l.length < n) (hg : BL.getL b = some (u, r)) (hg2 : BL.getL r = none) : P = none := by
  rcases hP : P with _ | L
  · rfl
  · obtain ⟨q, hq⟩ := h.bits hk L hP
    rw [hg] at hq
    simp only [Option.some.injEq, Prod.mk.injEq] at hq
    rw [hq.2, CL.get_num _ (CL.num_range2 L _).1 (CL.num_range2 L _).2] at hg2
    cases hg2

theorem JJ.next {P : Option (List CL.Smp)} {n : Nat} {l : List CL.Smp} {b : List Bool} {u v : Nat} {r r2 : List Bool} (h : JJ P n l b) (hk : l.length < n) (hg : BL.getL b = some (u, r)) (hg2 : BL.getL r = some (v, r2)) :
    JJ P n (l ++ [CL.nxt l (BL.zag u) (BL.zag v)]) r2 := by
  intro L hP
  obtain ⟨q, hq⟩ := h.bits hk L hP
  obtain ⟨h1, h2, h3, _⟩ := h L hP
  rw [hg] at hq
  simp only [Option.some.injEq, Prod.mk.injEq] at hq
  rw [hq.2, CL.get_num _ (CL.num_range2 L _).1 (CL.num_range2 L _).2] at hg2
  simp only [Option.some.injEq, Prod.mk.injEq] at hg2
  have hx : CL.nxt l (BL.zag u) (BL.zag v) = CL.at' L l.length := by
    have := CL.nxt_num L l.length (by omega) h1.2
    rw [← h3] at this
    rw [hq.1, ← hg2.1, BL.zag_zig, BL.zag_zig]; exact this
  rw [hx, List.length_append]
  refine ⟨h1, h2, ?_, q, ?_⟩
  · have := CL.take_nxt L l.length (by omega)
    rw [← h3] at this
    exact this
  · rw [← hg2.2]; rfl

theorem JJ.sub {P : Option (List CL.Smp)} {n : Nat} {l : List CL.Smp} {b : List Bool} (h : JJ P n l b) (a : Nat) (hr : CL.right (l.drop a) = false) : P = none := by
  rcases hP : P with _ | L
  · rfl
  · obtain ⟨⟨h1, _⟩, _, h3, _⟩ := h L hP
    have := right_drop _ a (right_take L l.length h1)
    rw [← h3, hr] at this
    cases this

theorem JJ.whole {P : Option (List CL.Smp)} {l : List CL.Smp} {b : List Bool} (h : JJ P l.length l b) (L : List CL.Smp) (hP : P = some L) : L = l ∧ CL.right l = true := by
  obtain ⟨⟨h1, _⟩, h2, h3, _⟩ := h L hP
  have : l = L := by
    rw [h3, List.take_of_length_le (by omega)]
  subst this
  exact ⟨rfl, h1⟩

end Go.Proofs.YtdmnlmohfaafoadGreatDoor
