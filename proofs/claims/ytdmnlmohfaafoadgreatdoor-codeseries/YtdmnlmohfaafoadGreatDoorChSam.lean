/- Rows of samples of one's own; what chunk.samples and chunk.spent do to a Reader. -/
import Derived.Test.YtdmnlmohfaafoadGreatDoorBitGet
import Derived.Test.YtdmnlmohfaafoadGreatDoorChWrite
import Derived.Deep.Onto
namespace Go.Proofs.YtdmnlmohfaafoadGreatDoor
open Go.RowKit

/-- The cells of samples. -/
def sv (l : List CL.Smp) : List Value := l.flatMap fun s => [.int .i64 s.1, .int .i64 s.2]

theorem sv_append (a b : List CL.Smp) : sv (a ++ b) = sv a ++ sv b := by simp [sv]
theorem sv_length (l : List CL.Smp) : (sv l).length = l.length * 2 := by
  induction l with
  | nil => rfl
  | cons s l ih => simp only [sv, List.flatMap_cons, List.length_append, List.length_cons, List.length_nil] at ih ⊢; omega
theorem sv_get (l : List CL.Smp) : ∀ i, i < l.length → (sv l)[i * 2]? = some (.int .i64 (CL.at' l i).1) ∧ (sv l)[i * 2 + 1]? = some (.int .i64 (CL.at' l i).2) := by
  induction l with
  | nil => intro i hi; simp at hi
  | cons s l ih =>
    intro i hi
    match i with
    | 0 => exact ⟨rfl, rfl⟩
    | i + 1 =>
      obtain ⟨h1, h2⟩ := ih i (by simpa using hi)
      have e : sv (s :: l) = .int .i64 s.1 :: .int .i64 s.2 :: sv l := rfl
      have e1 : (i + 1) * 2 = i * 2 + 2 := by omega
      have e2 : CL.at' (s :: l) (i + 1) = CL.at' l i := rfl
      rw [e, e1, e2]
      exact ⟨h1, h2⟩

/-- A row of samples that was made, read as one that is there. -/
theorem SRow.of_own {w : World} {base : Nat} {v : Value} {l : List CL.Smp} (h : w.ownsRow base 52 2 v l.length (sv l)) : ∃ ao cap, v = .slice ao l.length cap ∧ SRow w ao l := by
  have hlt := h.lt
  have h0 := h
  obtain ⟨h1, h2⟩ := h
  rcases h2 with ⟨rfl, hn⟩ | ⟨g, cap, cur, rfl, hg, hh, r⟩
  · refine ⟨none, 0, by rw [hn], fun i hi => by omega⟩
  · refine ⟨some ⟨g, 0, none⟩, cap, rfl, fun i hi => ⟨g, 0, rfl, ?_, ?_, (hlt g rfl).2⟩⟩
    · rw [Nat.zero_add, h0.cellAt (i * 2) (by omega)]; exact (sv_get l i hi).1
    · rw [Nat.zero_add, h0.cellAt (i * 2 + 1) (by omega)]; exact (sv_get l i hi).2

theorem Tryz.info52 : (Tryz.prog.info? 52).map (fun i => (i.zero, i.size, i.bytes)) = some (some (.agg #[.int .i64 0, .int .i64 0]), 2, 16) := by kernel_rfl

theorem two_news (w : World) (a b : Value) (T : TypeId) : ∀ j u, [a, b][j]? = some u → (w.alloc (.cells #[a, b] T)).cell? ((⟨w.heap.size, 0, none⟩ : Addr).add j) = some u := by
  intro j u hj
  match j, hj with
  | 0, hj => simp at hj; subst hj; simp [Addr.add]
  | 1, hj => simp at hj; subst hj; simp [Addr.add]
theorem two_news' (w : World) (n : Nat) (hn : n = w.heap.size) (a b : Value) (T : TypeId) : ∀ j u, [a, b][j]? = some u → (w.alloc (.cells #[a, b] T)).cell? ((⟨n, 0, none⟩ : Addr).add j) = some u := by
  subst hn; exact two_news w a b T
theorem two_i64 (a b : Int) : ∀ u ∈ [Value.int .i64 a, Value.int .i64 b], u.oneCell' = true := by
  intro u hu
  simp at hu
  rcases hu with rfl | rfl <;> rfl

theorem Ext.trans {R : Nat} {a b c : World} (h : Ext R a b) (k : Ext R b c) : Ext R a c :=
  ⟨k.os.trans h.os, k.tape.trans h.tape, k.output.trans h.output, Nat.le_trans h.size k.size, fun i hi hR => (k.block i (Nat.lt_of_lt_of_le hi h.size) hR).trans (h.block i hi hR)⟩
theorem Ext.other {R T : Nat} {a b c : World} (h : Ext R a b) (k : Ext T b c) (hT : a.heap.size ≤ T) : Ext R a c :=
  ⟨k.os.trans h.os, k.tape.trans h.tape, k.output.trans h.output, Nat.le_trans h.size k.size, fun i hi hR => (k.block i (Nat.lt_of_lt_of_le hi h.size) (by omega)).trans (h.block i hi hR)⟩
theorem Ext.grown {R : Nat} {a b c : World} {row : Option Nat} (h : Ext R a b) (k : b.grownBy c row) (hr : ∀ i, row = some i → a.heap.size ≤ i) : Ext R a c :=
  ⟨k.os.trans h.os, k.tape.trans h.tape, k.output.trans h.output, Nat.le_trans h.size k.size, fun i hi hR => (k.block i (Nat.lt_of_lt_of_le hi h.size) (fun e => by have := hr i e.symm; omega)).trans (h.block i hi hR)⟩
theorem Ext.of_only {R : Nat} {w w' : World} (h : Only R w w') : Ext R w w' := ⟨h.os, h.tape, h.output, by rw [h.size]; exact Nat.le_refl _, fun k _ hR => h.block k hR⟩

theorem RInv.blk {R : Nat} {w w' : World} {s : ByteArray} {p : Nat} (h : RInv R w s p) (hb : w'.heap[R]? = w.heap[R]?) (hs : w.heap.size ≤ w'.heap.size) : RInv R w' s p := by
  obtain ⟨h0, h1, h2, h3, h4⟩ := h
  exact ⟨(World.cell?_of_block (a := ⟨R, 0, none⟩) hb).trans h0, (World.cell?_of_block (a := ⟨R, 1, none⟩) hb).trans h1, (World.frozen?_of_block (a := ⟨R, 1, none⟩) hb).trans h2, Nat.lt_of_lt_of_le h3 hs, h4⟩
theorem RInv.lt {R : Nat} {w : World} {s : ByteArray} {p : Nat} (h : RInv R w s p) : R < w.heap.size := h.2.2.2.1
theorem Wids.ext {R : Nat} {w w' : World} (h : Wids w) (hb : Ext R w w') (hR : 1 < R) (hG : 1 < w.heap.size) : Wids w' :=
  fun i hi => (World.cell?_of_block (w := w) (hb.block _ hG (by show 1 ≠ R; omega))).trans (h i hi)

set_option maxRecDepth 100000 in
set_option maxHeartbeats 800000 in
theorem spent_any (R : Nat) (s : ByteArray) (p : Nat) (t : List Bool) (w : World) (hRI : RInv R w s p) (hs : s.size ≤ 140737488351232) (hd : (bitsS s).drop p = t) :
    Calls Tryz.prog 142 #[.pointer (some ⟨R, 0, none⟩)] w fun e w' => e = .returned (.bool (decide (t.length < 8 ∧ BL.val t = 0))) ∧ Only R w w' := by
  have hl := drop_len hRI hd
  have hle : 8 * (s.size : Int) - p = (t.length : Int) := by omega
  have HI := hid hRI
  have HD := hid hd
  clear hRI hd
  by_cases h8 : t.length < 8
  · have h8' : ¬ (8 : Int) ≤ (t.length : Int) := by omega
    have HV : Hid (BL.val (((bitsS s).drop p).take t.length) = BL.val t) := by
      show _ = _
      rw [HD.out, List.take_of_length_le (Nat.le_refl _)]
    have HL := hid hle
    clear hle
    generalize BL.val t = x at *
    go_enter Tryz.func142, Tryz.ntmps142
    go_wp2_with fail
    refine (left_any R s p _ HI.out hs).mono ?_
    rintro e w1 ⟨rfl, rfl⟩
    rw [HL.out]
    go_wp2_with fail
    refine (rbits_any R s p t.length _ HI.out.drew hs (by omega) (by omega)).mono ?_
    rintro e w2 ⟨rfl, hi2, ho2⟩
    rw [HV.out]
    have HO := hid ((Only.refl R w).drew.trans ho2)
    clear hi2 ho2
    go_wp2_with fail
    go_ret
    refine ⟨ret_bool ?_, HO.out⟩
    by_cases hx : x = 0
    · simp [hx, h8]
    · simp [hx]
  · have h8' : (8 : Int) ≤ (t.length : Int) := by omega
    have HL := hid hle
    clear hle
    rw [decide_eq_false (fun h => h8 h.1)]
    go_enter Tryz.func142, Tryz.ntmps142
    go_wp2_with fail
    refine (left_any R s p _ HI.out hs).mono ?_
    rintro e w1 ⟨rfl, rfl⟩
    rw [HL.out]
    go_wp2_with fail
    go_ret
    exact ⟨rfl, (Only.refl R w).drew⟩

/-- What stays where a row of one's own is appended to from a sample of one's own. -/
theorem push_keep {w4 w7 : World} {o1 o2 : Obj} {v : Value} {base n : Nat} {xs : List Value} (hown : w4.ownsRow base 52 2 v n xs) (hgrow : ((w4.alloc o1).alloc o2).grownBy w7 v.ownBlock) :
    (∀ k, k < w4.heap.size → v.ownBlock ≠ some k → w7.heap[k]? = w4.heap[k]?) ∧ w7.heap[w4.heap.size]? = some o1 ∧ w4.heap.size + 2 ≤ w7.heap.size := by
  have hs : ((w4.alloc o1).alloc o2).heap.size = w4.heap.size + 2 := by simp
  refine ⟨fun k hk hne => ?_, ?_, by have := hgrow.size; omega⟩
  · refine (hgrow.block k (by omega) (fun e => hne e.symm)).trans ?_
    exact (Below.heap_alloc _ _ k (by simp; omega)).trans (Below.heap_alloc _ _ k hk)
  · refine (hgrow.block w4.heap.size (by omega) (fun e => ?_)).trans ?_
    · have := (hown.lt _ e.symm).2; omega
    · exact (Below.heap_alloc _ _ _ (by simp)).trans (heap_alloc_new w4 o1)

theorem stp_push (l : List CL.Smp) (S : CL.Smp) : (if decide (0 < l.length) then CL.W (S.1 - (CL.ahead l l.length).1) else CL.stp l l.length) = CL.stp (l ++ [S]) (l.length + 1) := by
  have h := stp_next (l ++ [S]) l.length
  rw [CL.at_app] at h
  have e1 : CL.ahead (l ++ [S]) l.length = CL.ahead l l.length := by rw [← CL.ahead_take]; simp
  have e2 : CL.stp (l ++ [S]) l.length = CL.stp l l.length := by rw [← CL.stp_take]; simp
  rw [e1, e2] at h
  exact h
theorem ahead_push (l : List CL.Smp) (S : CL.Smp) : S = CL.ahead (l ++ [S]) (l.length + 1) := by
  have h := ahead_next (l ++ [S]) l.length
  rw [CL.at_app] at h
  exact h

/-- How many there are, and so many. -/
def samL (b : List Bool) : Option (List CL.Smp × List Bool) :=
  match BL.getL b with
  | none => none
  | some (u, r) => if 0 ≤ BL.zag u ∧ BL.zag u ≤ 2000 then CL.unn (BL.zag u).toNat [] r else none

theorem readL_sam (b : List Bool) : CL.readL b = match samL b with | none => none | some (l, t) => if t.length < 8 ∧ BL.val t = 0 ∧ CL.right l = true then some l else none := by
  unfold CL.readL samL
  rcases BL.getL b with _ | ⟨u, r⟩
  · rfl
  · simp only []
    by_cases h : 0 ≤ BL.zag u ∧ BL.zag u ≤ 2000
    · rw [if_pos h, if_pos h]
      rcases CL.unn (BL.zag u).toNat [] r with _ | ⟨l, t⟩ <;> rfl
    · rw [if_neg h, if_neg h]

/-- What chunk.samples tells. -/
def SamEnd (R : Nat) (s : ByteArray) (w : World) (e : Ending) (w' : World) : Option (List CL.Smp × List Bool) → Prop
  | none => e = .returned (.tuple #[.slice none 0 0, .iface 24 (.int .i64 3)]) ∧ Ext R w w'
  | some (l, t) => ∃ v p, e = .returned (.tuple #[v, .nilIface]) ∧ w'.ownsRow w.heap.size 52 2 v l.length (sv l) ∧ RInv R w' s p ∧ (bitsS s).drop p = t ∧ Ext R w w'

set_option maxRecDepth 100000 in
set_option maxHeartbeats 1600000 in
theorem samples_any (R : Nat) (s : ByteArray) (p0 : Nat) (w : World) (hRI : RInv R w s p0) (hs : s.size ≤ 140737488351232) (hW : Wids w) (hG : 1 < R) :
    Calls Tryz.prog 141 #[.pointer (some ⟨R, 0, none⟩)] w fun e w' => SamEnd R s w e w' (samL ((bitsS s).drop p0)) := by
  have HC := hid (get_any R s p0 w hRI hs hW hG)
  have HW := hid hW
  have hRl := hRI.lt
  clear hRI hW
  obtain ⟨i, hi, hi'⟩ := Option.map_eq_some_iff.1 Tryz.info52
  simp only [Prod.mk.injEq] at hi'
  obtain ⟨hz0, hz1, hz2⟩ := hi'
  have HI0 := hid hi
  have HZ0 := hid hz0
  have HZ1 := hid hz1
  have HZ2 := hid hz2
  clear hi hz0 hz1 hz2
  rcases hg : BL.getL ((bitsS s).drop p0) with _ | ⟨u, r⟩
  · have e : samL ((bitsS s).drop p0) = none := by unfold samL; rw [hg]
    rw [e]
    rw [hg] at HC
    clear hg e
    go_enter Tryz.func141, Tryz.ntmps141
    go_wp2_with fail
    refine Calls.mono HC.out ?_
    rintro e w1 ⟨rfl, p1, hi1, ho1⟩
    go_wp2_with fail
    go_ret2
    exact ⟨rfl, Ext.of_only ho1⟩
  · have e : samL ((bitsS s).drop p0) = if 0 ≤ BL.zag u ∧ BL.zag u ≤ 2000 then CL.unn (BL.zag u).toNat [] r else none := by unfold samL; rw [hg]
    rw [e]
    rw [hg] at HC
    have hur := CL.zag_range u (CL.getL_inv _ _ _ hg).2
    clear hg e
    generalize hzu : BL.zag u = z at *
    have HZu := hid hzu
    clear hzu
    by_cases hz : 0 ≤ z ∧ z ≤ 2000
    · rw [if_pos hz]
      obtain ⟨n, rfl⟩ := Int.eq_ofNat_of_zero_le hz.1
      have h1 : ¬ (n : Int) < 0 := by omega
      have h2 : ¬ (2000 : Int) < (n : Int) := by omega
      have hn : n ≤ 2000 := by omega
      clear hz
      generalize hP : CL.unn (n : Int).toNat [] r = P
      have HP : Hid (P = CL.unn n [] r) := by show _ = _; rw [← hP]; rfl
      clear hP
      go_enter Tryz.func141, Tryz.ntmps141
      go_wp2_with fail
      refine Calls.mono HC.out ?_
      rintro e w1 ⟨rfl, p1, hi1, ho1, hd1⟩
      rw [HZu.out]
      have hs1 := Nat.le_of_eq ho1.size
      have hs1b := Nat.le_of_eq ho1.size.symm
      have HI1 := hid hi1
      have HO1 := hid ho1
      have HD1 := hid hd1
      clear hi1 ho1 hd1
      go_wp2_with fail
      go_loopw [6, 28] (fun tl ti wr => ∃ (l : List CL.Smp) (b : List Bool) (p : Nat), l.length ≤ n ∧ ti = .int .i64 l.length ∧ P = CL.unn (n - l.length) l b ∧ wr.ownsRow (w1.heap.size + 1) 52 2 tl l.length (sv l) ∧ TInv w1.heap.size wr (CL.ahead l l.length) (CL.stp l l.length) (decide (0 < l.length)) ∧ RInv R wr s p ∧ (bitsS s).drop p = b ∧ Ext R w wr) (fun _ ti _ => n - (intOf ti).toNat)
      case atStart =>
        refine ⟨[], r, p1, by simp, rfl, HP.out, World.ownsRow_nil _ _ _ _, TInv.new w1, HI1.out.blk (Below.heap_alloc _ _ _ HI1.out.lt) (by simp), HD1.out, (Ext.of_only HO1.out).alloc _⟩
      case round =>
        obtain ⟨l, b, p, hk, rfl, hun, hown, hti, hri, hdr, hext⟩ := hrel
        have HU := hid hun
        have HO := hid hown
        have HT := hid hti
        have HRI := hid hri
        have HDR := hid hdr
        have HX := hid hext
        have htl := hti.cells.2.2.2.2.2.2.2.2
        have hsz := hext.size
        clear hun hown hti hri hdr hext
        by_cases hlt : l.length < n
        · obtain ⟨m, hm⟩ : ∃ m, n - l.length = m + 1 := ⟨n - l.length - 1, by omega⟩
          have HWr := hid (HW.out.ext HX.out hG (by omega))
          have HG := hid (get_any R s p wr HRI.out hs HWr.out hG)
          rw [HDR.out] at HG
          have HU1 : Hid (P = CL.unn (m + 1) l b) := by
            show _ = _
            rw [← hm]; exact HU.out
          rcases hg : BL.getL b with _ | ⟨u1, r1⟩
          · have HPn : Hid (P = none) := by
              show _ = _
              rw [HU1.out]; exact CL.unn_none1 _ _ _ hg
            rw [hg] at HG
            clear hg hm
            go_wp2_with fail
            refine Calls.mono HG.out ?_
            rintro e w2 ⟨rfl, p2, hi2, ho2⟩
            have HO2 := hid ho2
            clear hi2 ho2
            go_wp2_with fail
            go_ret2
            rw [HPn.out]
            exact ⟨rfl, HX.out.trans (Ext.of_only HO2.out)⟩
          · rw [hg] at HG
            have hur1 := CL.zag_range u1 (CL.getL_inv _ _ _ hg).2
            have HGu := hid hg
            clear hg
            rcases hg2 : BL.getL r1 with _ | ⟨u2, r2⟩
            · have HPn : Hid (P = none) := by
                show _ = _
                rw [HU1.out]; exact CL.unn_none2 _ _ _ _ _ HGu.out hg2
              have HN2 := hid hg2
              clear hg2 hm
              go_wp2_with fail
              refine Calls.mono HG.out ?_
              rintro e w2 ⟨rfl, p2, hi2, ho2, hd2⟩
              have HG2 := hid (get_any R s p2 w2 hi2 hs (HWr.out.only ho2 hG) hG)
              rw [hd2, HN2.out] at HG2
              have HO2 := hid ho2
              clear hi2 ho2 hd2
              go_wp2_with fail
              refine Calls.mono HG2.out ?_
              rintro e w3 ⟨rfl, p3, hi3, ho3⟩
              have HO3 := hid ho3
              clear hi3 ho3
              go_wp2_with fail
              go_ret2
              rw [HPn.out]
              exact ⟨rfl, (HX.out.trans (Ext.of_only HO2.out)).trans (Ext.of_only HO3.out)⟩
            · have hur2 := CL.zag_range u2 (CL.getL_inv _ _ _ hg2).2
              have HN2 := hid hg2
              have HU3 : Hid (P = CL.unn m (l ++ [CL.nxt l (BL.zag u1) (BL.zag u2)]) r2) := by
                show _ = _
                rw [HU1.out]; exact CL.unn_some _ _ _ _ _ _ _ HGu.out hg2
              have HNx : Hid ((CL.W (CL.W ((CL.ahead l l.length).1 + CL.stp l l.length) + BL.zag u1), CL.W ((CL.ahead l l.length).2 + BL.zag u2)) = CL.nxt l (BL.zag u1) (BL.zag u2)) := rfl
              clear hg2
              generalize hzu1 : BL.zag u1 = z1 at *
              have HZu1 := hid hzu1
              clear hzu1
              generalize hzu2 : BL.zag u2 = z2 at *
              have HZu2 := hid hzu2
              clear hzu2
              generalize hS : CL.nxt l z1 z2 = S at *
              clear hS
              have hR1 : R ≠ w1.heap.size := by omega
              go_wp2_with fail
              refine Calls.mono HG.out ?_
              rintro e w2 ⟨rfl, p2, hi2, ho2, hd2⟩
              rw [HZu1.out]
              have HG2 := hid (get_any R s p2 w2 hi2 hs (HWr.out.only ho2 hG) hG)
              rw [hd2, HN2.out] at HG2
              have hz2 := Nat.le_of_eq ho2.size.symm
              have HO2 := hid ho2
              clear hi2 ho2 hd2
              go_wp2_with fail
              refine Calls.mono HG2.out ?_
              rintro e w3 ⟨rfl, p3, hi3, ho3, hd3⟩
              rw [HZu2.out]
              have hz3 := Nat.le_of_eq ho3.size.symm
              have HO3 := hid (HO2.out.trans ho3)
              have HRI3 := hid hi3
              have HDR3 := hid hd3
              clear hi3 ho3 hd3
              have HT3 : Hid (TInv w1.heap.size w3 (CL.ahead l l.length) (CL.stp l l.length) (decide (0 < l.length))) := (HO3.out.block _ (by omega)).trans HT.out
              have HX3 := hid (HX.out.trans (Ext.of_only HO3.out))
              have HOw3 := hid (ownsRow_kept_all' HO.out (w' := w3) fun k hk => HO3.out.block k (by have := HO.out.lt k hk; omega))
              go_wp2_with fail
              refine (more_any w1.heap.size _ _ _ _ _ _ HT3.out).mono ?_
              rintro e w4 ⟨rfl, hb4⟩
              have hz4 := hb4.size
              have HS1 := congrArg Prod.fst HNx.out
              have HS2 := congrArg Prod.snd HNx.out
              simp only at HS1 HS2
              rw [HS1, HS2]
              clear HS1 HS2
              have HT4 := hid (HT3.out.kept hb4)
              have HRI4 := hid (HRI3.out.blk (hb4.block R HRI3.out.lt) hb4.size)
              have HX4 := hid (HX3.out.trans (Ext.of_below hb4))
              have HOw4 := hid (ownsRow_kept_all' HOw3.out (w' := w4) fun k hk => hb4.block k (HOw3.out.lt k hk).2)
              clear hb4
              have hl7 : l.length + 1 ≤ 3000 := by omega
              go_wp2_with (at_builtin; refine wpList_append_own _ rfl (.tmp 49) (.tmp 51) 53 rfl (w1.heap.size + 1) 52 i (.agg #[.int .i64 0, .int .i64 0]) 2 16 Tryz.underlying53 HI0.out HZ0.out HZ1.out HZ2.out rfl (by decide) _ l.length (sv l) rfl ((HOw4.out.alloc _).alloc _) ⟨w4.heap.size + 1, 0, none⟩ 1 1 [.int .i64 S.1, .int .i64 S.2] rfl rfl (two_news' _ _ (by simp) _ _ _) (two_i64 _ _) (by unfold maxLen; omega) (by omega) (by simp; omega) ?_)
              intro v' w7 hown7 hgrow _
              obtain ⟨hk7, hx7, hz7⟩ := push_keep HOw4.out hgrow
              have hgl : ∀ k, u6.ownBlock = some k → w1.heap.size + 1 ≤ k ∧ k < w4.heap.size := HOw4.out.lt
              have HT7 : Hid (TInv w1.heap.size w7 (CL.ahead l l.length) (CL.stp l l.length) (decide (0 < l.length))) :=
                (hk7 _ (by omega) (fun e => by have := hgl _ e; omega)).trans HT4.out
              have HRI7 := hid (HRI4.out.blk (hk7 R (by omega) (fun e => by have := hgl _ e; omega)) (by omega))
              have HX7 := hid (((HX4.out.alloc _).alloc _).grown hgrow (fun k hk => by have := hgl k hk; omega))
              have HOw7 := hid hown7
              have hbx : BoxS w4.heap.size w7 S := hx7
              obtain ⟨x0, x1⟩ := hbx.cells
              clear hown7 hgrow hk7 hx7 hgl hbx
              go_wp2_with fail
              refine (pass_any w1.heap.size _ _ _ S _ HT7.out).mono ?_
              rintro e w8 ⟨rfl, ht8, he8⟩
              have HRI8 := hid (HRI7.out.blk (he8.block R (by omega) hR1) he8.size)
              have HX8 := hid (HX7.out.other he8 hs1b)
              have HOw8 := hid (ownsRow_kept_all' HOw7.out (w' := w8) fun k hk => he8.block k (HOw7.out.lt k hk).2 (by have := HOw7.out.lt k hk; omega))
              have HT8 := hid ht8
              clear ht8 he8
              go_wp2_with fail
              go_roundw
              case rel =>
                refine ⟨l ++ [S], r2, p3, by simp; omega, ?_, ?_, ?_, ?_, HRI8.out, HDR3.out, HX8.out⟩
                · rw [List.length_append]; go_num
                · rw [HU3.out, List.length_append]
                  congr 1
                  simp; omega
                · rw [List.length_append, sv_append]; exact HOw8.out
                · rw [List.length_append]
                  have h8 := HT8.out
                  rw [stp_push] at h8
                  have e : [S].length = 1 := rfl
                  rw [e, ← ahead_push]
                  simpa using h8
              case measure => simp [intOf]; omega
        · have he : l.length = n := by omega
          subst he
          have HPe : Hid (P = some (l, b)) := by
            show _ = _
            rw [HU.out, Nat.sub_self]; rfl
          go_wp2_with fail
          go_ret2
          rw [HPe.out]
          exact ⟨_, p, rfl, HO.out.mono (by omega), HRI.out, HDR.out, HX.out⟩
    · rw [if_neg hz]
      go_enter Tryz.func141, Tryz.ntmps141
      go_wp2_with fail
      refine Calls.mono HC.out ?_
      rintro e w1 ⟨rfl, p1, hi1, ho1, hd1⟩
      rw [HZu.out]
      have HO1 := hid ho1
      clear hi1 ho1 hd1
      by_cases hneg : z < 0
      · go_wp2_with fail
        go_ret2
        exact ⟨rfl, Ext.of_only HO1.out⟩
      · have hbig : (2000 : Int) < z := by omega
        go_wp2_with fail
        go_ret2
        exact ⟨rfl, Ext.of_only HO1.out⟩

end Go.Proofs.YtdmnlmohfaafoadGreatDoor
