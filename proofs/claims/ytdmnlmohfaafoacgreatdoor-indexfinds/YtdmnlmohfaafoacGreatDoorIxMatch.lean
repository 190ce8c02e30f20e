/- What (*Index).matchOne and Match answer. -/
import Derived.Test.YtdmnlmohfaafoacGreatDoorIxAll
import Derived.Test.YtdmnlmohfaafoacGreatDoorIxNew
import Derived.Test.YtdmnlmohfaafoacGreatDoorIxRng
import Derived.Test.YtdmnlmohfaafoacGreatDoorLbAsk
namespace Go.Proofs.YtdmnlmohfaafoacGreatDoor
open Go.RowKit Go.Maps

/-- The inner map at a name. -/
theorem IdxR.inner {w : World} {bx N cnt bo : Nat} {Sd : ByteArray → ByteArray → List Int} {fo : ByteArray → Option Nat} {fi : ByteArray → ByteArray → Option Value} (h : IxR w bx N cnt Sd bo fo fi) (n : ByteArray) : MapO Tryz.prog 9 w (fo n) cnt (fi n) := by
  cases hn : fo n with
  | none =>
    show fi n = fun _ => none
    funext v
    exact h.off n hn v
  | some b => exact h.inn n b hn

theorem oF_get (fo : ByteArray → Option Nat) (n : ByteArray) : (oF fo n).getD (.map none) = .map (fo n) := by
  show ((fo n).map _).getD _ = _
  cases fo n <;> rfl

/-- The numbers that lie there, as cells. -/
theorem irow_cells {w wr : World} {ad : Addr} {l : List Int} (h : IRow w (some ad) l) (hb : Below w.heap.size w wr) : ∀ j u, (nv l)[j]? = some u → wr.cell? (ad.add j) = some u := by
  intro j u hj
  have hlt : j < (nv l).length := (List.getElem?_eq_some_iff.1 hj).1
  rw [nv_length] at hlt
  obtain ⟨b, off, e, c0, hbs⟩ := h j hlt
  obtain rfl := Option.some.inj e
  rw [nv_get l j hlt] at hj
  rw [← hj, Addr.add_lit]
  exact (hb.cell (p := ⟨b, _, none⟩) hbs).trans c0

theorem nv_one (l : List Int) : ∀ u ∈ nv l, u.oneCell' = true := by
  intro u hu
  obtain ⟨x, _, rfl⟩ := List.mem_map.1 hu
  rfl

/-- Two rows of one's own that do not lie in one place. -/
def Apart (u v : Value) : Prop := u.ownBlock = none ∨ u.ownBlock ≠ v.ownBlock

theorem below_grown {w w' : World} (h : Below w.heap.size w w') (row : Option Nat) : w.grownBy w' row := ⟨h.os, h.tape, h.output, h.size, fun k hk _ => h.block k hk⟩

theorem own_below {w w' : World} {base n size : Nat} {e : TypeId} {v : Value} {xs : List Value} (h : w.ownsRow base e size v n xs) (hb : Below w.heap.size w w') : w'.ownsRow base e size v n xs := by
  refine h.kept (below_grown hb none) ?_
  cases v.ownBlock <;> simp

theorem Apart.kept {u v : Value} (h : Apart u v) : v.ownBlock = none ∨ v.ownBlock ≠ u.ownBlock := by
  rcases h with h | h
  · rw [h]; cases v.ownBlock <;> simp
  · exact .inr fun e => h e.symm

theorem Apart.kept' {u v : Value} (h : Apart u v) : u.ownBlock = none ∨ u.ownBlock ≠ v.ownBlock := h

theorem Apart.left {u v u' : Value} {w : World} {base n size : Nat} {e : TypeId} {xs : List Value} (h : Apart u v) (hv : w.ownsRow base e size v n xs) (hl : u'.ownBlock = u.ownBlock ∨ u'.ownBlock = some w.heap.size) : Apart u' v := by
  rcases hl with hl | hl
  · unfold Apart at h ⊢; rw [hl]; exact h
  · refine .inr fun e => ?_
    rw [hl] at e
    have := (hv.lt _ e.symm).2
    omega

theorem Apart.right {u v v' : Value} {w : World} {base n size : Nat} {e : TypeId} {xs : List Value} (h : Apart u v) (hu : w.ownsRow base e size u n xs) (hl : v'.ownBlock = v.ownBlock ∨ v'.ownBlock = some w.heap.size) : Apart u v' := by
  rcases hl with hl | hl
  · unfold Apart at h ⊢; rw [hl]; exact h
  · unfold Apart
    rw [hl]
    refine .inr fun e => ?_
    have := (hu.lt _ e).2
    omega

theorem rowN_far {w : World} {base n size k : Nat} {e : TypeId} {v : Value} {xs : List Value} (h : w.ownsRow base e size v n xs) (hk : k < base) : v.ownBlock ≠ some k := fun hh => by
  have := (h.lt k hh).1; omega

theorem lrow_one (w : World) (n s : ByteArray) : LRow (w.alloc (.cells #[.string n, .string s] 54)) (some ⟨w.heap.size, 0, none⟩) [(n, s)] := by
  intro i hi
  have : i = 0 := by simpa using hi
  subst this
  exact ⟨w.heap.size, 0, rfl, by simp [LB.at'], by simp [LB.at'], by simp⟩

/-- What the two rows of matchOne hold when the values ks have been met. -/
noncomputable def mAll (L : List (List LB.Lab)) (n : ByteArray) (ks : List ByteArray) : List Int := ks.flatMap (IX.nums L L.length n)

noncomputable def mSome (L : List (List LB.Lab)) (m : LB.Mat) (ks : List ByteArray) : List Int := (ks.filter fun v => LB.one [(m.nm, v)] m).flatMap (IX.nums L L.length m.nm)

theorem mAll_snoc (L : List (List LB.Lab)) (n : ByteArray) (ks : List ByteArray) (s : ByteArray) : mAll L n (ks ++ [s]) = mAll L n ks ++ IX.nums L L.length n s := by simp [mAll]

theorem mSome_in (L : List (List LB.Lab)) (m : LB.Mat) (ks : List ByteArray) (s : ByteArray) (h : LB.one [(m.nm, s)] m = true) : mSome L m (ks ++ [s]) = mSome L m ks ++ IX.nums L L.length m.nm s := by simp [mSome, List.filter_append, h]

theorem mSome_out (L : List (List LB.Lab)) (m : LB.Mat) (ks : List ByteArray) (s : ByteArray) (h : LB.one [(m.nm, s)] m = false) : mSome L m (ks ++ [s]) = mSome L m ks := by simp [mSome, List.filter_append, h]

theorem mSome_len (L : List (List LB.Lab)) (hR : ∀ l ∈ L, LB.right l = true) (m : LB.Mat) (ks : List ByteArray) (h : ks.Nodup) : (mSome L m ks).length ≤ L.length :=
  IX.flat_len L hR m.nm _ (h.sublist List.filter_sublist)

theorem mAll_len (L : List (List LB.Lab)) (hR : ∀ l ∈ L, LB.right l = true) (n : ByteArray) (ks : List ByteArray) (h : ks.Nodup) : (mAll L n ks).length ≤ L.length := IX.flat_len L hR n _ h

theorem own_more {w : World} {base : Nat} {v : Value} {K M : List Int} (h : w.ownsRow base 3 1 v (K.length + M.length) (nv K ++ nv M)) : w.ownsRow base 3 1 v (K ++ M).length (nv (K ++ M)) := by
  rw [nv_append, List.length_append]
  exact h

set_option maxRecDepth 100000 in
set_option maxHeartbeats 1600000 in
theorem matchOne_any (bx cnt bo : Nat) (fo : ByteArray → Option Nat) (fi : ByteArray → ByteArray → Option Value) (L : List (List LB.Lab)) (m : LB.Mat) (w : World) (hI : IxR w bx L.length cnt (IX.nums L L.length) bo fo fi) (hR : ∀ l ∈ L, LB.right l = true) (hl : L.length ≤ 1000) (hm : m.nm.size ≤ maxLen) :
    Calls Tryz.prog 32 #[.pointer (some ⟨bx, 0, none⟩), mv m] w fun e w' => RowEnd (IX.idx L.length fun i => LB.one (IX.atS L i) m) w e w' := by
  have HI := hid hI
  have HR := hid hR
  obtain ⟨ii, hii, hi'⟩ := Option.map_eq_some_iff.1 Tryz.infoI
  simp only [Prod.mk.injEq] at hi'
  obtain ⟨hz0, hz1, hz2⟩ := hi'
  have HI0 := hid hii
  have HZ0 := hid hz0
  have HZ1 := hid hz1
  have HZ2 := hid hz2
  clear hii hz0 hz1 hz2
  have HB0 := hid ((Below.refl w.heap.size w).alloc (Nat.le_refl _) (.cells #[.string m.nm, .int .i64 m.op, .string m.vl] 52))
  have HX0 := hid (heap_alloc_new w (.cells #[.string m.nm, .int .i64 m.op, .string m.vl] 52))
  have hs0 : w.heap.size + 1 ≤ (w.alloc (.cells #[.string m.nm, .int .i64 m.op, .string m.vl] 52)).heap.size := by simp
  have hs1 : (w.alloc (.cells #[.string m.nm, .int .i64 m.op, .string m.vl] 52)).heap.size ≤ w.heap.size + 1 := by simp
  have HMD : Hid (∀ ks, IX.Met L m.nm ks → (if LB.one [] m = true then IX.sift IX.kOr ((mSome L m ks).mergeSort fun x y => decide (x ≤ y)) (IX.sift IX.kNot (IX.idx L.length fun _ => true) ((mAll L m.nm ks).mergeSort fun x y => decide (x ≤ y))) else ((mSome L m ks).mergeSort fun x y => decide (x ≤ y))) = IX.idx L.length fun i => LB.one (IX.atS L i) m) := fun ks hk => IX.match_one L hR m ks hk
  clear hI hR
  obtain ⟨nm, op, vl⟩ := m
  simp only at hm HB0 HX0 hs0 hs1 HMD
  go_enter Tryz.func32, Tryz.ntmps32
  go_wp2_with fail
  generalize w.alloc (.cells #[.string nm, .int .i64 op, .string vl] 52) = W at *
  have HIw := hid (HI.out.below HB0.out)
  have hL : (Instr.lookup 57 (.map (some bo)) (.string nm) false).run Tryz.prog W.drew = .ok (.map (fo nm)) W.drew :=
    MapF.look (w := W.drew) (HIw.out.out.block rfl) Tryz.underlying9 Tryz.underlying57 zeroO hm (oF_get fo nm)
  obtain ⟨w1, cnt1, hRg, hrg1, hg1, hsz1⟩ := MapO.range (w := W.drew) ((IdxR.inner HIw.out nm).block (fun _ _ => rfl)) Tryz.underlying9 Tryz.underlying69
  have hcx : W.cell? ⟨bx, 1, none⟩ = some (.map (some bo)) := HIw.out.c1
  have hcm : W.cell? ⟨w.heap.size, 0, none⟩ = some (.string nm) := by simp only [World.cell?, HX0.out]; rfl
  go_region
  have HRg1 : Hid (RngO Tryz.prog 9 w1 (fo nm) W.heap.size cnt (fi nm) [] cnt1) := hrg1
  have HB1 : Hid (Below w.heap.size w w1) := HB0.out.grown (row := none) (show World.grownBy _ _ _ from grown_heap hg1 rfl rfl rfl rfl) (by omega) (fun j hj => by cases hj)
  have HX1 : Hid (w1.heap[w.heap.size]? = some (.cells #[.string nm, .int .i64 op, .string vl] 52)) := (hg1.block w.heap.size (by show w.heap.size < W.heap.size; omega) (by simp)).trans HX0.out
  have hw1 : W.heap.size + 1 ≤ w1.heap.size := by rw [hsz1]; exact Nat.le_refl _
  clear hrg1 hg1 hsz1 hL hRg hcx hcm HX0 HB0 HIw
  generalize W.heap.size = r at *
  clear hs1
  go_wp2_with fail
  go_loopw [5, 6] (fun t5 t6 wr => ∃ (ks : List ByteArray) (c1 : Nat), RngO Tryz.prog 9 wr (fo nm) r cnt (fi nm) ks c1 ∧ ks.Nodup ∧ wr.ownsRow (r + 1) 3 1 t5 (mAll L nm ks).length (nv (mAll L nm ks)) ∧ wr.ownsRow (r + 1) 3 1 t6 (mSome L ⟨nm, op, vl⟩ ks).length (nv (mSome L ⟨nm, op, vl⟩ ks)) ∧ Apart t5 t6 ∧ Below w.heap.size w wr ∧ r + 1 ≤ wr.heap.size ∧ wr.heap[w.heap.size]? = some (.cells #[.string nm, .int .i64 op, .string vl] 52)) (fun _ _ wr => leftO wr (fo nm) r)
  case atStart => exact ⟨[], cnt1, HRg1.out, List.nodup_nil, World.ownsRow_nil _ _ _ _, World.ownsRow_nil _ _ _ _, .inl rfl, HB1.out, hw1, HX1.out⟩
  case round =>
    obtain ⟨ks, c1, hrg, hnd, ho5, ho6, hap, hbel, hsr, hX⟩ := hrel
    have HRg := hid hrg
    have HND := hid hnd
    have HO5 := hid ho5
    have HO6 := hid ho6
    have HAp := hid hap
    have HBl := hid hbel
    have HX := hid hX
    have hsz := hbel.size
    clear hrg hnd ho5 ho6 hap hbel hX HRg1 HB1 HX1 hw1
    go_wp2_with (at_next; refine wpList_next_o rfl (.tmp 16) rfl 9 Tryz.underlying9 (fo nm) r cnt (fi nm) ks c1 rfl HRg.out ?_ ?_)
    · intro hnd hall
      have HMet : Hid (IX.Met L nm ks) := ⟨hnd, fun v => by rw [hall v, ← IX.nums_ne L nm v]; exact HI.out.said nm v⟩
      have HEq := hid (HMD.out ks HMet.out)
      have HLA := hid (mAll_len L HR.out nm ks hnd)
      have HLS := hid (mSome_len L HR.out ⟨nm, op, vl⟩ ks hnd)
      clear hnd hall HRg HND HMD HMet
      generalize mAll L nm ks = MA at *
      generalize mSome L ⟨nm, op, vl⟩ ks = MS at *
      go_wp2_with fail
      refine (sortN_any u5 (r + 1) MA wr HO5.out (by have := HLA.out; omega)).mono ?_
      rintro e w3 ⟨rfl, ho3, hg3⟩
      have HO53 := hid ho3
      have HO63 := hid (HO6.out.kept hg3 HAp.out.kept)
      have HB3 := hid (HBl.out.grown hg3 hsz (fun j hj => by have := (HO5.out.lt j hj).1; omega))
      have HX3 : Hid (w3.heap[w.heap.size]? = some (.cells #[.string nm, .int .i64 op, .string vl] 52)) := (hg3.block w.heap.size (by omega) (fun e => rowN_far HO5.out (by omega) e.symm)).trans HX.out
      have hsz3 := Nat.le_trans hsz hg3.size
      have hLA : (MA.mergeSort fun x y => decide (x ≤ y)).length ≤ L.length := by rw [List.length_mergeSort]; exact HLA.out
      have hLS : (MS.mergeSort fun x y => decide (x ≤ y)).length ≤ L.length := by rw [List.length_mergeSort]; exact HLS.out
      clear ho3 hg3 HO5 HO6 HBl HX hsr
      go_wp2_with fail
      refine (sortN_any u6 (r + 1) MS w3 HO63.out (by have := HLS.out; omega)).mono ?_
      rintro e w4 ⟨rfl, ho4, hg4⟩
      have HO64 := hid ho4
      have HO54 := hid (HO53.out.kept hg4 HAp.out.kept')
      have HB4 := hid (HB3.out.grown hg4 hsz3 (fun j hj => by have := (HO63.out.lt j hj).1; omega))
      have HX4 : Hid (w4.heap[w.heap.size]? = some (.cells #[.string nm, .int .i64 op, .string vl] 52)) := (hg4.block w.heap.size (heap_lt HX3.out) (fun e => rowN_far HO63.out (by omega) e.symm)).trans HX3.out
      have hsz4 := Nat.le_trans hsz3 hg4.size
      clear ho4 hg4 HO53 HO63 HB3 HX3
      generalize (MA.mergeSort fun x y => decide (x ≤ y)) = SA at *
      generalize (MS.mergeSort fun x y => decide (x ≤ y)) = SS at *
      have cn0 : w4.cell? ⟨w.heap.size, 0, none⟩ = some (.string nm) := by simp only [World.cell?, HX4.out]; rfl
      have cn1 : w4.cell? ⟨w.heap.size, 1, none⟩ = some (.int .i64 op) := by simp only [World.cell?, HX4.out]; rfl
      have cn2 : w4.cell? ⟨w.heap.size, 2, none⟩ = some (.string vl) := by simp only [World.cell?, HX4.out]; rfl
      have HC := hid (one_any none [] 0 ⟨nm, op, vl⟩ w4 (fun i hi => by simp at hi) (by simp))
      go_wp2_with fail
      refine HC.out.mono ?_
      rintro e w5 ⟨rfl, hb5⟩
      have HO55 := hid (own_below HO54.out hb5)
      have HO65 := hid (own_below HO64.out hb5)
      have HB5 := hid (HB4.out.trans (hb5.mono hsz4))
      have hsz5 := Nat.le_trans hsz4 hb5.size
      clear hb5 HC HO54 HO64 HB4 HX4 cn0 cn1 cn2
      cases hone : LB.one [] ⟨nm, op, vl⟩ with
      | false =>
        have HE2 := HEq.out
        rw [hone] at HE2
        have HE3 := hid HE2
        clear HE2 hone
        go_wp2_with fail
        go_ret
        refine ⟨_, rfl, ?_, HB5.out⟩
        rw [← HE3.out]; exact HO65.out.mono (by omega)
      | true =>
        have HE2 := HEq.out
        rw [hone, if_pos rfl] at HE2
        have HE3 := hid HE2
        clear HE2 hone HEq
        have HCA := hid (all_ix bx L.length w5 (HI.out.below HB5.out).c0 (by omega))
        go_wp2_with fail
        refine HCA.out.mono ?_
        rintro e w6 ⟨v6, rfl, ho6, hb6⟩
        obtain ⟨ao6, cap6, rfl, hr6, hc6⟩ := IRow.of_own' ho6
        obtain ⟨ao5, cap5, he5, hr5, hc5⟩ := IRow.of_own' HO55.out
        subst he5
        have HCN := hid (not_any ao6 ao5 _ SA cap6 cap5 w6 hr6 (hr5.below hb6) hc6 hc5 (by have := IX.idx_len L.length fun _ => true; omega) (by omega))
        have HO66 := hid (own_below HO65.out hb6)
        have HB6 := hid (HB5.out.trans (hb6.mono hsz5))
        have hsz6 := Nat.le_trans hsz5 hb6.size
        have hln : (IX.sift IX.kNot (IX.idx L.length fun _ => true) SA).length ≤ 100000 := by
          have h1 := IX.sift_len IX.kNot (IX.idx L.length fun _ => true) SA
          have h2 := IX.idx_len L.length fun _ => true
          omega
        clear ho6 hb6 hr6 hr5 HCA HO55 HO65 HB5
        go_wp2_with fail
        refine HCN.out.mono ?_
        rintro e w7 ⟨v7, rfl, ho7, hb7⟩
        obtain ⟨ao7, cap7, rfl, hr7, hc7⟩ := IRow.of_own' ho7
        obtain ⟨ao8, cap8, he8, hr8, hc8⟩ := IRow.of_own' HO66.out
        subst he8
        have HCO := hid (or_any ao8 ao7 SS _ cap8 cap7 w7 (hr8.below hb7) hr7 hc8 hc7 (by omega) hln)
        have HB7 := hid (HB6.out.trans (hb7.mono hsz6))
        have hsz7 := Nat.le_trans hsz6 hb7.size
        clear ho7 hb7 hr7 hr8 HCN HO66 HB6
        go_wp2_with fail
        refine HCO.out.mono ?_
        rintro e w8 ⟨v8, rfl, ho8, hb8⟩
        have HO8 := hid ho8
        have HB8 := hid (HB7.out.trans (hb8.mono hsz7))
        clear ho8 hb8 HCO HB7
        go_wp2_with fail
        go_ret
        refine ⟨_, rfl, ?_, HB8.out⟩
        rw [← HE3.out]; exact HO8.out.mono (by omega)
    · intro s v w2 c2 hs hv hns hrg2 hlt2 hg2 hsz2 hen
      obtain ⟨hne, ao, cap, hve, hir⟩ := HI.out.row nm s v hv
      obtain ⟨ad, had⟩ : ∃ ad, ao = some ad := by
        obtain ⟨b, off, e, _⟩ := hir 0 (List.length_pos_iff.2 hne)
        exact ⟨_, e⟩
      subst had hve
      have hlow : ∀ b, fo nm = some b → b < r := fun b hb => by
        have := (HI.out.inn nm b hb).lt; omega
      have HND2 : Hid ((ks ++ [s]).Nodup) := List.nodup_append.2 ⟨HND.out, by simp, fun a ha b hb => by simp at hb; subst hb; exact fun e => hns (e ▸ ha)⟩
      have HLA := hid (mAll_len L HR.out nm (ks ++ [s]) HND2.out)
      have HLS := hid (mSome_len L HR.out ⟨nm, op, vl⟩ (ks ++ [s]) HND2.out)
      rw [mAll_snoc, List.length_append] at HLA
      have HAs := hid (mAll_snoc L nm ks s)
      have HSi := hid (mSome_in L ⟨nm, op, vl⟩ ks s)
      have HSo := hid (mSome_out L ⟨nm, op, vl⟩ ks s)
      have HRg2 := hid hrg2
      have HO52 := hid (HO5.out.kept hg2 (.inr (rowN_far HO5.out (by omega))))
      have HO62 := hid (HO6.out.kept hg2 (.inr (rowN_far HO6.out (by omega))))
      have HB2 := hid (HBl.out.grown hg2 hsz (fun j hj => by cases hj; omega))
      have HX2 : Hid (w2.heap[w.heap.size]? = some (.cells #[.string nm, .int .i64 op, .string vl] 52)) := (hg2.block w.heap.size (by omega) (fun h => by have := Option.some.inj h; omega)).trans HX.out
      have hsr2 : r + 1 ≤ w2.heap.size := Nat.le_trans hsr hg2.size
      have HIr := hid hir
      have HL1 : Hid (leftO wr (fo nm) r = c1) := HRg.out.left
      have HSL : Hid ((mSome L ⟨nm, op, vl⟩ ks).length + (IX.nums L L.length nm s).length ≤ 2000) := by
        have h1 := mSome_len L HR.out ⟨nm, op, vl⟩ ks HND.out
        have h2 : (IX.nums L L.length nm s).length ≤ L.length := IX.idx_len _ _
        show _ ≤ _
        omega
      clear hrg2 hg2 hsz2 hir HRg HO5 HO6 HBl HX HND HLS hns hne
      generalize hma2 : mAll L nm (ks ++ [s]) = MA2 at *
      generalize mAll L nm ks = MA at *
      generalize hms2 : mSome L ⟨nm, op, vl⟩ (ks ++ [s]) = MS2 at *
      have HMA2 := hid hma2
      have HMS2 := hid hms2
      clear hma2 hms2
      generalize mSome L ⟨nm, op, vl⟩ ks = MS at *
      generalize IX.nums L L.length nm s = NU at *
      have hhl := HLA.out
      have hsl := HSL.out
      have hsz' := HB2.out.size
      go_wp2_with (at_builtin; refine wpList_append_own_at _ rfl (.tmp 22) (.tmp 23) 45 rfl (r + 1) 3 ii (.int .i64 0) 1 8 Tryz.underlying45 HI0.out HZ0.out HZ1.out HZ2.out rfl (by decide) u5 MA.length (nv MA) rfl HO52.out ad NU.length cap (nv NU) rfl (by rw [nv_length]; omega) (irow_cells HIr.out HB2.out) (nv_one _) (by unfold maxLen; omega) (by omega) hsr2 ?_)
      intro v7 w7 hown7 hgrow7 _ hloc7
      have HO7 := hid (own_more hown7)
      have HO67 := hid (HO62.out.kept hgrow7 HAp.out.kept)
      have HAp7 := hid (HAp.out.left HO62.out hloc7)
      have HRg7 := hid (HRg2.out.kept hgrow7 (fun b hb => fun e => rowN_far HO52.out (by have := hlow b hb; omega) e.symm) (fun e => rowN_far HO52.out (by omega) e.symm))
      have HB7 := hid (HB2.out.grown hgrow7 hsz' (fun j hj => by have := (HO52.out.lt j hj).1; omega))
      have HX7 : Hid (w7.heap[w.heap.size]? = some (.cells #[.string nm, .int .i64 op, .string vl] 52)) := (hgrow7.block w.heap.size (by omega) (fun e => rowN_far HO52.out (by omega) e.symm)).trans HX2.out
      have hsr7 : r + 1 ≤ w7.heap.size := Nat.le_trans hsr2 hgrow7.size
      have hsz7 : w.heap.size ≤ w7.heap.size := Nat.le_trans hsz' hgrow7.size
      clear hown7 hgrow7 hloc7 HO52 HO62 HAp HRg2 HB2 HX2 hsr2 hen hsz' hsz hv
      have HX8 : Hid ((w7.alloc (.cells #[.string nm, .string s] 54)).heap[w.heap.size]? = some (.cells #[.string nm, .int .i64 op, .string vl] 52)) := (Below.heap_alloc w7 _ _ (heap_lt HX7.out)).trans HX7.out
      have cm0 : w7.cell? ⟨w.heap.size, 0, none⟩ = some (.string nm) := by simp only [World.cell?, HX7.out]; rfl
      have cn0 : (w7.alloc (.cells #[.string nm, .string s] 54)).cell? ⟨w.heap.size, 0, none⟩ = some (.string nm) := by simp only [World.cell?, HX8.out]; rfl
      have cn1 : (w7.alloc (.cells #[.string nm, .string s] 54)).cell? ⟨w.heap.size, 1, none⟩ = some (.int .i64 op) := by simp only [World.cell?, HX8.out]; rfl
      have cn2 : (w7.alloc (.cells #[.string nm, .string s] 54)).cell? ⟨w.heap.size, 2, none⟩ = some (.string vl) := by simp only [World.cell?, HX8.out]; rfl
      have HC := hid (one_any (some ⟨w7.heap.size, 0, none⟩) [(nm, s)] 1 ⟨nm, op, vl⟩ (w7.alloc (.cells #[.string nm, .string s] 54)) (lrow_one w7 nm s) (by simp))
      go_wp2_with fail
      refine HC.out.mono ?_
      rintro e w9 ⟨rfl, hb9⟩
      have hb79 : Below w7.heap.size w7 w9 := ((Below.refl w7.heap.size w7).alloc (Nat.le_refl _) _).trans (hb9.mono (by simp))
      have HO9 := hid (own_below HO7.out hb79)
      have HO69 := hid (own_below HO67.out hb79)
      have HRg9 := hid (HRg7.out.kept (below_grown hb79 none) (by simp) (by simp))
      have HB9 := hid (HB7.out.trans (hb79.mono hsz7))
      have HX9 : Hid (w9.heap[w.heap.size]? = some (.cells #[.string nm, .int .i64 op, .string vl] 52)) := (hb79.block _ (by omega)).trans HX7.out
      have hsr9 : r + 1 ≤ w9.heap.size := Nat.le_trans hsr7 hb79.size
      have hsz9 : w.heap.size ≤ w9.heap.size := Nat.le_trans hsz7 hb79.size
      clear hb9 hb79 HC HO7 HO67 HRg7 HB7 HX7 HX8 cm0 cn0 cn1 cn2 hsr7 hsz7
      cases hone : LB.one [(nm, s)] ⟨nm, op, vl⟩ with
      | true =>
        have HS2 := hid (HSi.out hone)
        clear hone
        go_wp2_with (at_builtin; refine wpList_append_own_at _ rfl (.tmp 32) (.tmp 33) 45 rfl (r + 1) 3 ii (.int .i64 0) 1 8 Tryz.underlying45 HI0.out HZ0.out HZ1.out HZ2.out rfl (by decide) u6 MS.length (nv MS) rfl HO69.out ad NU.length cap (nv NU) rfl (by rw [nv_length]; omega) (irow_cells HIr.out HB9.out) (nv_one _) (by unfold maxLen; omega) (by omega) hsr9 ?_)
        intro v8 w10 hown8 hgrow8 _ hloc8
        have HO8 := hid (own_more hown8)
        have HO710 := hid (HO9.out.kept hgrow8 HAp7.out.kept')
        have HAp8 := hid (HAp7.out.right HO9.out hloc8)
        have HRg10 := hid (HRg9.out.kept hgrow8 (fun b hb => fun e => rowN_far HO69.out (by have := hlow b hb; omega) e.symm) (fun e => rowN_far HO69.out (by omega) e.symm))
        have HB10 := hid (HB9.out.grown hgrow8 hsz9 (fun j hj => by have := (HO69.out.lt j hj).1; omega))
        have HX10 : Hid (w10.heap[w.heap.size]? = some (.cells #[.string nm, .int .i64 op, .string vl] 52)) := (hgrow8.block w.heap.size (by omega) (fun e => rowN_far HO69.out (by omega) e.symm)).trans HX9.out
        have hsr10 : r + 1 ≤ w10.heap.size := Nat.le_trans hsr9 hgrow8.size
        clear hown8 hgrow8 hloc8 HO9 HO69 HAp7 HRg9 HB9 HX9
        go_wp2_with fail
        go_roundw
        case rel => exact ⟨ks ++ [s], c2, HRg10.out, HND2.out, by rw [HMA2.out, HAs.out]; exact HO710.out, by rw [HMS2.out, HS2.out]; exact HO8.out, HAp8.out, HB10.out, hsr10, HX10.out⟩
        case measure => rw [HRg10.out.left, HL1.out]; exact hlt2
      | false =>
        have HS2 := hid (HSo.out hone)
        clear hone
        go_wp2_with fail
        go_roundw
        case rel => exact ⟨ks ++ [s], c2, HRg9.out, HND2.out, by rw [HMA2.out, HAs.out]; exact HO9.out, by rw [HMS2.out, HS2.out]; exact HO69.out, HAp7.out, HB9.out, hsr9, HX9.out⟩
        case measure => rw [HRg9.out.left, HL1.out]; exact hlt2

/-- What Match leaves: the numbers of all that are as is asked, or an error. -/
def MatchEnd (L : List (List LB.Lab)) (m : List LB.Mat) (w : World) (e : Ending) (w' : World) : Prop :=
  Below w.heap.size w w' ∧
  ((LB.asked m = false ∧ e = .returned (.tuple #[.slice none 0 0, .iface 25 (.int .i64 1)])) ∨
   (LB.asked m = true ∧ ∃ v, e = .returned (.tuple #[v, .nilIface]) ∧ w'.ownsRow w.heap.size 3 1 v (IX.idx L.length fun i => LB.all (IX.atS L i) m).length (nv (IX.idx L.length fun i => LB.all (IX.atS L i) m))))

theorem asked_size {m : List LB.Mat} (h : LB.asked m = true) (i : Nat) (hi : i < m.length) : (LB.am m i).nm.size ≤ maxLen := by
  unfold LB.asked at h
  rw [Bool.and_eq_true, List.all_eq_true] at h
  have := h.2 _ (LB.am_mem m i hi)
  unfold LB.askd at this
  simp only [Bool.and_eq_true, decide_eq_true_eq] at this
  have h2 := (of_decide_eq_true this.1.1).2.1
  unfold maxLen
  omega

set_option maxRecDepth 100000 in
set_option maxHeartbeats 1600000 in
theorem match_any (bx cnt bo : Nat) (fo : ByteArray → Option Nat) (fi : ByteArray → ByteArray → Option Value) (L : List (List LB.Lab)) (ao : Option Addr) (m : List LB.Mat) (cap : Nat) (w : World) (hI : IxR w bx L.length cnt (IX.nums L L.length) bo fo fi) (hR : ∀ l ∈ L, LB.right l = true) (hl : L.length ≤ 1000) (hM : MRow w ao m) (hm : m.length ≤ 1000) :
    Calls Tryz.prog 13 #[.pointer (some ⟨bx, 0, none⟩), .slice ao m.length cap] w fun e w' => MatchEnd L m w e w' := by
  have HI := hid hI
  have HR := hid hR
  have HM := hid hM
  have HA := hid (asked_any ao m cap w hM hm)
  clear hI hR hM
  go_enter Tryz.func13, Tryz.ntmps13
  go_wp2_with fail
  refine HA.out.mono ?_
  rintro e w1 ⟨rfl, hb1⟩
  have HB1 := hid hb1
  have hsz1 := hb1.size
  clear hb1 HA
  cases ha : LB.asked m with
  | false =>
    have HAf := hid ha
    clear ha
    go_wp2_with fail
    go_ret2
    exact ⟨HB1.out, .inl ⟨HAf.out, rfl⟩⟩
  | true =>
    have HAt := hid ha
    clear ha
    go_wp2_with fail
    refine (known_any bx w1).mono ?_
    rintro e w2 ⟨rfl, rfl⟩
    go_wp2_with fail
    refine (all_ix bx L.length w2 (HI.out.below HB1.out).c0 (by omega)).mono ?_
    rintro e w3 ⟨v3, rfl, ho3, hb3⟩
    have HO3 : Hid (w3.ownsRow w.heap.size 3 1 v3 (IX.idx L.length fun i => LB.all (IX.atS L i) (m.take 0)).length (nv (IX.idx L.length fun i => LB.all (IX.atS L i) (m.take 0)))) := by
      have e : (IX.idx L.length fun i => LB.all (IX.atS L i) (m.take 0)) = IX.idx L.length fun _ => true := by simp [LB.all]
      show World.ownsRow _ _ _ _ _ _ _
      rw [e]; exact ho3.mono hsz1
    have HB3 := hid (HB1.out.trans (hb3.mono hsz1))
    clear ho3 hb3 HB1
    go_wp2_with fail
    go_loopw [6, 19] (fun t6 ti wr => ∃ k : Nat, k ≤ m.length ∧ ti = .int .i64 k ∧ wr.ownsRow w.heap.size 3 1 t6 (IX.idx L.length fun i => LB.all (IX.atS L i) (m.take k)).length (nv (IX.idx L.length fun i => LB.all (IX.atS L i) (m.take k))) ∧ Below w.heap.size w wr) (fun _ ti _ => m.length - (intOf ti).toNat)
    case atStart => exact ⟨0, by omega, rfl, HO3.out, HB3.out⟩
    case round =>
      obtain ⟨k, hk, rfl, hown, hbel⟩ := hrel
      have HO := hid hown
      have HBl := hid hbel
      have hsz := hbel.size
      clear hown hbel HO3 HB3
      by_cases hlt : k < m.length
      · obtain ⟨b, off, hao, hc0, hc1, hc2, hbs⟩ := HM.out k hlt
        subst hao
        have hcell0 := (HBl.out.cell (p := ⟨b, off + k * 3, none⟩) hbs).trans hc0
        have hcell1 := (HBl.out.cell (p := ⟨b, off + k * 3 + 1, none⟩) hbs).trans hc1
        have hcell2 := (HBl.out.cell (p := ⟨b, off + k * 3 + 2, none⟩) hbs).trans hc2
        clear hc0 hc1 hc2
        have HMo := hid (IX.match_more L m k hlt)
        have HSi := hid (asked_size HAt.out k hlt)
        have hil := IX.idx_len L.length fun i => LB.all (IX.atS L i) (m.take k)
        generalize (IX.idx L.length fun i => LB.all (IX.atS L i) (m.take k)) = R at *
        generalize LB.am m k = x at *
        obtain ⟨nm, op, vl⟩ := x
        simp only at hcell0 hcell1 hcell2
        have HB2 := hid (HBl.out.alloc hsz (.cells #[.string nm, .int .i64 op, .string vl] 52))
        have HO2 := hid (HO.out.alloc (.cells #[.string nm, .int .i64 op, .string vl] 52))
        have HC := hid (matchOne_any bx cnt bo fo fi L ⟨nm, op, vl⟩ (wr.alloc (.cells #[.string nm, .int .i64 op, .string vl] 52)) (HI.out.below HB2.out) HR.out hl HSi.out)
        have hsz2 := HB2.out.size
        clear HO HBl
        go_wp2_with fail
        refine HC.out.mono ?_
        rintro e w5 ⟨v5, rfl, ho5, hb5⟩
        obtain ⟨ao5, cap5, rfl, hr5, hc5⟩ := IRow.of_own' ho5
        obtain ⟨ao6, cap6, he6, hr6, hc6⟩ := IRow.of_own' HO2.out
        subst he6
        have HCA := hid (and_any ao6 ao5 R _ cap6 cap5 w5 (hr6.below hb5) hr5 hc6 hc5 (by omega) (by have := IX.idx_len L.length fun i => LB.one (IX.atS L i) ⟨nm, op, vl⟩; omega))
        have HB5 := hid (HB2.out.trans (hb5.mono hsz2))
        have hsz5 := Nat.le_trans hsz2 hb5.size
        clear ho5 hb5 hr5 hr6 HC HO2 HB2
        go_wp2_with fail
        refine HCA.out.mono ?_
        rintro e w6 ⟨v6, rfl, ho6, hb6⟩
        have HO6 := hid (ho6.mono hsz5)
        have HB6 := hid (HB5.out.trans (hb6.mono hsz5))
        clear ho6 hb6 HCA HB5
        go_wp2_with fail
        go_roundw
        case rel => exact ⟨k + 1, by omega, by go_num, by rw [← HMo.out]; exact HO6.out, HB6.out⟩
        case measure => simp [intOf]; omega
      · have he : k = m.length := by omega
        subst he
        go_wp2_with fail
        go_ret2
        refine ⟨HBl.out, .inr ⟨HAt.out, _, rfl, ?_⟩⟩
        have := HO.out
        rw [List.take_of_length_le (Nat.le_refl _)] at this
        exact this

end Go.Proofs.YtdmnlmohfaafoacGreatDoor
