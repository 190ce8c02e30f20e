/- What the document's Together answers. -/
import Derived.Test.YtdmnlmohfaafoabDoorRlTogN
import Derived.Test.YtdmnlmohfaafoabDoorRlSort
import Derived.Test.YtdmnlmohfaafoabDoorRlRefF
namespace Go.Proofs.YtdmnlmohfaafoabDoor
open Go.RowKit Go.Maps

theorem law64 : Keyed Tryd.prog 2 := int_keyed Tryd.underlying2

theorem wf64 {n : Int} (h : -9223372036854775808 ≤ n ∧ n ≤ 9223372036854775807) : (Lit.int .i64 n).wf = true := WalkArith.wf_i64 (by omega)

theorem Tryd.info2 : (Tryd.prog.info? 2).map (fun i => (i.zero, i.size, i.bytes)) = some (some (.int .i64 0), 1, 8) := by kernel_rfl

theorem zeroB (w : World) : (zeroValue 72).run Tryd.prog w = .ok (aggB ⟨0, 0, 0, 0, 0⟩) w := by kernel_rfl

/-- A variable of one's own that holds a slice of numbers. -/
def BoxI (B : Nat) (w : World) (v : Value) : Prop := w.heap[B]? = some (.cells #[v] 78)

theorem BoxI.cell {B : Nat} {w : World} {v : Value} (h : BoxI B w v) : w.cell? ⟨B, 0, none⟩ = some v ∧ w.frozen? ⟨B, 0, none⟩ = false := by
  unfold BoxI at h
  constructor
  · simp only [World.cell?, h]; rfl
  · simp [World.frozen?, h]

theorem BoxI.kept {B : Nat} {w w' : World} {v : Value} {row : Option Nat} (h : BoxI B w v) (hg : w.grownBy w' row) (hne : some B ≠ row) : BoxI B w' v := (hg.block B (heap_lt h) hne).trans h

theorem BoxI.alloc {B : Nat} {w : World} {v : Value} (h : BoxI B w v) (o : Obj) : BoxI B (w.alloc o) v := h.kept (World.grownBy_alloc w o none) (by simp)

theorem BoxI.set {B : Nat} {w : World} {v : Value} (h : BoxI B w v) (u : Value) : BoxI B (w.setCell ⟨B, 0, none⟩ u) u := by
  have := heap_setCell_same w B 0 #[v] 78 u h
  simpa [BoxI] using this

theorem grown_setI (w : World) (B : Nat) (u : Value) : w.grownBy (w.setCell ⟨B, 0, none⟩ u) (some B) :=
  ⟨rfl, rfl, rfl, by simp, fun k _ hk => Below.heap_setCell w ⟨B, 0, none⟩ u k (fun e => hk (by rw [e]))⟩

theorem rowI_far {w : World} {base n size k : Nat} {e : TypeId} {v : Value} {xs : List Value} (h : w.ownsRow base e size v n xs) (hk : k < base) : v.ownBlock ≠ some k := fun hh => by
  have := (h.lt k hh).1; omega

theorem ownI_slice {w : World} {base n : Nat} {v : Value} {xs : List Value} (h : w.ownsRow base 2 1 v n xs) : ∃ ao cap, v = .slice ao n cap := by
  rcases h.2 with ⟨h, hn⟩ | ⟨g, cap, cur, h, _⟩
  · exact ⟨none, 0, by rw [h, hn]⟩
  · exact ⟨_, _, h⟩

theorem ownI_succ {w : World} {base n : Nat} {v : Value} {xs : List Value} (h : w.ownsRow base 2 1 v (n + 1) xs) : ∃ g cap, v = .slice (some ⟨g, 0, none⟩) (n + 1) cap := by
  rcases h.2 with ⟨_, h0⟩ | ⟨g, cap, _, rfl, _⟩
  · omega
  · exact ⟨g, cap, rfl⟩

theorem one_newI (w : World) (n : Int) : ∀ j u, [Value.int .i64 n][j]? = some u → (w.alloc (.cells #[.int .i64 n] 2)).cell? ((⟨w.heap.size, 0, none⟩ : Addr).add j) = some u := by
  intro j u hj
  match j, hj with
  | 0, hj => simp at hj; subst hj; simp [Addr.add]

theorem three_newI (w : World) (o1 o2 : Obj) (n : Int) : ∀ j u, [Value.int .i64 n][j]? = some u → (((w.alloc o1).alloc o2).alloc (.cells #[.int .i64 n] 2)).cell? ((⟨w.heap.size + 2, 0, none⟩ : Addr).add j) = some u := by
  have h := one_newI ((w.alloc o1).alloc o2) n
  have e : ((w.alloc o1).alloc o2).heap.size = w.heap.size + 2 := by simp
  rwa [e] at h

theorem map_below {P : Program} {k : TypeId} {R : Value → Option (DataW Unit × List MemPlace)} {w w' : World} {B b n : Nat} {D : DataW Unit} (h : w.ownsMap P k R b n D) (hb : Below B w w') (hB : b < B) : w'.ownsMap P k R b n D := by
  obtain ⟨es, clock, h1, h2⟩ := h
  exact ⟨es, clock, (hb.block b hB).trans h1, h2⟩

theorem flr_st (span : Int) (hs : 1 ≤ span ∧ span ≤ 1099511627776) (t : Int) (ht : -9007199254740992 ≤ t ∧ t ≤ 9007199254740992) : -9223372036854775808 ≤ CL.flr t span ∧ CL.flr t span ≤ 9223372036854775807 := by
  have := CL.flr_le t span hs.1; omega

theorem tog_take (l : List CL.Bkt) (span : Int) (k : Nat) (h : k < l.length) : (l.take (k + 1)).map (CL.toSt fun t => CL.flr t span) = (l.take k).map (CL.toSt fun t => CL.flr t span) ++ [⟨CL.flr (atB l k).st span, (atB l k).ct, (atB l k).sm, (atB l k).mn, (atB l k).mx⟩] := by
  rw [List.take_succ_eq_append_getElem h, List.map_append, List.map_singleton, atB_eq l k h]; rfl

theorem tog_wf (l : List CL.Bkt) (span : Int) (hs : 1 ≤ span ∧ span ≤ 1099511627776) (hR : ∀ b ∈ l, -9007199254740992 ≤ b.st ∧ b.st ≤ 9007199254740992) (t : Int) (ht : CL.tot (l.map (CL.toSt fun t => CL.flr t span)) t ≠ none) : -9223372036854775808 ≤ t ∧ t ≤ 9223372036854775807 := by
  have h : ¬ ∀ b ∈ l.map (CL.toSt fun t => CL.flr t span), b.st ≠ t := fun h => ht ((CL.tot_none _ _).2 h)
  simp only [List.mem_map, forall_exists_index, and_imp, Classical.not_forall] at h
  obtain ⟨b, x, hx, hb, he⟩ := h
  have he : b.st = t := Classical.not_not.1 he
  subst hb
  have e : (CL.toSt (fun t => CL.flr t span) x).st = CL.flr x.st span := rfl
  rw [← he, e]
  exact flr_st span hs x.st (hR x hx)

theorem got_take (L : List CL.Bkt) (S : List Int) (j : Nat) (h : j < S.length) : (S.take (j + 1)).map (got L) = (S.take j).map (got L) ++ [got L S[j]] := by
  rw [List.take_succ_eq_append_getElem h, List.map_append, List.map_singleton]

set_option maxRecDepth 100000 in
set_option maxHeartbeats 3200000 in
theorem rtog_any (ao : Option Addr) (l : List CL.Bkt) (cap : Nat) (span : Int) (w : World) (hS : BRow w ao l) (hR : ∀ b ∈ l, -9007199254740992 ≤ b.st ∧ b.st ≤ 9007199254740992) (hl : l.length ≤ 1000) (hs : 1 ≤ span ∧ span ≤ 1099511627776) :
    Calls Tryd.prog 18 #[.slice ao l.length cap, .int .i64 span] w fun e w' => ∃ v out, e = .returned v ∧ w'.ownsRow w.heap.size 72 5 v out.length (bv out) ∧ Below w.heap.size w w' ∧ CL.RiseB out ∧ ∀ t, CL.tot out t = CL.tot (l.map (CL.toSt fun t => CL.flr t span)) t := by
  have HS := hid hS
  have HR := hid hR
  clear hS hR
  obtain ⟨ii, hi, hi'⟩ := Option.map_eq_some_iff.1 Tryd.info72
  simp only [Prod.mk.injEq] at hi'
  obtain ⟨hz0, hz1, hz2⟩ := hi'
  have HI0 := hid hi
  have HZ0 := hid hz0
  have HZ1 := hid hz1
  have HZ2 := hid hz2
  clear hi hz0 hz1 hz2
  obtain ⟨ji, hi, hi'⟩ := Option.map_eq_some_iff.1 Tryd.info2
  simp only [Prod.mk.injEq] at hi'
  obtain ⟨hz0, hz1, hz2⟩ := hi'
  have HJ0 := hid hi
  have HY0 := hid hz0
  have HY1 := hid hz1
  have HY2 := hid hz2
  clear hi hz0 hz1 hz2
  have hmm := @run_makeMap Tryd.prog
  go_enter Tryd.func18, Tryd.ntmps18
  have HM0 := hid ((World.ownsMap_made (H := Unit) w Tryd.prog 2 bktElem).alloc (.cells #[.slice none 0 0] 78))
  have HB0 := hid ((((Below.refl w.heap.size w).alloc (Nat.le_refl _) (.map #[] 0))).alloc (by simp) (.cells #[.slice none 0 0] 78))
  have HX0 : Hid (BoxI (w.heap.size + 1) ((w.alloc (.map #[] 0)).alloc (.cells #[.slice none 0 0] 78)) (.slice none 0 0)) := by
    have h := heap_alloc_new (w.alloc (.map #[] 0)) (.cells #[.slice none 0 0] 78)
    show BoxI _ _ _
    unfold BoxI
    simpa using h
  have hs0 : w.heap.size + 2 ≤ ((w.alloc (.map #[] 0)).alloc (.cells #[.slice none 0 0] 78)).heap.size := by simp
  go_wp2_with fail
  go_loopw [17] (fun ti wr => ∃ (k : Nat) (D : DataW Unit) (S : List Int) (v : Value), k ≤ l.length ∧ ti = .int .i64 k ∧ wr.ownsMap Tryd.prog 2 bktElem w.heap.size k D ∧ TelB D S ((l.take k).map (CL.toSt fun t => CL.flr t span)) ∧ BoxI (w.heap.size + 1) wr v ∧ wr.ownsRow (w.heap.size + 2) 2 1 v S.length (iv S) ∧ Below w.heap.size w wr ∧ w.heap.size + 2 ≤ wr.heap.size) (fun ti _ => l.length - (intOf ti).toNat)
  case atStart => exact ⟨0, .map [], [], .slice none 0 0, Nat.zero_le _, rfl, HM0.out, TelB.start, HX0.out, World.ownsRow_nil _ _ _ _, HB0.out, hs0⟩
  case round =>
    obtain ⟨k, D, S, v, hk, rfl, hmap, htel, hbox, hown, hbel, hws⟩ := hrel
    have HM := hid hmap
    have HT := hid htel
    have HX := hid hbox
    have HO := hid hown
    have HBl := hid hbel
    have hsz := hbel.size
    have hSl : S.length ≤ 1000 := by
      have := htel.2.1
      rw [List.length_map, List.length_take] at this; omega
    clear hmap htel hbox hown hbel
    obtain ⟨av, nv, cv, hv, hnv⟩ : ∃ av nv cv, v = .slice av nv cv ∧ nv = S.length := by
      obtain ⟨av, cv, h⟩ := ownI_slice HO.out
      exact ⟨av, _, cv, h, rfl⟩
    have HNV := hid hnv
    clear hnv
    subst hv
    by_cases hlt : k < l.length
    · obtain ⟨b, off, hao, hc, hbs⟩ := HS.out k hlt
      subst hao
      obtain ⟨c0, c1, c2, c3, c4⟩ := hc.kept (HBl.out.block b hbs)
      have HTk := hid (tog_take l span k hlt)
      have hr1 := HR.out _ (atB_mem l k hlt)
      clear hc
      generalize (l.take k).map (CL.toSt fun t => CL.flr t span) = G at *
      generalize atB l k = x at *
      obtain ⟨x0, x1, x2, x3, x4⟩ := x
      simp only at c0 c1 c2 c3 c4 hr1
      have HF := hid (rfloor_any x0 span (wr.alloc (boxB ⟨x0, x1, x2, x3, x4⟩)) hs hr1)
      have HFw := hid (flr_st span hs x0 hr1)
      generalize CL.flr x0 span = F at *
      simp only at HTk
      go_wp2_with fail
      refine Calls.mono HF.out ?_
      rintro e w5 ⟨rfl, rfl⟩
      have hkF : keyOf Tryd.prog 2 (.int .i64 F) = some (.int .i64 F) := keyOf_int_mk Tryd.underlying2 (wf64 HFw.out)
      have HKF := hid hkF
      clear hkF HF
      have hsb : w.heap.size + 1 < wr.heap.size := by omega
      cases htot : CL.tot G F with
      | none =>
        have HNo := hid ((HT.out.2.2.2 F).2.1 htot)
        have HT2 := hid (HT.out.new ⟨F, x1, x2, x3, x4⟩ htot)
        have c6 : ∀ o1 o2, ((wr.alloc o1).alloc o2).cell? ⟨w.heap.size + 1, 0, none⟩ = some (.slice av nv cv) := fun o1 o2 => ((HX.out.alloc o1).alloc o2).cell.1
        clear htot
        go_wp2_with (first
          | (at_lookup; refine wpList_lookup_miss _ rfl _ _ 77 rfl 2 72 law64 Tryd.underlying77 (zeroB _) w.heap.size k D rfl (HM.out.alloc _) _ (.int .i64 F) rfl HKF.out HNo.out ?_; intro z0 z1 z2 z3 z4)
          | (at_builtin; refine wpList_append_own _ rfl (.tmp 35) (.tmp 38) 78 rfl (w.heap.size + 2) 2 ji (.int .i64 0) 1 8 Tryd.underlying78 HJ0.out HY0.out HY1.out HY2.out rfl (by decide) (.slice av nv cv) S.length (iv S) rfl (((HO.out.alloc _).alloc _).alloc _) ⟨wr.heap.size + 2, 0, none⟩ 1 1 [.int .i64 F] rfl rfl (three_newI wr _ _ F) (by simp [Value.oneCell']) (by unfold maxLen; omega) (by omega) (by simp; omega) ?_; intro v7 w7 hown7 hgrow7 _; obtain ⟨g7, cap7, hv7⟩ := ownI_succ hown7; subst hv7; have HO7 := hid hown7; have HX7 := hid ((((HX.out.alloc _).alloc _).alloc _).kept hgrow7 (rowI_far HO.out (by omega)).symm); have HM7 := hid ((((HM.out.alloc _).alloc _).alloc _).kept hgrow7 (rowI_far HO.out (by omega)).symm); have HB7 := hid ((((HBl.out.alloc hsz _).alloc (by simp; omega) _).alloc (by simp; omega) _).grown hgrow7 (by simp; omega) (fun j hj => by have := (HO.out.lt j hj).1; omega)); have hs7 : wr.heap.size + 3 ≤ w7.heap.size := (by have := hgrow7.size; simp at this; omega); have HV7 := hid ((((Five.new wr ⟨F, x1, x2, x3, x4⟩).alloc (by simp) _).alloc (by simp; omega) _).grown (by simp; omega) hgrow7 (fun hh => by have := (HO.out.lt _ hh).2; omega)); have c7 := HX7.out.cell.1; have f7 := HX7.out.cell.2; obtain ⟨e0, e1, e2, e3, e4⟩ := HV7.out.grown (by omega) (grown_setI w7 (w.heap.size + 1) (.slice (some ⟨g7, 0, none⟩) (S.length + 1) cap7)) (by simp; omega); have HM7s := hid (HM7.out.kept (grown_setI w7 (w.heap.size + 1) (.slice (some ⟨g7, 0, none⟩) (S.length + 1) cap7)) (fun h => by have := Option.some.inj h; omega)); clear hown7 hgrow7)
          | (at_mapUpdate; refine wpList_mapUpdate_own _ rfl _ _ _ 77 rfl 2 72 law64 Tryd.underlying77 bktElem w.heap.size k D rfl HM7s.out (by unfold maxLen; omega) _ _ (.int .i64 F) rfl rfl HKF.out _ [] rfl ?_; intro w8 hmap8 hgrow8; have HM8 := hid hmap8; have HG8 := hid hgrow8; clear hmap8 hgrow8))
        go_roundw
        case rel =>
          refine ⟨k + 1, _, S ++ [F], _, by omega, by go_num, HM8.out, by rw [HTk.out]; exact HT2.out, (HX7.out.set _).kept HG8.out (by simp), ?_, ?_, ?_⟩
          · have h := (HO7.out.kept (grown_setI w7 (w.heap.size + 1) _) (.inr (rowI_far HO7.out (by omega)))).kept HG8.out (.inr (rowI_far HO7.out (by omega)))
            rw [List.length_append, iv, List.map_append]
            exact h
          · exact (HB7.out.grown (grown_setI w7 (w.heap.size + 1) _) (by omega) (fun j hj => by cases hj; omega)).grown HG8.out (by simp; omega) (fun j hj => by cases hj; omega)
          · have := HG8.out.size
            simp at this; omega
        case measure => simp [intOf]; omega
      | some c0 =>
        have HHit := hid ((HT.out.2.2.2 F).2.2 c0 htot)
        have HT2 := hid (HT.out.more ⟨F, x1, x2, x3, x4⟩ c0 htot)
        clear htot
        go_wp2_with (first
          | (at_lookup; refine wpList_lookup_hit _ rfl _ _ 77 rfl 2 72 law64 Tryd.underlying77 (zeroB _) w.heap.size k D rfl (HM.out.alloc _) _ (.int .i64 F) rfl HKF.out c0 HHit.out ?_)
          | (at_mapUpdate; refine wpList_mapUpdate_own _ rfl _ _ _ 77 rfl 2 72 law64 Tryd.underlying77 bktElem w.heap.size k D rfl ((HM.out.alloc _).alloc _) (by unfold maxLen; omega) _ _ (.int .i64 F) rfl rfl HKF.out _ [] rfl ?_; intro w8 hmap8 hgrow8; have HM8 := hid hmap8; have HG8 := hid hgrow8; clear hmap8 hgrow8))
        all_goals
          go_roundw
          case rel =>
            refine ⟨k + 1, _, S, _, by omega, by go_num, HM8.out, ?_, ((HX.out.alloc _).alloc _).kept HG8.out (by simp), ((HO.out.alloc _).alloc _).kept HG8.out (.inr (rowI_far HO.out (by omega))), ?_, ?_⟩
            · rw [HTk.out]
              refine Eq.mp ?_ HT2.out
              congr 2
              unfold CL.put dB
              simp only [W_wrap64]
              congr 1
              simp
              omega
            · exact ((HBl.out.alloc hsz _).alloc (by simp; omega) _).grown HG8.out (by simp; omega) (fun j hj => by cases hj; omega)
            · have := HG8.out.size
              simp at this; omega
          case measure => simp [intOf]; omega
    · have he : k = l.length := by omega
      subst he
      have HT2 : Hid (TelB D S (l.map (CL.toSt fun t => CL.flr t span))) := by
        have := HT.out
        rw [List.take_of_length_le (Nat.le_refl _)] at this
        exact this
      have HWf := hid (tog_wf l span hs HR.out)
      generalize hL : l.map (CL.toSt fun t => CL.flr t span) = L at *
      have HL := hid hL
      clear hL
      have c6 := HX.out.cell.1
      have HSo := hid (sortI_any (.slice av nv cv) (w.heap.size + 2) (w.heap.size + 1) S wr HO.out (by omega) c6 (heap_lt HX.out) (rowI_far HO.out (by omega)))
      clear HT
      go_wp2_with fail
      refine HSo.out.mono ?_
      rintro e w9 ⟨rfl, S', hp, hsrt, hown9, hg9⟩
      have c9 := (HX.out.kept hg9 (rowI_far HO.out (by omega)).symm).cell.1
      have HM9 := hid (HM.out.kept hg9 (rowI_far HO.out (by omega)).symm)
      have HWh := hid (HT2.out.whole hp hsrt)
      have HAt : Hid (∀ t ∈ S', ∀ z, D.atKey (.int .i64 t) z = dB (got L t)) := fun t ht z => HT2.out.at (hp.mem_iff.1 ht) z
      have HKy : Hid (∀ t ∈ S', -9223372036854775808 ≤ t ∧ t ≤ 9223372036854775807) := fun t ht => HWf.out t ((HT2.out.2.2.2 t).1.1 (hp.mem_iff.1 ht))
      have hle1 : S'.length ≤ nv := by rw [HNV.out, hp.length_eq]; exact Nat.le_refl _
      have hle2 : nv ≤ S'.length := by rw [HNV.out, hp.length_eq]; exact Nat.le_refl _
      have hS'l : S'.length ≤ 1000 := by rw [hp.length_eq]; exact hSl
      have HO9 : Hid (w9.ownsRow (w.heap.size + 2) 2 1 (.slice av nv cv) S'.length (iv S')) := by
        show World.ownsRow _ _ _ _ _ _ _
        rw [hp.length_eq]; exact hown9
      have HB9 := hid (HBl.out.grown hg9 hsz (fun j hj => by have := (HO.out.lt j hj).1; omega))
      have hs9 : w.heap.size + 2 ≤ w9.heap.size := Nat.le_trans hws hg9.size
      clear hp hsrt hown9 hg9 HSo HO HM HX HT2 HWf c6
      go_wp2_with fail
      go_loopw [11, 83] (fun tv ti wq => ∃ j : Nat, j ≤ S'.length ∧ ti = .int .i64 j ∧ wq.ownsRow w9.heap.size 72 5 tv ((S'.take j).map (got L)).length (bv ((S'.take j).map (got L))) ∧ Below w9.heap.size w9 wq) (fun _ ti _ => S'.length - (intOf ti).toNat)
      case atStart => exact ⟨0, by omega, rfl, World.ownsRow_nil _ _ _ _, Below.refl _ _⟩
      case round =>
        obtain ⟨j, hj, rfl, hown, hbel⟩ := hrel
        have HO := hid hown
        have HBq := hid hbel
        have hszq := hbel.size
        have hgl : ((S'.take j).map (got L)).length ≤ 1000 := by rw [List.length_map, List.length_take]; omega
        clear hown hbel
        by_cases hlt : j < S'.length
        · obtain ⟨g, cap9, hav, hcell⟩ : ∃ g cap9, (Value.slice av nv cv = .slice (some ⟨g, 0, none⟩) S'.length cap9) ∧ wr.cell? ⟨g, j, none⟩ = some (.int .i64 S'[j]) := by
            have h9 := HO9.out
            rcases h9.2 with ⟨_, h0⟩ | ⟨g, cap9, cur, hv, _⟩
            · omega
            · have hlt2 := (h9.lt g (by rw [hv]; rfl)).2
              rw [hv] at h9
              refine ⟨g, cap9, hv, (HBq.out.cell (p := ⟨g, j, none⟩) hlt2).trans ?_⟩
              rw [h9.cellAt j (by omega)]
              simp [iv, hlt]
          simp only [Value.slice.injEq] at hav
          obtain ⟨rfl, hq, rfl⟩ := hav
          clear hq
          have HAj := hid (HAt.out S'[j] (List.getElem_mem hlt))
          have hkF : keyOf Tryd.prog 2 (.int .i64 S'[j]) = some (.int .i64 S'[j]) := keyOf_int_mk Tryd.underlying2 (wf64 (HKy.out S'[j] (List.getElem_mem hlt)))
          have HKF := hid hkF
          have HTk := hid (got_take L S' j hlt)
          clear hkF
          generalize (S'.take j).map (got L) = G at *
          generalize S'[j] = t at *
          generalize got L t = x at *
          have hjn : j < nv := by omega
          go_wp2_with (first
            | (at_lookup; refine wpList_lookup_bkt1 _ rfl _ _ 77 rfl 2 72 law64 Tryd.underlying77 (zeroB _) w.heap.size l.length D rfl (map_below HM9.out HBq.out (by omega)) _ (.int .i64 t) rfl HKF.out x HAj.out ?_)
            | (at_builtin; refine wpList_append_own _ rfl (.tmp 87) (.tmp 91) 37 rfl w9.heap.size 72 ii (.agg #[.int .i64 0, .int .i64 0, .int .i64 0, .int .i64 0, .int .i64 0]) 5 40 Tryd.underlying37 HI0.out HZ0.out HZ1.out HZ2.out rfl (by decide) u11 G.length (bv G) rfl (HO.out.alloc _) ⟨wr.heap.size, 0, none⟩ 1 1 (cb x) rfl rfl (five_news wr x) (cb_i64 x) (by unfold maxLen; omega) (by omega) (by simp; omega) ?_; intro v7 w7 hown7 hgrow7 _; have HO7 := hid hown7; have HB7 := hid ((HBq.out.alloc hszq _).grown hgrow7 (by simp; omega) (fun j hj => (HO.out.lt j hj).1)); clear hown7 hgrow7))
          go_roundw
          case rel =>
            refine ⟨j + 1, by omega, by go_num, ?_, HB7.out⟩
            rw [HTk.out, bv_append, bv_one, List.length_append]; exact HO7.out
          case measure => simp [intOf]; omega
        · have he : j = S'.length := by omega
          subst he
          have HO2 : Hid (wr.ownsRow w.heap.size 72 5 u11 (S'.map (got L)).length (bv (S'.map (got L)))) := by
            have := HO.out
            rw [List.take_of_length_le (Nat.le_refl _)] at this
            exact this.mono (by omega)
          have HBf := hid (HB9.out.trans (HBq.out.mono (by omega)))
          clear HO hgl
          go_wp2_with fail
          go_ret
          exact ⟨_, _, rfl, HO2.out, HBf.out, HWh.out.1, fun t => by rw [HL.out]; exact HWh.out.2 t⟩

end Go.Proofs.YtdmnlmohfaafoabDoor
