/- What the document's Values and the law's sameTexts answer. -/
import Derived.Test.YtdmnlmohfaafoacGreatDoorIxKeys
import Derived.Test.YtdmnlmohfaafoacGreatDoorLbRefG
import Derived.Test.YtdmnlmohfaafoacGreatDoorShelfV
import Derived.Sort.OwnSorted
namespace Go.Proofs.YtdmnlmohfaafoacGreatDoor
open Go.RowKit Go.Maps

/-- Series with labels and no samples, one behind the other. -/
def SeRow (w : World) (ao : Option Addr) (L : List (List LB.Lab)) : Prop :=
  ∀ i, i < L.length → ∃ b off ai ci, ao = some ⟨b, off, none⟩ ∧ w.cell? ⟨b, off + i * 2, none⟩ = some (.slice ai (IX.atS L i).length ci) ∧ w.cell? ⟨b, off + i * 2 + 1, none⟩ = some (.slice none 0 0) ∧ LRow w ai (IX.atS L i) ∧ b < w.heap.size

theorem SeRow.below {w w' : World} {ao : Option Addr} {L : List (List LB.Lab)} (h : SeRow w ao L) (hb : Below w.heap.size w w') : SeRow w' ao L := by
  intro i hi
  obtain ⟨b, off, a1, c1, h1, h2, h3, h4, h5⟩ := h i hi
  exact ⟨b, off, a1, c1, h1, (hb.cell (p := ⟨b, _, none⟩) h5).trans h2, (hb.cell (p := ⟨b, _, none⟩) h5).trans h3, h4.below hb, Nat.lt_of_lt_of_le h5 hb.size⟩

/-- Texts as cells. -/
def tv (l : List ByteArray) : List Value := l.map Value.string

theorem tv_append (a b : List ByteArray) : tv (a ++ b) = tv a ++ tv b := by simp [tv]

theorem tv_enc (l : List ByteArray) : tv l = (l.map fun s => s.data.toList).map encStr := by
  unfold tv
  rw [List.map_map]
  refine List.map_congr_left fun s _ => ?_
  simp [encStr]

/-- sort.Strings over a row of texts of one's own. -/
theorem sortT_any (v : Value) (base : Nat) (ss : List (List UInt8)) (w : World) (h : w.ownsRow base 9 1 v ss.length (ss.map encStr)) (hl : ss.length ≤ 1000000) :
    Calls Tryz.prog 27 #[v] w fun e w' => e = .returned (.tuple #[]) ∧ w'.ownsRow base 9 1 v (ss.mergeSort fun x y => decide (x ≤ y)).length ((ss.mergeSort fun x y => decide (x ≤ y)).map encStr) ∧ w.grownBy w' v.ownBlock := by
  rcases h.2 with ⟨rfl, h0⟩ | ⟨g, cap, cur, rfl, hg, hb, h1, h2, h3, h4⟩
  · have e : ss = [] := List.length_eq_zero_iff.1 h0
    subst e
    refine (Tryz.sort_Strings_none none 0 w).mono ?_
    rintro e w' ⟨rfl, rfl⟩
    exact ⟨rfl, by simpa using World.ownsRow_nil w' base 9 1, World.grownBy.refl _ _⟩
  · have hH : Go.Sort.Holds encStr w g 0 ss.toArray := holds_of_block hb (by simpa using h4)
    refine (Tryz.sort_Strings g 0 cap ss w hH (Array.getElem?_eq_some_iff.1 hb).1 (by omega)).mono ?_
    rintro e w' ⟨rfl, nn, os, rfl⟩
    refine ⟨rfl, ?_, grownBy_sorted _⟩
    have := ownsRow_sorted (ss := ss) (ts := ss.mergeSort fun x y => decide (x ≤ y)) (n := nn) (os := os) (e := 9) (by simp) hg hb h1 h2 (by simpa using h3)
    rw [List.length_mergeSort]; exact this

/-- What the first k series say by a name. -/
def SaidBy (L : List (List LB.Lab)) (n : ByteArray) (k : Nat) (v : ByteArray) : Prop := v ≠ ByteArray.empty ∧ ∃ i, i < k ∧ LB.get (IX.atS L i) n = v

theorem SaidBy.succ_no {L : List (List LB.Lab)} {n : ByteArray} {k : Nat} (h : LB.get (IX.atS L k) n = ByteArray.empty) (v : ByteArray) : SaidBy L n (k + 1) v ↔ SaidBy L n k v := by
  constructor
  · rintro ⟨h1, i, hi, h2⟩
    refine ⟨h1, i, ?_, h2⟩
    by_cases e : i = k
    · subst e; rw [h] at h2; exact absurd h2.symm h1
    · omega
  · rintro ⟨h1, i, hi, h2⟩
    exact ⟨h1, i, by omega, h2⟩

theorem SaidBy.succ {L : List (List LB.Lab)} {n : ByteArray} {k : Nat} (h : LB.get (IX.atS L k) n ≠ ByteArray.empty) (v : ByteArray) : SaidBy L n (k + 1) v ↔ v = LB.get (IX.atS L k) n ∨ SaidBy L n k v := by
  constructor
  · rintro ⟨h1, i, hi, h2⟩
    by_cases e : i = k
    · subst e; exact .inl h2.symm
    · exact .inr ⟨h1, i, by omega, h2⟩
  · rintro (h1 | ⟨h1, i, hi, h2⟩)
    · exact ⟨by rw [h1]; exact h, k, by omega, h1.symm⟩
    · exact ⟨h1, i, by omega, h2⟩

theorem RngF.le {P : Program} {k : TypeId} {w : World} {b r n cnt : Nat} {f : ByteArray → Option Value} {ks : List ByteArray} (h : RngF P k w b r n f ks cnt) : cnt ≤ n := by
  obtain ⟨D, left, ⟨es, clock, since, seen, c0, _, _, hs, _, _, _, hc, _⟩, _⟩ := h
  have : (leftOf es seen).size ≤ es.size := by unfold leftOf; exact Array.size_filter_le
  omega

theorem zeroN (w : World) : (zeroValue 3).run Tryz.prog w = .ok (.int .i64 0) w := by kernel_rfl

theorem Tryz.infoS : (Tryz.prog.info? 9).map (fun i => (i.zero, i.size, i.bytes)) = some (some (.string ⟨#[]⟩), 1, 16) := by kernel_rfl

/-- A map of numbers. -/
def Nums (f : ByteArray → Option Value) : Prop := ∀ s v, f s = some v → ∃ c : Int, v = .int .i64 c

theorem Nums.get {f : ByteArray → Option Value} (h : Nums f) (s : ByteArray) : ∃ c : Int, (f s).getD (.int .i64 0) = .int .i64 c := by
  cases hf : f s with
  | none => exact ⟨0, rfl⟩
  | some v => exact h s v hf

theorem Nums.upd {f : ByteArray → Option Value} (h : Nums f) (s : ByteArray) (c : Int) : Nums (upd f s (.int .i64 c)) := by
  intro t v hv
  by_cases e : t = s
  · subst e; rw [upd_same] at hv; exact ⟨c, (Option.some.inj hv).symm⟩
  · rw [upd_other _ _ _ _ e] at hv; exact h t v hv

theorem upd_ne {f : ByteArray → Option Value} {s t : ByteArray} {v : Value} : upd f s v t ≠ none ↔ t = s ∨ f t ≠ none := by
  by_cases e : t = s
  · subst e; rw [upd_same]; simp
  · rw [upd_other _ _ _ _ e]; simp [e]

theorem nil_text {s : ByteArray} : s.toList = [] ↔ s = ByteArray.empty := by
  have h : ByteArray.empty.toList = [] := by rw [Lib.toList_data]; rfl
  rw [← h]; exact LB.toList_iff

set_option maxRecDepth 100000 in
set_option maxHeartbeats 1600000 in
theorem rvalues_any (ao : Option Addr) (L : List (List LB.Lab)) (cap : Nat) (n : ByteArray) (w : World) (hS : SeRow w ao L) (hl : L.length ≤ 1000) (hll : ∀ i, i < L.length → (IX.atS L i).length ≤ 1000) (hsz : ∀ i, i < L.length → (LB.get (IX.atS L i) n).size ≤ maxLen) :
    Calls Tryz.prog 11 #[.slice ao L.length cap, .string n] w fun e w' => TextEnd (SaidBy L n L.length) w e w' := by
  have HS := hid hS
  have HLL := hid hll
  have HSZ := hid hsz
  clear hS hll hsz
  obtain ⟨ii, hii, hi'⟩ := Option.map_eq_some_iff.1 Tryz.infoS
  simp only [Prod.mk.injEq] at hi'
  obtain ⟨hz0, hz1, hz2⟩ := hi'
  have HI0 := hid hii
  have HZ0 := hid hz0
  have HZ1 := hid hz1
  have HZ2 := hid hz2
  clear hii hz0 hz1 hz2
  have hmm := @run_makeMap Tryz.prog
  have HM0 := hid (MapF.made w Tryz.prog 9)
  have HB0 := hid ((Below.refl w.heap.size w).alloc (Nat.le_refl _) (.map #[] 0))
  have hs0 : w.heap.size + 1 ≤ (w.alloc (.map #[] 0)).heap.size := by simp
  go_enter Tryz.func11, Tryz.ntmps11
  go_wp2_with fail
  go_loopw [14] (fun ti wr => ∃ (k : Nat) (f : ByteArray → Option Value), k ≤ L.length ∧ ti = .int .i64 k ∧ MapF Tryz.prog 9 wr w.heap.size k f ∧ Nums f ∧ (∀ v, f v ≠ none ↔ SaidBy L n k v) ∧ Below w.heap.size w wr ∧ w.heap.size + 1 ≤ wr.heap.size) (fun ti _ => L.length - (intOf ti).toNat)
  case atStart => exact ⟨0, fun _ => none, Nat.zero_le _, rfl, HM0.out, fun s v h => by (cases h), fun v => ⟨fun h => absurd rfl h, fun h => by obtain ⟨_, i, hi, _⟩ := h; omega⟩, HB0.out, hs0⟩
  case round =>
    obtain ⟨k, f, hk, rfl, hM, hN, hf, hbel, hws⟩ := hrel
    have HM := hid hM
    have HN := hid hN
    have HF := hid hf
    have HBl := hid hbel
    have hszr := hbel.size
    clear hM hN hf hbel HM0 HB0 hs0
    by_cases hlt : k < L.length
    · obtain ⟨b, off, ai, ci, hao, hc0, hc1, hrow, hbs⟩ := HS.out k hlt
      subst hao
      have hcell0 := (HBl.out.cell (p := ⟨b, off + k * 2, none⟩) hbs).trans hc0
      have hcell1 := (HBl.out.cell (p := ⟨b, off + k * 2 + 1, none⟩) hbs).trans hc1
      have HLr := hid hrow
      have hlk := HLL.out k hlt
      have HSk := hid (HSZ.out k hlt)
      clear hc0 hc1 hrow
      have HB1 := hid (HBl.out.alloc hszr (.cells #[.slice ai (IX.atS L k).length ci, .slice none 0 0] 33))
      have HM1 := hid (HM.out.alloc (.cells #[.slice ai (IX.atS L k).length ci, .slice none 0 0] 33))
      have HT := hid (tell_any ai (IX.atS L k) ci n (wr.alloc (.cells #[.slice ai (IX.atS L k).length ci, .slice none 0 0] 33)) (HLr.out.below HB1.out) (by omega))
      have HSn := hid (@SaidBy.succ_no L n k)
      have HSy := hid (@SaidBy.succ L n k)
      generalize hg : LB.get (IX.atS L k) n = g at *
      clear hg
      go_wp2_with fail
      refine HT.out.mono ?_
      rintro e w5 ⟨rfl, hb5⟩
      have HB5 := hid (HB1.out.trans (hb5.mono HB1.out.size))
      have HM5 := hid (HM1.out.below hb5 HM1.out.lt)
      have hws5 : w.heap.size + 1 ≤ w5.heap.size := by have := hb5.size; simp at this; omega
      clear hb5 HT HB1 HM1
      by_cases hge : g = ByteArray.empty
      · have hq : (g.toList == ByteArray.empty.toList) = true := by rw [LB.beq_eq]; exact decide_eq_true hge
        have hq2 : (g.toList == []) = true := by rw [nil_text.2 hge]; rfl
        have HSn' := hid (HSn.out hge)
        go_wp2_with fail
        go_roundw
        case rel => exact ⟨k + 1, f, by omega, by go_num, HM5.out.mono (by omega), HN.out, fun v => (HF.out v).trans (HSn'.out v).symm, HB5.out, hws5⟩
        case measure => simp [intOf]; omega
      · have hq : (g.toList == ByteArray.empty.toList) = false := by rw [LB.beq_eq]; exact decide_eq_false hge
        have hq2 : (g.toList == []) = false := by
          rw [beq_eq_false_iff_ne]; exact fun h => hge (nil_text.1 h)
        have HSy' := hid (HSy.out hge)
        obtain ⟨c, hc⟩ := HN.out.get g
        have HC := hid hc
        clear hc
        go_wp2_with (first
          | (at_lookup; refine wpList_lookup_f rfl _ _ 71 rfl 9 3 Tryz.underlying9 Tryz.underlying71 (.int .i64 0) (zeroN _) w.heap.size k f rfl HM5.out g HSk.out rfl (.int .i64 c) HC.out ?_)
          | (at_mapUpdate; refine wpList_mapUpdate_f rfl _ _ _ 71 rfl 9 3 Tryz.underlying9 Tryz.underlying71 w.heap.size k f rfl HM5.out (by unfold maxLen; omega) g HSk.out _ rfl rfl ?_; intro w6 hM6 hg6; have HM6 := hid hM6; have HG6 := hid hg6; clear hM6 hg6))
        all_goals
          go_roundw
          case rel => exact ⟨k + 1, _, by omega, by go_num, HM6.out, HN.out.upd g _, fun v => upd_ne.trans ((or_congr Iff.rfl (HF.out v)).trans (HSy'.out v).symm), HB5.out.grown HG6.out (by omega) (fun j hj => by cases hj; exact Nat.le_refl _), Nat.le_trans hws5 HG6.out.size⟩
          case measure => simp [intOf]; omega
    · have he : k = L.length := by omega
      subst he
      clear hlt hk
      go_wp2_with (at_range; refine wpList_range_f rfl (.tmp 29) 71 rfl 9 3 Tryz.underlying9 Tryz.underlying71 w.heap.size L.length f rfl HM.out ?_)
      intro w3 cnt hrg hg3 hsz3
      have hc0 := hrg.le
      have HRg := hid hrg
      have HB3 := hid (HBl.out.grown hg3 hszr (fun j hj => by cases hj))
      have hs3 : wr.heap.size + 1 ≤ w3.heap.size := by rw [hsz3]; exact Nat.le_refl _
      clear hrg hg3 hsz3 HM HBl
      generalize wr.heap.size = r at *
      go_wp2_with fail
      go_loopw [9] (fun t9 W => ∃ (ks : List ByteArray) (c : Nat), RngF Tryz.prog 9 W w.heap.size r L.length f ks c ∧ W.ownsRow (r + 1) 9 1 t9 ks.length (tv ks) ∧ ks.length + c ≤ L.length ∧ Below w.heap.size w W ∧ r + 1 ≤ W.heap.size) (fun _ W => W.rangeLeft w.heap.size r)
      case atStart => exact ⟨[], cnt, HRg.out, World.ownsRow_nil _ _ _ _, by simpa using hc0, HB3.out, hs3⟩
      case round =>
        obtain ⟨ks, c, hrg, hown, hkc, hbel, hsr⟩ := hrel
        have HR := hid hrg
        have HO := hid hown
        have HBl := hid hbel
        have hsz := hbel.size
        clear hrg hown hbel HRg HB3 hs3
        go_wp2_with (at_next; refine wpList_next_f rfl (.tmp 30) rfl 9 Tryz.underlying9 w.heap.size r L.length f ks c rfl HR.out ?_ ?_)
        · intro hnd hall
          have HST : Hid (ST ((ks.map fun s => s.data.toList).mergeSort fun x y => decide (x ≤ y)) (SaidBy L n L.length)) := by
            refine ST.sorted ?_ fun s => ?_
            · refine List.pairwise_map.2 (hnd.imp fun {a b} hne e => hne ?_)
              cases a; cases b
              simp only [Array.toList_inj] at e
              rw [e]
            · have hal : s ∈ ks ↔ f s ≠ none := hall s
              rw [List.mem_map, ← HF.out s, ← hal]
              constructor
              · rintro ⟨t, ht, e⟩
                have : t = s := by
                  cases t; cases s
                  simp only [Array.toList_inj] at e
                  rw [e]
                rw [← this]; exact ht
              · exact fun h => ⟨s, h, rfl⟩
          have HO2 : Hid (wr.ownsRow (r + 1) 9 1 u9 (ks.map fun s => s.data.toList).length ((ks.map fun s => s.data.toList).map encStr)) := by
            show World.ownsRow _ _ _ _ _ _ _
            rw [List.length_map, ← tv_enc]; exact HO.out
          have hkl : (ks.map fun s => s.data.toList).length ≤ 1000 := by rw [List.length_map]; omega
          clear hnd hall HR HO
          generalize (ks.map fun s => s.data.toList) = SS at *
          go_wp2_with fail
          refine (sortT_any u9 (r + 1) SS wr HO2.out (by omega)).mono ?_
          rintro e w8 ⟨rfl, ho8, hg8⟩
          have HO8 := hid (ho8.mono (base' := w.heap.size) (by omega))
          have HB8 := hid (HBl.out.grown hg8 hsz (fun j hj => by have := (HO2.out.lt j hj).1; omega))
          clear ho8 hg8
          go_wp2_with fail
          go_ret
          exact ⟨_, _, rfl, HST.out, by rw [List.length_mergeSort]; omega, HO8.out, HB8.out⟩
        · intro s v w4 c4 hs hv hns hrg4 hlt4 hg4 hsz4 hen
          have HR4 := hid hrg4
          have HO4 := hid (HO.out.kept hg4 (.inr (rowN_far HO.out (by omega))))
          have HB4 := hid (HBl.out.grown hg4 hsz (fun j hj => by cases hj; omega))
          have hsr4 : r + 1 ≤ w4.heap.size := Nat.le_trans hsr hg4.size
          have hsz4' := HB4.out.size
          have HL1 := hid HR.out.left
          clear hrg4 hg4 hsz4 HR HO HBl hns
          go_wp2_with (at_builtin; refine wpList_append_own _ rfl (.tmp 35) (.tmp 37) 41 rfl (r + 1) 9 ii (.string ⟨#[]⟩) 1 16 Tryz.underlying41 HI0.out HZ0.out HZ1.out HZ2.out rfl (by decide) u9 ks.length (tv ks) rfl (HO4.out.alloc _) ⟨w4.heap.size, 0, none⟩ 1 1 [.string s] rfl rfl (cell_one_new _ _ _) (by simp [Value.oneCell']) (by unfold maxLen; omega) (by omega) (by simp; omega) ?_)
          intro v7 w7 hown7 hgrow7 _
          have HO7 : Hid (w7.ownsRow (r + 1) 9 1 v7 (ks ++ [s]).length (tv (ks ++ [s]))) := by
            show World.ownsRow _ _ _ _ _ _ _
            rw [tv_append, List.length_append]; exact hown7
          have HB7 := hid ((HB4.out.alloc hsz4' (.cells #[.string s] 9)).grown hgrow7 (by simp; omega) (fun j hj => by have := (HO4.out.lt j hj).1; omega))
          have HR7 := hid ((HR4.out.alloc (.cells #[.string s] 9)).kept hgrow7 (fun e => rowN_far HO4.out (by omega) e.symm) (fun e => rowN_far HO4.out (by omega) e.symm))
          have hsr7 : r + 1 ≤ w7.heap.size := by have := hgrow7.size; simp at this; omega
          clear hown7 hgrow7
          go_wp2_with fail
          go_roundw
          case rel => exact ⟨ks ++ [s], c4, HR7.out, HO7.out, by rw [List.length_append]; simp; omega, HB7.out, hsr7⟩
          case measure => rw [HR7.out.left, HL1.out]; exact hlt4

set_option maxRecDepth 100000 in
set_option maxHeartbeats 800000 in
theorem sameT_any (ao bo : Option Addr) (A : List (List UInt8)) (ca cb : Nat) (w : World) (hA : ∀ i, i < A.length → ∃ b off, ao = some ⟨b, off, none⟩ ∧ w.cell? ⟨b, off + i, none⟩ = some (encStr (A.getD i [])) ∧ b < w.heap.size) (hB : ∀ i, i < A.length → ∃ b off, bo = some ⟨b, off, none⟩ ∧ w.cell? ⟨b, off + i, none⟩ = some (encStr (A.getD i [])) ∧ b < w.heap.size) (ha : A.length ≤ 1000000) :
    Calls Tryz.prog 9 #[.slice ao A.length ca, .slice bo A.length cb] w fun e w' => e = .returned (.bool true) ∧ Below w.heap.size w w' := by
  have HA := hid hA
  have HBr := hid hB
  clear hA hB
  go_enter Tryz.func9, Tryz.ntmps9
  go_wp2
  go_loopw [5] (fun ti wr => ∃ i : Nat, i ≤ A.length ∧ ti = .int .i64 i ∧ Below w.heap.size w wr) (fun ti _ => A.length - (intOf ti).toNat)
  case atStart => exact ⟨0, by omega, rfl, Below.refl _ _⟩
  case round =>
    obtain ⟨i, hi, rfl, hbel⟩ := hrel
    have HBl := hid hbel
    clear hbel
    by_cases hlt : i < A.length
    · obtain ⟨b1, off, hao, hc0, hbs⟩ := HA.out i hlt
      subst hao
      have hcell0 := (HBl.out.cell (p := ⟨b1, off + i, none⟩) hbs).trans hc0
      obtain ⟨b2, off2, hbo, hd0, hbs2⟩ := HBr.out i hlt
      subst hbo
      have hdell0 := (HBl.out.cell (p := ⟨b2, off2 + i, none⟩) hbs2).trans hd0
      clear hc0 hd0
      unfold encStr at hcell0 hdell0
      generalize (⟨(A.getD i []).toArray⟩ : ByteArray) = p at *
      have hil : 0 ≤ (i : Int) ∧ (i : Int) < (A.length : Int) := by omega
      have hq : (p.toList == p.toList) = true := by simp
      go_wp2_with fail
      go_quiet (fail)
      go_wp2_with fail
      go_roundw
      case rel => exact ⟨i + 1, by omega, by go_num, below_drewN HBl.out _⟩
      case measure => simp [intOf]; omega
    · have he : i = A.length := by omega
      subst he
      go_wp2
      go_ret
      exact ⟨rfl, HBl.out⟩

/-- Texts that were made, read as ones that are there. -/
def TRow (w : World) (ao : Option Addr) (A : List (List UInt8)) : Prop := ∀ i, i < A.length → ∃ b off, ao = some ⟨b, off, none⟩ ∧ w.cell? ⟨b, off + i, none⟩ = some (encStr (A.getD i [])) ∧ b < w.heap.size

theorem TRow.below {w w' : World} {ao : Option Addr} {A : List (List UInt8)} (h : TRow w ao A) (hb : Below w.heap.size w w') : TRow w' ao A := by
  intro i hi
  obtain ⟨b, off, h1, h2, h3⟩ := h i hi
  exact ⟨b, off, h1, (hb.cell (p := ⟨b, _, none⟩) h3).trans h2, Nat.lt_of_lt_of_le h3 hb.size⟩

theorem TRow.of_own {w : World} {base : Nat} {v : Value} {l : List (List UInt8)} (h : w.ownsRow base 9 1 v l.length (l.map encStr)) : ∃ ao cap, v = .slice ao l.length cap ∧ TRow w ao l := by
  have hlt := h.lt
  have h0 := h
  obtain ⟨h1, h2⟩ := h
  rcases h2 with ⟨rfl, hn⟩ | ⟨g, cap, cur, rfl, hg, hh, r⟩
  · refine ⟨none, 0, by rw [hn], fun i hi => by omega⟩
  · refine ⟨some ⟨g, 0, none⟩, cap, rfl, fun i hi => ⟨g, 0, rfl, ?_, (hlt g rfl).2⟩⟩
    rw [Nat.zero_add, h0.cellAt i (by omega)]
    rw [List.getElem?_map, List.getElem?_eq_getElem hi, List.getD_eq_getElem?_getD, List.getElem?_eq_getElem hi]; rfl

end Go.Proofs.YtdmnlmohfaafoacGreatDoor
