/- sort's stable_func over any two closures that compare and exchange. -/
import Derived.Test.YtdmnlmohfaafoadGreatDoorPStStab
namespace Go.Proofs.YtdmnlmohfaafoadGreatDoor
open Go.RowKit

section
variable {α : Type} {lt : α → α → Bool} {n B : Nat} {X : Nat → Prop} {St : World → (Nat → α) → Prop} {gl : Nat} {lb : Array Value} {gs : Nat} {sb : Array Value}

set_option maxRecDepth 100000 in
set_option maxHeartbeats 1600000 in
theorem stable_any (S : Srt Tryz.prog lt n B X St gl lb gs sb) (hw : ST.Weak lt) (hn : n ≤ 1000000) (d : Nat → α) (w : World) (hB : B ≤ w.heap.size) (hS : St w d) :
    Calls Tryz.prog 121 #[lsV gl lb gs sb, .int .i64 n] w fun e w' => SymEnd lt X St 0 n d w e w' := by
  have hbox : Below w.heap.size w (w.alloc (.cells #[.func (.func gl) #[] lb, .func (.func gs) #[] sb] 193)) := (Below.refl _ w).alloc (Nat.le_refl _) _
  have HS0 := sthid (S.kept _ _ _ hS hbox)
  have HF0 := sthid (SFr.below (X := X) hbox)
  have HX0 := sthid (heap_alloc_new w (.cells #[.func (.func gl) #[] lb, .func (.func gs) #[] sb] 193))
  have HSr := sthid S
  have HWk := sthid hw
  have hXw : ¬ X w.heap.size := fun h => by have := S.low _ h; omega
  clear hS hbox S hw
  go_enter Tryz.func121, Tryz.ntmps121
  go_wp2_with fail
  go_loopw [5, 6] (fun ta tb wr => ∃ (a : Nat) (e : Nat → α), 20 ∣ a ∧ a ≤ n ∧ ta = .int .i64 a ∧ tb = .int .i64 ((a : Int) + 20) ∧ ST.Sw 0 n d e ∧ (∀ s, 20 ∣ s → s < a → ST.Asc lt e s (s + 20)) ∧ St wr e ∧ SFr X w wr ∧ wr.heap[w.heap.size]? = some (.cells #[.func (.func gl) #[] lb, .func (.func gs) #[] sb] 193)) (fun ta _ _ => n + 1 - (intOf ta).toNat)
  case atStart => exact ⟨0, d, ⟨0, rfl⟩, Nat.zero_le _, rfl, rfl, .refl _, (fun s _ h => by omega), HS0.out, HF0.out, HX0.out⟩
  case round =>
    obtain ⟨a, e, ha, han, rfl, rfl, hsw, hbl, hSt, hfr, hx⟩ := hrel
    have y0 : wr.cell? ⟨w.heap.size, 0, none⟩ = some (.func (.func gl) #[] lb) := by simp [World.cell?, hx]
    have y1 : wr.cell? ⟨w.heap.size, 1, none⟩ = some (.func (.func gs) #[] sb) := by simp [World.cell?, hx]
    have hsz := hfr.size
    have hsz2 : w.heap.size < wr.heap.size := (Array.getElem?_eq_some_iff.1 hx).1
    have HA := sthid ha
    have HSw := sthid hsw
    have HBl := sthid hbl
    have HSt := sthid hSt
    have HFr := sthid hfr
    have HX := sthid hx
    clear ha hsw hbl hSt hfr hx HS0 HF0 HX0
    by_cases hle : a + 20 ≤ n
    · have hle' : (a : Int) + 20 ≤ (n : Int) := by omega
      have HC := insSort_any HSr.out HWk.out hn a (a + 20) e wr (by omega) HSt.out (by omega) hle
      have e1 : ((a + 20 : Nat) : Int) = (a : Int) + 20 := by omega
      rw [e1] at HC
      have HC := sthid HC
      clear e1
      go_wp2_with fail
      refine HC.out.mono ?_
      rintro en w2 ⟨rfl, ⟨f, g1, g2, g3⟩, g4⟩
      have HG1 := sthid g1
      have HG2 := sthid g2
      have HG3 := sthid g3
      have HG4 := sthid (HFr.out.trans g4)
      have HX2 := sthid ((g4.block w.heap.size hsz2 hXw).trans HX.out)
      clear g1 g2 g3 g4 HC
      go_wp2_with fail
      go_roundw
      case rel =>
        refine ⟨a + 20, f, Nat.dvd_add HA.out ⟨1, rfl⟩, hle, by go_num, by go_num, HSw.out.trans (HG2.out.wide (by omega) hle), fun s h1 h2 => ?_, HG1.out, HG4.out, HX2.out⟩
        rcases Nat.lt_or_ge s a with h3 | h3
        · have h4 := ST.dvd_step h1 HA.out h3
          exact ST.asc_same (HBl.out s h1 h3) fun k _ hk => HG2.out.out (.inl (by omega))
        · have h4 : s = a := by
            rcases Nat.lt_or_eq_of_le h3 with h5 | h5
            · have := ST.dvd_step HA.out h1 h5
              omega
            · exact h5.symm
          rw [h4]
          exact HG3.out
      case measure => simp [intOf]; omega
    · have hle' : ¬ (a : Int) + 20 ≤ (n : Int) := by omega
      have HC := sthid (insSort_any HSr.out HWk.out hn a n e wr (by omega) HSt.out han (Nat.le_refl _))
      go_wp2_with fail
      refine HC.out.mono ?_
      rintro en w2 ⟨rfl, ⟨f, g1, g2, g3⟩, g4⟩
      have HBk : Hid (ST.Blk lt 20 n f) := fun s h1 => by
        rcases Nat.lt_or_ge s a with h3 | h3
        · have h4 := ST.dvd_step h1 HA.out h3
          rw [Nat.min_eq_left (by omega)]
          exact ST.asc_same (HBl.out s h1 h3) fun k _ hk => g2.out (.inl (by omega))
        · rcases Nat.lt_or_eq_of_le h3 with h5 | h5
          · have := ST.dvd_step HA.out h1 h5
            intro i j hi hij hj
            have : j < n := Nat.lt_of_lt_of_le hj (Nat.min_le_right _ _)
            omega
          · rw [← h5, Nat.min_eq_right (by omega)]
            exact g3
      have HG1 := sthid g1
      have HG2 := sthid (HSw.out.trans (g2.wide (by omega) (Nat.le_refl _)))
      have HG4 := sthid (HFr.out.trans g4)
      have HX2 := sthid ((g4.block w.heap.size hsz2 hXw).trans HX.out)
      clear g1 g2 g3 g4 HC
      clear y0 y1 HBl HSw HSt HFr HX hsz hsz2 HA hle hle' han
      go_wp2_with fail
      go_loopw [4, 5, 6, 7] (fun tz _ _ _ wr => ∃ (z : Nat) (e : Nat → α), 20 ≤ z ∧ z ≤ 2 * n + 20 ∧ tz = .int .i64 z ∧ ST.Sw 0 n d e ∧ ST.Blk lt z n e ∧ St wr e ∧ SFr X w wr ∧ wr.heap[w.heap.size]? = some (.cells #[.func (.func gl) #[] lb, .func (.func gs) #[] sb] 193)) (fun tz _ _ _ _ => n - (intOf tz).toNat)
      case atStart => exact ⟨20, f, Nat.le_refl _, by omega, rfl, HG2.out, HBk.out, HG1.out, HG4.out, HX2.out⟩
      case round =>
        obtain ⟨z, e2, hz1, hz2, rfl, hsw, hbk, hSt, hfr, hx⟩ := hrel
        have HSw := sthid hsw
        have HBz := sthid hbk
        have HSt := sthid hSt
        have HFr := sthid hfr
        have HX := sthid hx
        clear hsw hbk hSt hfr hx HG1 HG2 HG4 HX2 HBk
        by_cases hzn : z < n
        · have hzn' : (z : Int) < (n : Int) := by omega
          go_wp2_with fail
          go_loopw [5, 6] (fun ta tb wr => ∃ (a : Nat) (e : Nat → α), 2 * z ∣ a ∧ a ≤ n ∧ ta = .int .i64 a ∧ tb = .int .i64 ((a : Int) + 2 * z) ∧ ST.Sw 0 n d e ∧ ST.Half lt z n a e ∧ St wr e ∧ SFr X w wr ∧ wr.heap[w.heap.size]? = some (.cells #[.func (.func gl) #[] lb, .func (.func gs) #[] sb] 193)) (fun ta _ _ => n + 1 - (intOf ta).toNat)
          case atStart => exact ⟨0, e2, ⟨0, rfl⟩, Nat.zero_le _, rfl, by go_num, HSw.out, ST.Half.start HBz.out, HSt.out, HFr.out, HX.out⟩
          case round =>
            obtain ⟨a, e, ha, han, rfl, rfl, hsw, hhf, hSt, hfr, hx⟩ := hrel
            have y0 : wr.cell? ⟨w.heap.size, 0, none⟩ = some (.func (.func gl) #[] lb) := by simp [World.cell?, hx]
            have y1 : wr.cell? ⟨w.heap.size, 1, none⟩ = some (.func (.func gs) #[] sb) := by simp [World.cell?, hx]
            have hsz := hfr.size
            have hsz2 : w.heap.size < wr.heap.size := (Array.getElem?_eq_some_iff.1 hx).1
            have hza : z ∣ a := Nat.dvd_trans ⟨2, by omega⟩ ha
            have HZa := sthid hza
            have HA := sthid ha
            have HSw3 := sthid hsw
            have HHf := sthid hhf
            have HSt3 := sthid hSt
            have HFr3 := sthid hfr
            have HX3 := sthid hx
            clear ha hza hsw hhf hSt hfr hx HSw HBz HSt HFr HX
            by_cases hle : a + 2 * z ≤ n
            · have hle' : (a : Int) + 2 * z ≤ (n : Int) := by omega
              have HC := symMerge_any HSr.out HWk.out hn (2 * z) a (a + z) (a + 2 * z) e wr (by omega) (by omega) HSt3.out (by omega) (by omega) hle
                (by have := HHf.out.2 a HZa.out (Nat.le_refl _); rw [Nat.min_eq_left (by omega)] at this; exact this)
                (by have := HHf.out.2 (a + z) (Nat.dvd_add HZa.out ⟨1, by omega⟩) (by omega); rw [Nat.min_eq_left (by omega)] at this; have q : a + z + z = a + 2 * z := by omega
                    rw [q] at this; exact this)
              have e1 : ((a + 2 * z : Nat) : Int) = (a : Int) + 2 * z := by omega
              have e3 : ((a + z : Nat) : Int) = (a : Int) + z := by omega
              rw [e1, e3] at HC
              have HC := sthid HC
              clear e1 e3
              go_wp2_with fail
              refine HC.out.mono ?_
              rintro en w3 ⟨rfl, ⟨f3, g1, g2, g3⟩, g4⟩
              have HG1 := sthid g1
              have HG2 := sthid (HSw3.out.trans (g2.wide (by omega) hle))
              have HG3 := sthid (HHf.out.next HA.out (by omega) hle g2 g3)
              have HG4 := sthid (HFr3.out.trans g4)
              have HX4 := sthid ((g4.block w.heap.size hsz2 hXw).trans HX3.out)
              clear g1 g2 g3 g4 HC
              go_wp2_with fail
              go_roundw
              case rel => exact ⟨a + 2 * z, f3, Nat.dvd_add HA.out ⟨1, by omega⟩, hle, by go_num, by go_num, HG2.out, HG3.out, HG1.out, HG4.out, HX4.out⟩
              case measure => simp [intOf]; omega
            · have hle' : ¬ (a : Int) + 2 * z ≤ (n : Int) := by omega
              by_cases hm : a + z < n
              · have hm' : (a : Int) + z < (n : Int) := by omega
                have HC := symMerge_any HSr.out HWk.out hn n a (a + z) n e wr (by omega) (by omega) HSt3.out (by omega) hm (Nat.le_refl _)
                  (by have := HHf.out.2 a HZa.out (Nat.le_refl _); rw [Nat.min_eq_left (by omega)] at this; exact this)
                  (by have := HHf.out.2 (a + z) (Nat.dvd_add HZa.out ⟨1, by omega⟩) (by omega); rw [Nat.min_eq_right (by omega)] at this; exact this)
                have e3 : ((a + z : Nat) : Int) = (a : Int) + z := by omega
                rw [e3] at HC
                have HC := sthid HC
                clear e3
                go_wp2_with fail
                refine HC.out.mono ?_
                rintro en w3 ⟨rfl, ⟨f3, g1, g2, g3⟩, g4⟩
                have HG1 := sthid g1
                have HG2 := sthid (HSw3.out.trans (g2.wide (by omega) (Nat.le_refl _)))
                have HG3 := sthid (HHf.out.done HA.out (by omega) han (by omega) g2 g3)
                have HG4 := sthid (HFr3.out.trans g4)
                have HX4 := sthid ((g4.block w.heap.size hsz2 hXw).trans HX3.out)
                clear g1 g2 g3 g4 HC
                go_wp2_with fail
                go_roundw
                case rel => exact ⟨2 * z, f3, by omega, by omega, by go_num, HG2.out, HG3.out, HG1.out, HG4.out, HX4.out⟩
                case measure => simp [intOf]; omega
              · have hm' : ¬ (a : Int) + z < (n : Int) := by omega
                have HG3 := sthid (HHf.out.done HA.out (by omega) han (by omega) (.refl _) (by have := HHf.out.2 a HZa.out (Nat.le_refl _); rw [Nat.min_eq_right (by omega)] at this; exact this))
                go_wp2_with fail
                go_roundw
                case rel => exact ⟨2 * z, e, by omega, by omega, by go_num, HSw3.out, HG3.out, HSt3.out, HFr3.out, HX3.out⟩
                case measure => simp [intOf]; omega
        · have hzn' : ¬ (z : Int) < (n : Int) := by omega
          have HE := sthid (HBz.out.all (by omega))
          go_wp2_with fail
          go_end0
          exact ⟨rfl, ⟨e2, HSt.out, HSw.out, HE.out⟩, HFr.out⟩

end

end Go.Proofs.YtdmnlmohfaafoadGreatDoor

