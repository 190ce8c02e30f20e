/- The document's find. -/
import Derived.Test.YtdmnlmohfaafoadGreatDoorPHdHead
import Derived.Test.YtdmnlmohfaafoadGreatDoorPHxRefC
namespace Go.Proofs.YtdmnlmohfaafoadGreatDoor
open Go.RowKit

def fnd (S : List Sr) (L : List LB.Lab) : Int := if HD.there S L = true then (HD.pos S L : Int) else -1

set_option maxRecDepth 100000 in
theorem find_any (ao ko : Option Addr) (S : List Sr) (L : List LB.Lab) (cap kc : Nat) (w : World) (hS : SrRow w ao S) (hK : LRow w ko L) (hO : HD.Ord S) (hn : S.length ≤ 1000) (hls : ∀ i, i < S.length → (atSr S i).1.length ≤ 1000) (hl : L.length ≤ 1000) :
    Calls Tryz.prog 49 #[.slice ao S.length cap, .slice ko L.length kc] w fun e w' => e = .returned (.int .i64 (fnd S L)) ∧ Below w.heap.size w w' := by
  have HS := hid hS
  have HK := hid hK
  have HO := hid hO
  have HLs := hid hls
  clear hS hK hO hls
  go_enter Tryz.func49, Tryz.ntmps49
  go_wp2_with fail
  go_loopw [9] (fun ti wr => ∃ i : Nat, i ≤ S.length ∧ ti = .int .i64 i ∧ (∀ k, k < i → LB.cmp (atSr S k).1 L ≠ 0) ∧ Below w.heap.size w wr) (fun ti _ => S.length - (intOf ti).toNat)
  case atStart => exact ⟨0, Nat.zero_le _, rfl, fun k hk => by omega, Below.refl _ _⟩
  case round =>
    obtain ⟨i, hi, rfl, hno, hbel⟩ := hrel
    have HN := hid hno
    have HB := hid hbel
    clear hno hbel
    by_cases hlt : i < S.length
    · obtain ⟨b, off, hao, hbs, lo, lc, so, sc, d0, d1, hLR, _⟩ := HS.out i hlt
      subst hao
      have c0 : wr.cell? ⟨b, off + i * 2, none⟩ = some (.slice lo (atSr S i).1.length lc) := (HB.out.cell (p := ⟨b, _, none⟩) hbs).trans d0
      have c1 : wr.cell? ⟨b, off + i * 2 + 1, none⟩ = some (.slice so (atSr S i).2.length sc) := (HB.out.cell (p := ⟨b, _, none⟩) hbs).trans d1
      have hbx : Below wr.heap.size wr (wr.alloc (.cells #[.slice lo (atSr S i).1.length lc, .slice so (atSr S i).2.length sc] 55)) := (Below.refl _ wr).alloc (Nat.le_refl _) _
      have HC := hid (rcmp_any lo ko (atSr S i).1 L lc kc _ ((hLR.below HB.out).below hbx) ((HK.out.below HB.out).below hbx) (HLs.out i hlt) hl)
      have HBx := hid (bel2 HB.out hbx)
      clear d0 d1 hLR hbx
      generalize hcm : LB.cmp (atSr S i).1 L = cm at *
      have HCm := hid hcm
      clear hcm
      generalize (atSr S i).1.length = ln at *
      generalize (atSr S i).2.length = sn at *
      have hil : 0 ≤ (i : Int) ∧ (i : Int) < (S.length : Int) := by omega
      go_wp2_with fail
      refine HC.out.mono ?_
      rintro e w2 ⟨rfl, hb2⟩
      have HB2 := hid (bel2 HBx.out hb2)
      clear hb2 HC
      by_cases hz : cm = 0
      · have hz' : (cm == 0) = true := by simpa using hz
        have HZ := hid hz
        clear hz
        go_wp2_with fail
        go_ret
        have hp := HD.there_pos HO.out L i hlt (HCm.out.trans HZ.out)
        have ht : HD.there S L = true := (HD.there_iff HO.out L).2 ⟨i, hlt, HCm.out.trans HZ.out⟩
        exact ⟨by unfold fnd; rw [if_pos ht, ← hp]; rfl, HB2.out⟩
      · have hz' : (cm == 0) = false := by simpa using hz
        go_wp2_with fail
        go_roundw
        case rel =>
          refine ⟨i + 1, by omega, by go_num, fun k hk => ?_, HB2.out⟩
          by_cases e : k = i
          · rw [e, HCm.out]; exact hz
          · exact HN.out k (by omega)
        case measure => simp [intOf]; omega
    · have he : i = S.length := by omega
      subst he
      go_wp2_with fail
      go_ret
      have ht : HD.there S L = false := by
        rcases hb : HD.there S L with _ | _
        · rfl
        · obtain ⟨k, h1, h2⟩ := (HD.there_iff HO.out L).1 hb
          exact absurd h2 (HN.out k h1)
      exact ⟨by unfold fnd; rw [if_neg (by rw [ht]; decide)]; rfl, HB.out⟩

end Go.Proofs.YtdmnlmohfaafoadGreatDoor

