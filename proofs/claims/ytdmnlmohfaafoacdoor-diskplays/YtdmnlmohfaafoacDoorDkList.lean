/- What the disk's List answers: all names, in order. -/
import Derived.Test.YtdmnlmohfaafoacDoorDkFn
import Derived.Test.YtdmnlmohfaafoacDoorDkTxt
import Derived.Test.YtdmnlmohfaafoacDoorShelfK
namespace Go.Proofs.YtdmnlmohfaafoacDoor
open Go.RowKit Go.Maps

set_option maxRecDepth 100000 in
set_option maxHeartbeats 800000 in
theorem list_any {w : World} {X : Nat → Prop} {bd cnt : Nat} {D : DK.M} {p : Int} {mo : Option Nat} {fp : ByteArray → Option Nat} {fv : ByteArray → Value} {e : Bool} {l : Int} (h : DkA w X bd cnt D p mo fp fv e l) (hc : cnt ≤ 100000) :
    Calls Tryd.prog 16 #[.pointer (some ⟨bd, 0, none⟩)] w fun en w' => TextEnd (fun n => D n ≠ none) w en w' := by
  have HI := hid h
  have c0 := h.c0
  have HK := hid (callsIn_wide.1 (Tryd.maps_Keys_29 mo w))
  have HB3 := hid ((Below.refl w.heap.size w).alloc (Nat.le_refl _) (.cells #[.map mo] 23))
  have HS : Hid (Calls Tryd.prog 28 #[.func (.func 35) #[] #[.pointer (some ⟨w.heap.size, 0, none⟩)]] (w.alloc (.cells #[.map mo] 23)) fun e w' => ∃ v T, e = .returned v ∧ ST T (fun n => D n ≠ none) ∧ T.length ≤ 100000 ∧ w'.ownsRow w.heap.size 9 1 v T.length (T.map encStr) ∧ Below (w.alloc (.cells #[.map mo] 23)).heap.size (w.alloc (.cells #[.map mo] 23)) w') := by
    show Calls _ _ _ _ _
    cases hm : mo with
    | none =>
      refine (callsIn_wide.1 (Tryd.slices_Sorted_keys_nil_28_29 w)).mono ?_
      rintro e w4 ⟨v, ss, rfl, rfl, hown, _, hb⟩
      have h5 := World.ownsRow.mono (base' := w.heap.size) hown (by simp)
      exact ⟨v, [], rfl, ST.nil fun s h1 => h1 ((HI.out.files.no s).1 (HI.out.nomap hm s)), by simp, by simpa using h5, hb⟩
    | some b =>
      obtain ⟨D1, h1, h2⟩ := (HI.out.map b hm).2
      have hs := h1.size_le
      refine (callsIn_wide.1 (Tryd.slices_Sorted_keys_28_29 b cnt D1 rawElem w h1 (by unfold maxLen; omega) (by omega))).mono ?_
      rintro e w4 ⟨v, ss, rfl, hp, hown, _, hb⟩
      refine ⟨v, _, rfl, (keys_ST h1 Tryd.underlying9 h2 hp).congr (fun s => ?_), ?_, ?_, hb⟩
      · show (fp s).map _ ≠ none ↔ _
        rw [ne_eq, ne_eq, not_congr (HI.out.files.no s).symm]
        cases fp s <;> simp
      · rw [List.length_mergeSort, hp.length_eq, strKeys_len h1]; omega
      · rw [List.length_mergeSort]; exact hown.mono (by simp)
  clear h
  go_enter Tryd.func16, Tryd.ntmps16
  go_wp2_with fail
  refine HK.out.mono ?_
  rintro e w3 ⟨rfl, rfl⟩
  clear HK c0
  go_wp2_with fail
  refine HS.out.mono ?_
  rintro e w4 ⟨v, T, rfl, hT, htl, hown, hb⟩
  have HT := hid hT
  have HTl := hid htl
  have HO := hid hown
  have HB := hid (HB3.out.trans (hb.mono HB3.out.size))
  clear hT htl hown hb HS HB3
  go_wp2_with fail
  go_ret
  exact ⟨v, T, rfl, HT.out, HTl.out, HO.out, HB.out⟩

end Go.Proofs.YtdmnlmohfaafoacDoor
