/- What (*Index).Names and Values answer: the names, and what a name says, in order. -/
import Derived.Test.YtdmnlmohfaafoacGreatDoorIxMatch
import Derived.Test.YtdmnlmohfaafoacGreatDoorShelfK
import Derived.Sort.KeysCollected
namespace Go.Proofs.YtdmnlmohfaafoacGreatDoor
open Go.RowKit Go.Maps

/-- Texts in order, each once: those of which p holds. -/
def ST (T : List (List UInt8)) (p : ByteArray → Prop) : Prop := T.Pairwise (· ≤ ·) ∧ T.Nodup ∧ ∀ s : ByteArray, s.data.toList ∈ T ↔ p s

theorem ST.mem {T : List (List UInt8)} {p : ByteArray → Prop} (h : ST T p) (x : List UInt8) : x ∈ T ↔ p ⟨x.toArray⟩ := by
  have := h.2.2 ⟨x.toArray⟩
  simpa using this

theorem ST.unique {T T' : List (List UInt8)} {p : ByteArray → Prop} (h : ST T p) (h' : ST T' p) : T = T' := by
  refine List.Perm.eq_of_pairwise (le := fun a b => a ≤ b) (fun a b _ _ h1 h2 => List.le_antisymm h1 h2) h.1 h'.1 ((List.perm_ext_iff_of_nodup h.2.1 h'.2.1).2 fun x => ?_)
  rw [h.mem, h'.mem]

theorem ST.congr {T : List (List UInt8)} {p q : ByteArray → Prop} (h : ST T p) (hpq : ∀ s, p s ↔ q s) : ST T q := ⟨h.1, h.2.1, fun s => (h.2.2 s).trans (hpq s)⟩

theorem ST.nil {p : ByteArray → Prop} (h : ∀ s, ¬ p s) : ST [] p := ⟨List.Pairwise.nil, List.nodup_nil, fun s => by simp [h s]⟩

/-- Sorted, what was there each once. -/
theorem ST.sorted {ss : List (List UInt8)} {p : ByteArray → Prop} (hn : ss.Nodup) (hm : ∀ s : ByteArray, s.data.toList ∈ ss ↔ p s) : ST (ss.mergeSort fun x y => decide (x ≤ y)) p := by
  refine ⟨?_, (List.mergeSort_perm ss _).nodup_iff.2 hn, fun s => by rw [(List.mergeSort_perm ss _).mem_iff]; exact hm s⟩
  refine (List.pairwise_mergeSort (le := fun x y => decide (x ≤ y)) (fun a b c h1 h2 => ?_) (fun a b => ?_) ss).imp fun h => of_decide_eq_true h
  · simp only [decide_eq_true_eq] at h1 h2 ⊢; exact List.le_trans h1 h2
  · simp only [Bool.or_eq_true, decide_eq_true_eq]; exact List.le_total a b

section
variable {P : Program} {k : TypeId} {R : Value → Option (DataW Value × List MemPlace)} {w : World} {b n : Nat} {D : DataW Value}

theorem strKeys_facts (h : w.ownsMap P k R b n D) (hk : P.underlying k = some .string) : (strKeys D).Nodup ∧ ∀ x, x ∈ strKeys D ↔ has D (.string x) = true := by
  obtain ⟨es, hD, hpw, _⟩ := h.entries (string_keyed hk)
  obtain ⟨es', hD', hko⟩ := h.keysOf
  obtain rfl : es = es' := by rw [hD] at hD'; simpa using hD'
  subst hD
  have hks : ∀ p ∈ es, ∃ x, p.1 = .string x := fun p hp => by
    obtain ⟨v, hv⟩ := hko p hp
    obtain ⟨x, _, hx, _⟩ := Maps.keyOf_str hk hv
    exact ⟨x, hx⟩
  constructor
  · show (es.map fun p => strOf p.1).Nodup
    refine List.pairwise_map.2 (hpw.imp_of_mem fun {p q} hp' hq' hne e => hne ?_)
    obtain ⟨a, ha⟩ := hks p hp'
    obtain ⟨b, hb⟩ := hks q hq'
    rw [ha, hb] at e ⊢
    exact congrArg _ e
  · intro x
    rw [has_eq, List.any_eq_true]
    show x ∈ es.map (fun p => strOf p.1) ↔ _
    rw [List.mem_map]
    constructor
    · rintro ⟨p, hp', rfl⟩
      obtain ⟨a, ha⟩ := hks p hp'
      exact ⟨p, hp', by rw [ha]; simp [Lit.sameKey, strOf]⟩
    · rintro ⟨p, hp', hs⟩
      obtain ⟨a, ha⟩ := hks p hp'
      rw [ha] at hs
      exact ⟨p, hp', by rw [ha]; simpa [Lit.sameKey, strOf] using hs⟩

theorem strKeys_len (h : w.ownsMap P k R b n D) : (strKeys D).length = Maps.size D := by
  obtain ⟨es, rfl⟩ := h.isMap
  show (es.map _).length = es.length
  rw [List.length_map]

theorem keys_ST {f : ByteArray → Option Value} (h : w.ownsMap P k R b n D) (hk : P.underlying k = some .string) (hT : Tells D f) {ss : List (List UInt8)} (hp : ss.Perm (strKeys D)) : ST (ss.mergeSort fun x y => decide (x ≤ y)) fun s => f s ≠ none := by
  obtain ⟨h1, h2⟩ := strKeys_facts h hk
  refine ST.sorted (hp.nodup_iff.2 h1) fun s => ?_
  rw [hp.mem_iff, h2]
  constructor
  · intro hh hn
    rw [(hT.2 s).1 hn] at hh; cases hh
  · intro hh
    cases hf : f s with
    | none => exact absurd hf hh
    | some v => exact ((hT.2 s).2 v hf).1

end

/-- What such a call leaves: a new row of texts. -/
def TextEnd (p : ByteArray → Prop) (w : World) (e : Ending) (w' : World) : Prop := ∃ v T, e = .returned v ∧ ST T p ∧ T.length ≤ 100000 ∧ w'.ownsRow w.heap.size 9 1 v T.length (T.map encStr) ∧ Below w.heap.size w w'

set_option maxRecDepth 100000 in
set_option maxHeartbeats 800000 in
theorem values_any (bx N cnt bo : Nat) (Sd : ByteArray → ByteArray → List Int) (fo : ByteArray → Option Nat) (fi : ByteArray → ByteArray → Option Value) (n : ByteArray) (w : World) (hI : IxR w bx N cnt Sd bo fo fi) (hc : cnt ≤ 100000) (hn : n.size ≤ maxLen) :
    Calls Tryz.prog 10 #[.pointer (some ⟨bx, 0, none⟩), .string n] w fun e w' => TextEnd (fun v => fi n v ≠ none) w e w' := by
  have HI := hid hI
  have hL : (Instr.lookup 57 (.map (some bo)) (.string n) false).run Tryz.prog w = .ok (.map (fo n)) w :=
    MapF.look hI.out Tryz.underlying9 Tryz.underlying57 zeroO hn (oF_get fo n)
  have hcx : w.cell? ⟨bx, 1, none⟩ = some (.map (some bo)) := hI.c1
  clear hI
  go_enter Tryz.func10, Tryz.ntmps10
  go_wp2_with fail
  refine (known_any bx w).mono ?_
  rintro e w2 ⟨rfl, rfl⟩
  have HK := hid (callsIn_wide.1 (Tryz.maps_Keys_24 (fo n) w2))
  go_wp2_with fail
  refine HK.out.mono ?_
  rintro e w3 ⟨rfl, rfl⟩
  have HB3 := hid ((Below.refl w2.heap.size w2).alloc (Nat.le_refl _) (.cells #[.map (fo n)] 69))
  clear HK hL hcx
  have HS : Hid (Calls Tryz.prog 23 #[.func (.func 41) #[] #[.pointer (some ⟨w2.heap.size, 0, none⟩)]] (w2.alloc (.cells #[.map (fo n)] 69)) fun e w' => ∃ v T, e = .returned v ∧ ST T (fun v => fi n v ≠ none) ∧ T.length ≤ 100000 ∧ w'.ownsRow w2.heap.size 9 1 v T.length (T.map encStr) ∧ Below (w2.alloc (.cells #[.map (fo n)] 69)).heap.size (w2.alloc (.cells #[.map (fo n)] 69)) w') := by
    show Calls _ _ _ _ _
    cases hfo : fo n with
    | none =>
      refine (callsIn_wide.1 (Tryz.slices_Sorted_keys_nil_23_24 w2)).mono ?_
      rintro e w4 ⟨v, ss, rfl, rfl, hown, _, hb⟩
      have h5 := World.ownsRow.mono (base' := w2.heap.size) hown (by simp)
      exact ⟨v, [], rfl, ST.nil fun s h => h (HI.out.off n hfo s), by simp, by simpa using h5, hb⟩
    | some b =>
      obtain ⟨D, h1, h2⟩ := HI.out.inn n b hfo
      have hs := h1.size_le
      refine (callsIn_wide.1 (Tryz.slices_Sorted_keys_23_24 b cnt D rawElem w2 h1 (by unfold maxLen; omega) (by omega))).mono ?_
      rintro e w4 ⟨v, ss, rfl, hp, hown, _, hb⟩
      refine ⟨v, _, rfl, keys_ST h1 Tryz.underlying9 h2 hp, ?_, ?_, hb⟩
      · rw [List.length_mergeSort, hp.length_eq, strKeys_len h1]; omega
      · rw [List.length_mergeSort]; exact hown.mono (by simp)
  go_wp2_with fail
  refine HS.out.mono ?_
  rintro e w4 ⟨v, T, rfl, hT, htl, hown, hb⟩
  have HT := hid hT
  have HTl := hid htl
  have HO := hid hown
  have HB := hid (HB3.out.trans (hb.mono HB3.out.size))
  clear hT htl hown hb HS HB3
  go_wp2_with fail
  go_ret
  exact ⟨v, T, rfl, HT.out, HTl.out, HO.out, HB.out⟩

set_option maxRecDepth 100000 in
set_option maxHeartbeats 800000 in
theorem names_any (bx N cnt bo : Nat) (Sd : ByteArray → ByteArray → List Int) (fo : ByteArray → Option Nat) (fi : ByteArray → ByteArray → Option Value) (w : World) (hI : IxR w bx N cnt Sd bo fo fi) (hc : cnt ≤ 100000) :
    Calls Tryz.prog 12 #[.pointer (some ⟨bx, 0, none⟩)] w fun e w' => TextEnd (fun n => fo n ≠ none) w e w' := by
  have HI := hid hI
  have hcx : w.cell? ⟨bx, 1, none⟩ = some (.map (some bo)) := hI.c1
  clear hI
  go_enter Tryz.func12, Tryz.ntmps12
  go_wp2_with fail
  refine (known_any bx w).mono ?_
  rintro e w2 ⟨rfl, rfl⟩
  have HK := hid (callsIn_wide.1 (Tryz.maps_Keys_28 (some bo) w2))
  go_wp2_with fail
  refine HK.out.mono ?_
  rintro e w3 ⟨rfl, rfl⟩
  have HB3 := hid ((Below.refl w2.heap.size w2).alloc (Nat.le_refl _) (.cells #[.map (some bo)] 57))
  clear HK hcx
  obtain ⟨D, h1, h2⟩ := HI.out.out
  have HS := hid (callsIn_wide.1 (Tryz.slices_Sorted_keys_23_28 bo cnt D rawElem w2 h1 (by have := h1.size_le; unfold maxLen; omega) (by have := h1.size_le; omega)))
  have HD1 := hid h1
  have HD2 := hid h2
  clear h1 h2
  go_wp2_with fail
  refine HS.out.mono ?_
  rintro e w4 ⟨v, ss, rfl, hp, hown, _, hb⟩
  have HT : Hid (ST (ss.mergeSort fun x y => decide (x ≤ y)) fun n => fo n ≠ none) := (keys_ST HD1.out Tryz.underlying9 HD2.out hp).congr fun s => by
    show (fo s).map _ ≠ none ↔ _
    cases fo s <;> simp
  have HO : Hid (w4.ownsRow w2.heap.size 9 1 v (ss.mergeSort fun x y => decide (x ≤ y)).length ((ss.mergeSort fun x y => decide (x ≤ y)).map encStr)) := by
    show World.ownsRow _ _ _ _ _ _ _
    rw [List.length_mergeSort]; exact hown.mono (by simp)
  have HTl : Hid ((ss.mergeSort fun x y => decide (x ≤ y)).length ≤ 100000) := by
    show _ ≤ _
    rw [List.length_mergeSort, hp.length_eq, strKeys_len HD1.out]
    have := HD1.out.size_le
    omega
  have HB := hid (HB3.out.trans (hb.mono HB3.out.size))
  clear hp hown hb HS HB3 HD1 HD2
  go_wp2_with fail
  go_ret
  exact ⟨v, _, rfl, HT.out, HTl.out, HO.out, HB.out⟩

end Go.Proofs.YtdmnlmohfaafoacGreatDoor
