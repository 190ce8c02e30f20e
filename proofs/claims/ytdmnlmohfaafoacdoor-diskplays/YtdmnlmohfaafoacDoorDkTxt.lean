/- Texts in order, each once; rows of texts in memory. Names no function (made by mkdk.py). -/
import Derived.Test.YtdmnlmohfaafoacDoorDkMap
import Derived.Sort.KeysCollected
namespace Go.Proofs.YtdmnlmohfaafoacDoor
open Go.RowKit Go.Maps

/-- Texts in order, each once: those of which p holds. -/
def ST (T : List (List UInt8)) (p : ByteArray → Prop) : Prop := T.Pairwise (· ≤ ·) ∧ T.Nodup ∧ ∀ s : ByteArray, s.data.toList ∈ T ↔ p s

theorem ST.mem {T : List (List UInt8)} {p : ByteArray → Prop} (h : ST T p) (x : List UInt8) : x ∈ T ↔ p ⟨x.toArray⟩ := by
  have := h.2.2 ⟨x.toArray⟩
  simpa using this

theorem ST.unique {T T' : List (List UInt8)} {p : ByteArray → Prop} (h : ST T p) (h' : ST T' p) : T = T' := by
  refine List.Perm.eq_of_pairwise (le := fun a b => a ≤ b) (fun a b _ _ h1 h2 => List.le_antisymm h1 h2) h.1 h'.1 ((List.perm_ext_iff_of_nodup h.2.1 h'.2.1).2 fun x => ?_)
  rw [h.mem, h'.mem]

theorem ST.congr {T : List (List UInt8)} {p q : ByteArray → Prop} (h : ST T p) (hpq : ∀ s, p s ↔ q s) : ST T q := ⟨h.1, h.2.1, fun s => (h.2.2 s).trans (hpq s)⟩

theorem ST.nil {p : ByteArray → Prop} (h : ∀ s, ¬ p s) : ST [] p := ⟨List.Pairwise.nil, List.nodup_nil, fun s => by simp [h s]⟩

/-- Sorted, what was there each once. -/
theorem ST.sorted {ss : List (List UInt8)} {p : ByteArray → Prop} (hn : ss.Nodup) (hm : ∀ s : ByteArray, s.data.toList ∈ ss ↔ p s) : ST (ss.mergeSort fun x y => decide (x ≤ y)) p := by
  refine ⟨?_, (List.mergeSort_perm ss _).nodup_iff.2 hn, fun s => by rw [(List.mergeSort_perm ss _).mem_iff]; exact hm s⟩
  refine (List.pairwise_mergeSort (le := fun x y => decide (x ≤ y)) (fun a b c h1 h2 => ?_) (fun a b => ?_) ss).imp fun h => of_decide_eq_true h
  · simp only [decide_eq_true_eq] at h1 h2 ⊢; exact List.le_trans h1 h2
  · simp only [Bool.or_eq_true, decide_eq_true_eq]; exact List.le_total a b

section
variable {P : Program} {k : TypeId} {R : Value → Option (DataW Value × List MemPlace)} {w : World} {b n : Nat} {D : DataW Value}

theorem strKeys_facts (h : w.ownsMap P k R b n D) (hk : P.underlying k = some .string) : (strKeys D).Nodup ∧ ∀ x, x ∈ strKeys D ↔ has D (.string x) = true := by
  obtain ⟨es, hD, hpw, _⟩ := h.entries (string_keyed hk)
  obtain ⟨es', hD', hko⟩ := h.keysOf
  obtain rfl : es = es' := by rw [hD] at hD'; simpa using hD'
  subst hD
  have hks : ∀ p ∈ es, ∃ x, p.1 = .string x := fun p hp => by
    obtain ⟨v, hv⟩ := hko p hp
    obtain ⟨x, _, hx, _⟩ := Maps.keyOf_str hk hv
    exact ⟨x, hx⟩
  constructor
  · show (es.map fun p => strOf p.1).Nodup
    refine List.pairwise_map.2 (hpw.imp_of_mem fun {p q} hp' hq' hne e => hne ?_)
    obtain ⟨a, ha⟩ := hks p hp'
    obtain ⟨b, hb⟩ := hks q hq'
    rw [ha, hb] at e ⊢
    exact congrArg _ e
  · intro x
    rw [has_eq, List.any_eq_true]
    show x ∈ es.map (fun p => strOf p.1) ↔ _
    rw [List.mem_map]
    constructor
    · rintro ⟨p, hp', rfl⟩
      obtain ⟨a, ha⟩ := hks p hp'
      exact ⟨p, hp', by rw [ha]; simp [Lit.sameKey, strOf]⟩
    · rintro ⟨p, hp', hs⟩
      obtain ⟨a, ha⟩ := hks p hp'
      rw [ha] at hs
      exact ⟨p, hp', by rw [ha]; simpa [Lit.sameKey, strOf] using hs⟩

theorem strKeys_len (h : w.ownsMap P k R b n D) : (strKeys D).length = Maps.size D := by
  obtain ⟨es, rfl⟩ := h.isMap
  show (es.map _).length = es.length
  rw [List.length_map]

theorem keys_ST {f : ByteArray → Option Value} (h : w.ownsMap P k R b n D) (hk : P.underlying k = some .string) (hT : Tells D f) {ss : List (List UInt8)} (hp : ss.Perm (strKeys D)) : ST (ss.mergeSort fun x y => decide (x ≤ y)) fun s => f s ≠ none := by
  obtain ⟨h1, h2⟩ := strKeys_facts h hk
  refine ST.sorted (hp.nodup_iff.2 h1) fun s => ?_
  rw [hp.mem_iff, h2]
  constructor
  · intro hh hn
    rw [(hT.2 s).1 hn] at hh; cases hh
  · intro hh
    cases hf : f s with
    | none => exact absurd hf hh
    | some v => exact ((hT.2 s).2 v hf).1

end

/-- What such a call leaves: a new row of texts. -/
def TextEnd (p : ByteArray → Prop) (w : World) (e : Ending) (w' : World) : Prop := ∃ v T, e = .returned v ∧ ST T p ∧ T.length ≤ 100000 ∧ w'.ownsRow w.heap.size 9 1 v T.length (T.map encStr) ∧ Below w.heap.size w w'

/-- Texts as cells. -/
def tv (l : List ByteArray) : List Value := l.map Value.string

theorem tv_append (a b : List ByteArray) : tv (a ++ b) = tv a ++ tv b := by simp [tv]

theorem tv_enc (l : List ByteArray) : tv l = (l.map fun s => s.data.toList).map encStr := by
  unfold tv
  rw [List.map_map]
  refine List.map_congr_left fun s _ => ?_
  simp [encStr]

theorem RngF.le {P : Program} {k : TypeId} {w : World} {b r n cnt : Nat} {f : ByteArray → Option Value} {ks : List ByteArray} (h : RngF P k w b r n f ks cnt) : cnt ≤ n := by
  obtain ⟨D, left, ⟨es, clock, since, seen, c0, _, _, hs, _, _, _, hc, _⟩, _⟩ := h
  have : (leftOf es seen).size ≤ es.size := by unfold leftOf; exact Array.size_filter_le
  omega

theorem upd_ne {f : ByteArray → Option Value} {s t : ByteArray} {v : Value} : upd f s v t ≠ none ↔ t = s ∨ f t ≠ none := by
  by_cases e : t = s
  · subst e; rw [upd_same]; simp
  · rw [upd_other _ _ _ _ e]; simp [e]

theorem nil_text {s : ByteArray} : s.toList = [] ↔ s = ByteArray.empty := by
  have h : ByteArray.empty.toList = [] := by rw [Lib.toList_data]; rfl
  rw [← h]; exact LB.toList_iff

/-- Texts that were made, read as ones that are there. -/
def TRow (w : World) (ao : Option Addr) (A : List (List UInt8)) : Prop := ∀ i, i < A.length → ∃ b off, ao = some ⟨b, off, none⟩ ∧ w.cell? ⟨b, off + i, none⟩ = some (encStr (A.getD i [])) ∧ b < w.heap.size

theorem TRow.below {w w' : World} {ao : Option Addr} {A : List (List UInt8)} (h : TRow w ao A) (hb : Below w.heap.size w w') : TRow w' ao A := by
  intro i hi
  obtain ⟨b, off, h1, h2, h3⟩ := h i hi
  exact ⟨b, off, h1, (hb.cell (p := ⟨b, _, none⟩) h3).trans h2, Nat.lt_of_lt_of_le h3 hb.size⟩

theorem TRow.of_own {w : World} {base : Nat} {v : Value} {l : List (List UInt8)} (h : w.ownsRow base 9 1 v l.length (l.map encStr)) : ∃ ao cap, v = .slice ao l.length cap ∧ TRow w ao l := by
  have hlt := h.lt
  have h0 := h
  obtain ⟨h1, h2⟩ := h
  rcases h2 with ⟨rfl, hn⟩ | ⟨g, cap, cur, rfl, hg, hh, r⟩
  · refine ⟨none, 0, by rw [hn], fun i hi => by omega⟩
  · refine ⟨some ⟨g, 0, none⟩, cap, rfl, fun i hi => ⟨g, 0, rfl, ?_, (hlt g rfl).2⟩⟩
    rw [Nat.zero_add, h0.cellAt i (by omega)]
    rw [List.getElem?_map, List.getElem?_eq_getElem hi, List.getD_eq_getElem?_getD, List.getElem?_eq_getElem hi]; rfl

theorem Tryd.infoS : (Tryd.prog.info? 9).map (fun i => (i.zero, i.size, i.bytes)) = some (some (.string ⟨#[]⟩), 1, 16) := by kernel_rfl

theorem rowN_far {w : World} {base n size k : Nat} {e : TypeId} {v : Value} {xs : List Value} (h : w.ownsRow base e size v n xs) (hk : k < base) : v.ownBlock ≠ some k := fun hh => by
  have := (h.lt k hh).1; omega

end Go.Proofs.YtdmnlmohfaafoacDoor
