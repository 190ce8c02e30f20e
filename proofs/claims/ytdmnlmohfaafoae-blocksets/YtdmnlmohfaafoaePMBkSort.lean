/- The document's sorted, of any row of series of different labels (partly made by mkbk.py). -/
import Derived.Test.YtdmnlmohfaafoaePMBrSort
import Derived.Test.YtdmnlmohfaafoaePMBkJn
namespace Go.Proofs.Ytdmnlmohfaafoae
open Go.RowKit Go.Lib

namespace BK

/-- A row, sorted: in order, and the same series. -/
theorem sorted_perm {T : List Sr} (hd : Dis T) {f : Nat → Sr} (hs : ST.Sw 0 T.length (fun i => atSr T i) f) (ha : ST.Asc HD.ltS f 0 T.length) :
    HD.Ord ((List.range T.length).map f) ∧ ∀ y, y ∈ (List.range T.length).map f ↔ y ∈ T := by
  have hinj2 := HD.sw_inj (fun s : Sr => s.1) hs hd
  refine ⟨?_, fun y => ?_⟩
  · unfold HD.Ord
    rw [List.pairwise_map, List.pairwise_iff_getElem]
    intro i j hi hj hij
    rw [List.length_range] at hi hj
    rw [List.getElem_range, List.getElem_range]
    have h1 : HD.ltS (f j) (f i) = false := ha i j (Nat.zero_le _) hij hj
    have h2 := hinj2 i j hi hj (by omega)
    unfold HD.ltS at h1
    have h3 := of_decide_eq_false h1
    rcases LB.cmp_ord.rng (f i).1 (f j).1 with h | h | h
    · exact h
    · exact absurd (HD.cmp_eq h) h2
    · have := HD.cmp_flip' h
      omega
  · rw [List.mem_map]
    constructor
    · rintro ⟨k, hk, rfl⟩
      rw [List.mem_range] at hk
      obtain ⟨k', h1, h2⟩ := hs.back ⟨Nat.zero_le k, hk⟩
      rw [h2]
      exact HD.at_mem T k' h1.2
    · intro h
      obtain ⟨k, h1, h2⟩ := HD.mem_at h
      obtain ⟨k', h3, h4⟩ := HD.sw_forth hs k h1
      exact ⟨k', List.mem_range.2 h3, by rw [h4, h2]⟩

end BK

theorem so_srt0 (w0 : World) (Z : Nat → Prop) (g cap B1 B : Nat) (hB : g < B) :
    Srt Try.prog ltC 0 B (fun j => j = g) (SoSt w0 Z 0 g cap B1) 52 #[.pointer (some ⟨B1, 0, none⟩)] 67 #[] where
  el := enters_of Try.func52 (by kernel_rfl) rfl
  low j hj := by rw [hj]; exact hB
  kept W W' d h k := h.below k
  less W d i j _ h hi hj := (less_so w0 Z 0 g cap B1 W d i j h hi hj).mono fun e w' k => ⟨k.1, h.below k.2, SFr.below k.2⟩
  swap W d i j _ h hi hj := by
    omega

set_option maxRecDepth 100000 in
set_option maxHeartbeats 1600000 in
theorem sstable_zero (w0 : World) (Z : Nat → Prop) (g cap B1 : Nat) (w : World) (d : Nat → Cd) (h : SoSt w0 Z 0 g cap B1 w d) :
    Calls Try.prog 51 #[.iface 22 (.slice (some ⟨g, 0, none⟩) 0 cap), .func (.func 52) #[] #[.pointer (some ⟨B1, 0, none⟩)]] w fun e w' => e = .returned (.tuple #[]) ∧ (∃ f, SoSt w0 Z 0 g cap B1 w' f ∧ ST.Sw 0 0 d f ∧ ST.Asc ltC f 0 0) ∧ SFr (fun j => j = g) w w' := by
  have hi : Try.prog.info? 22 = some srT := by kernel_rfl
  have hd : srT.desc = .slice 44 := by kernel_rfl
  have hie : Try.prog.info? 44 = some srE := by kernel_rfl
  have hpk : Try.prog.packed 22 = false := by kernel_rfl
  have hv := run_valueOf_slice (P := Try.prog) 22 44 srT hi hd (some ⟨g, 0, none⟩) 0 cap w
  have hk1 : Lib.swapperK 0 srE 25 = 1 := rfl
  have hs := fun w => run_swapper_slice (P := Try.prog) 22 44 srT srE hi hd hie 25 (fun _ => by kernel_rfl) (some ⟨g, 0, none⟩) 0 cap 67 (by rw [hk1]; kernel_rfl) w
  have hl := fun a w ha => run_valueLen_slice (P := Try.prog) 22 44 srT hi hd hpk a (some ⟨g, 0, none⟩) 0 cap w ha
  have hk9 : Lib.swapperK 0 srE 25 ≤ 2 := by rw [hk1]; decide
  have ht1 : typeHandle Try.prog 22 = .pointer (some ⟨0, 22, none⟩) := by kernel_rfl
  simp only [if_pos hk9] at hs
  have hbel : Below w.heap.size w ((w.alloc (.cells #[.slice (some ⟨g, 0, none⟩) 0 cap] 22)).alloc (.cells #[.pointer (some ⟨0, 22, none⟩), .pointer (some ⟨w.heap.size, 0, none⟩), .int .u64 151] 91)) := ((Below.refl _ w).alloc (Nat.le_refl _) _).alloc (by simp) _
  have hgw : g < w.heap.size := (h.1.row.lt g rfl).2
  have HP := hid (stable_any (so_srt0 w0 Z g cap B1 w.heap.size hgw) (HD.ltS_weak (fun c : Cd => c.2)) (by decide) d _ hbel.size (h.below hbel))
  have HF := hid (SFr.below (X := fun j => j = g) hbel)
  rw [ht1] at hv
  simp only [ht1] at hl
  clear hi hd hie hpk h hbel hk9 hk1 ht1
  go_enter Try.func51, Try.ntmps51
  go_wp2
  rw [run_callFunc_extern Try.func58 (by kernel_rfl) (by kernel_rfl) (by kernel_rfl) (e := fun args => Extern.ReflectliteValue.unpack (args.getD 0 (.tuple #[]))) (by kernel_rfl),
    show Sem.run Try.prog ((fun args : Array Value => Extern.ReflectliteValue.unpack (args.getD 0 (.tuple #[]))) #[.iface 22 (.slice (some ⟨g, 0, none⟩) 0 cap)]) w = _ from hv]
  simp only [Result.andThen]
  rw [Oper.upon_value]
  go_wp2
  rw [run_callFunc_extern Try.func59 (by kernel_rfl) (by kernel_rfl) (by kernel_rfl) (e := Extern.ReflectliteSwapper.swapper "internal/reflectlite" (Extern.ReflectliteValue.valueError "Swapper")) (by kernel_rfl), hs]
  simp only [Result.andThen]
  rw [Oper.upon_value]
  go_wp2
  rw [run_callFunc_extern Try.func60 (by kernel_rfl) (by kernel_rfl) (by kernel_rfl) (e := Extern.ReflectliteValue.method (Extern.ReflectliteValue.valueError "reflectlite.Value.Len" 0) Extern.ReflectliteValue.len) (by kernel_rfl),
    hl _ _ (by simp)]
  simp only [Result.andThen]
  rw [Oper.upon_value]
  go_wp2_with (go_at_call 63; refine HP.out.mono ?_; rintro e w' ⟨rfl, hR, hS⟩; have HR := hid hR; have HS := hid hS; clear hR hS)
  go_end0
  exact ⟨rfl, HR.out, HF.out.trans HS.out⟩

set_option maxRecDepth 100000 in
set_option maxHeartbeats 1600000 in
theorem sorted_gen (w0 : World) (Z : Nat → Prop) (g cap : Nat) (xs : List (Value × Value)) (T : List Sr) (w : World) (h : RB w0 w Z (.slice (some ⟨g, 0, none⟩) T.length cap) xs T) (hd : BK.Dis T) (hl : ∀ i, i < T.length → (atSr T i).1.length ≤ 1000) (hs : T.length ≤ 1000) :
    Calls Try.prog 34 #[.slice (some ⟨g, 0, none⟩) T.length cap] w fun e w' => e = .returned (.slice (some ⟨g, 0, none⟩) T.length cap) ∧ (∃ R xs', RB w0 w' Z (.slice (some ⟨g, 0, none⟩) T.length cap) xs' R ∧ HD.Ord R ∧ ∀ x, x ∈ R ↔ x ∈ T) ∧ SFr (fun j => j = g) w w' := by
  have hbel : Below w.heap.size w (w.alloc (.cells #[.slice (some ⟨g, 0, none⟩) T.length cap] 22)) := (Below.refl _ w).alloc (Nat.le_refl _) _
  have hrx : rowX T.length (fun i => (atX xs i, atSr T i)) = xs := by
    apply List.ext_getElem
    · rw [rowX_len, h.len]
    · intro k h1 h2
      simp only [rowX, List.getElem_map, List.getElem_range]
      unfold atX
      rw [List.getD_eq_getElem?_getD, List.getElem?_eq_getElem h2]; rfl
  have hrs : rowS T.length (fun i => (atX xs i, atSr T i)) = T := by
    apply List.ext_getElem
    · rw [rowS_len]
    · intro k h1 h2
      simp only [rowS, List.getElem_map, List.getElem_range]
      rw [HD.at_get]
  have hso : SoSt w0 Z T.length g cap w.heap.size (w.alloc (.cells #[.slice (some ⟨g, 0, none⟩) T.length cap] 22)) (fun i => (atX xs i, atSr T i)) := by
    refine ⟨?_, heap_alloc_new w _, hl⟩
    rw [hrx, hrs]
    exact h.below hbel
  have HP : Hid (Calls Try.prog 51 #[.iface 22 (.slice (some ⟨g, 0, none⟩) T.length cap), .func (.func 52) #[] #[.pointer (some ⟨w.heap.size, 0, none⟩)]] (w.alloc (.cells #[.slice (some ⟨g, 0, none⟩) T.length cap] 22)) fun e w' => e = .returned (.tuple #[]) ∧ (∃ f, SoSt w0 Z T.length g cap w.heap.size w' f ∧ ST.Sw 0 T.length (fun i => (atX xs i, atSr T i)) f ∧ ST.Asc ltC f 0 T.length) ∧ SFr (fun j => j = g) (w.alloc (.cells #[.slice (some ⟨g, 0, none⟩) T.length cap] 22)) w') := by
    rcases Nat.lt_or_ge T.length 2 with h0 | h0
    · rcases Nat.eq_zero_or_pos T.length with h1 | h1
      · rw [h1] at hso ⊢
        exact sstable_zero w0 Z g cap _ _ _ hso
      · have e : T.length = 1 := by omega
        rw [e] at hso ⊢
        exact sstable_one w0 Z g cap _ _ _ hso
    · exact sstable_two w0 Z T.length g cap _ _ _ hso h0 (by omega)
  have HB := hid hbel
  have HD' := hid hd
  clear hso hrx hrs hbel h hd hl
  go_enter Try.func34, Try.ntmps34
  go_wp2_with fail
  refine HP.out.mono ?_
  rintro e w2 ⟨rfl, ⟨f, hf, hsw, has⟩, hfr⟩
  have c0 : w2.cell? ⟨w.heap.size, 0, none⟩ = some (.slice (some ⟨g, 0, none⟩) T.length cap) := zcell' _ _ _ _ hf.2.1 0 _ rfl
  obtain ⟨h1, h2⟩ := BK.sorted_perm HD'.out (HD.sw_map (fun c : Cd => c.2) hsw) (fun i j h1 h2 h3 => has i j h1 h2 h3)
  have HR : Hid (∃ R xs', RB w0 w2 Z (.slice (some ⟨g, 0, none⟩) T.length cap) xs' R ∧ HD.Ord R ∧ ∀ x, x ∈ R ↔ x ∈ T) := ⟨_, _, hf.1, h1, h2⟩
  have HF := hid (SFr.trans (SFr.below (X := fun j => j = g) HB.out) hfr)
  clear hf hsw has hfr HP h1 h2
  go_wp2_with fail
  go_ret
  exact ⟨rfl, HR.out, HF.out⟩

end Go.Proofs.Ytdmnlmohfaafoae

