/- raingaugekeep.one (made by mkbk.py) -/
import Derived.Test.YtdmnlmohfaafoaeDoorPSBmMemC
namespace Go.Proofs.YtdmnlmohfaafoaeDoor
open Go.RowKit

/-- One series, written down. -/
theorem lit_own {W : World} {base b1 b2 b3 : Nat} {n s : ByteArray} {t v : Int} (h1 : W.heap[b1]? = some (.cells #[.string n, .string s] 84)) (h2 : W.heap[b2]? = some (.cells #[.int .i64 t, .int .i64 v] 42)) (h3 : W.heap[b3]? = some (.cells #[.slice (some ⟨b1, 0, none⟩) 1 1, .slice (some ⟨b2, 0, none⟩) 1 1] 38)) (k1 : base ≤ b1) (k2 : base ≤ b2) (k3 : base ≤ b3) :
    SrOwn W base (.slice (some ⟨b3, 0, none⟩) 1 1) [([(n, s)], [(t, v)])] := by
  have hm : 1 ≤ maxLen := by unfold maxLen; omega
  refine ⟨[(.slice (some ⟨b1, 0, none⟩) 1 1, .slice (some ⟨b2, 0, none⟩) 1 1)], rfl, ⟨rfl, .inr ⟨b3, 1, _, rfl, k3, h3, Nat.le_refl _, hm, rfl, rfl⟩⟩, fun i hi => ?_⟩
  have hi0 : i = 0 := by simp at hi; omega
  subst hi0
  exact ⟨⟨rfl, .inr ⟨b1, 1, _, rfl, k1, h1, Nat.le_refl _, hm, rfl, rfl⟩⟩, ⟨rfl, .inr ⟨b2, 1, _, rfl, k2, h2, Nat.le_refl _, hm, rfl, rfl⟩⟩⟩

/-- A series of one sample. -/
abbrev oneS (name : ByteArray) (t v : Int) : List Sr := [([(⟨#[110]⟩, name)], [(t, v)])]

theorem kone_any (name : ByteArray) (t v : Int) (w : World) :
    Calls Tryd.prog 32 #[.string name, .int .i64 t, .int .i64 v] w fun e w' => ∃ u, e = .returned u ∧ SrOwn w' w.heap.size u (oneS name t v) ∧ Below w.heap.size w w' := by
  go_enter Tryd.func32, Tryd.ntmps32
  go_wp2_with fail
  go_ret
  obtain ⟨h1, h2, h3⟩ := three_new w (.cells #[.string ⟨#[110]⟩, .string name] 84) (.cells #[.int .i64 t, .int .i64 v] 42) (.cells #[.slice (some ⟨w.heap.size, 0, none⟩) 1 1, .slice (some ⟨w.heap.size + 1, 0, none⟩) 1 1] 38)
  exact ⟨_, rfl, lit_own h1 h2 h3 (Nat.le_refl _) (Nat.le_succ _) (by omega), (((Below.refl _ w).alloc (Nat.le_refl _) _).alloc (by simp) _).alloc (by simp; omega) _⟩

end Go.Proofs.YtdmnlmohfaafoaeDoor

