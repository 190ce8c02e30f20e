/- The laws' asks: a text, asked of series at a time, from what Eval tells. -/
import Derived.Test.YtdmnlmohfaafoaeGreatDoorPEEvSrc
import Derived.Test.YtdmnlmohfaafoaeGreatDoorPEEvPts
import Derived.Test.YtdmnlmohfaafoaeGreatDoorPEAqReadE
namespace Go.Proofs.YtdmnlmohfaafoaeGreatDoor
open Go.RowKit Go.Shelf

set_option maxRecDepth 100000 in
theorem source_any (ao : Option Addr) (n cap : Nat) (w : World) :
    Calls Tryz.prog 45 #[.slice ao n cap] w fun e w' => e = .returned (.func (.func 79) #[] #[.pointer (some ⟨w.heap.size, 0, none⟩)]) ∧ w' = w.alloc (.cells #[.slice ao n cap] 22) := by
  go_enter Tryz.func45, Tryz.ntmps45
  go_wp2_with fail
  go_ret
  exact ⟨rfl, rfl⟩

/-- How Eval ends: points, alone or not; or an error, and no points. -/
structure EvEnd (w w' : World) (e : Ending) (R : Option (Bool × List EV.Pt)) : Prop where
  ok : ∀ al pts, R = some (al, pts) → ∃ po pc, e = .returned (.tuple #[.slice po pts.length pc, .bool al, .nilIface]) ∧ PRow w' po pts ∧ PFew pts
  bad : R = none → ∃ po pc t u, e = .returned (.tuple #[.slice po 0 pc, .bool false, .iface t u])
  low : Below w.heap.size w w'

/-- Series that may be asked. -/
structure Askd (S : List Sr) : Prop where
  few : S.length ≤ 1000
  each : ∀ i, i < S.length → (atSr S i).1.length ≤ 1000 ∧ (atSr S i).2.length ≤ 2000
  lab : ∀ i, i < S.length → 0 < (atSr S i).1.length
  ord : S.Pairwise fun a b => LB.cmp a.1 b.1 = -1

/-- What Eval tells, of a source as the laws make it. -/
def EvalIs : Prop := ∀ (W : World) (vq : Value) (q : AQ.Q) (t : Int) (bx : Nat) (ao : Option Addr) (S : List Sr) (cap : Nat), AskT W vq q → AQ.OkW 9 q → AQ.parts q ≤ 120 → -1099511627776 ≤ t ∧ t ≤ 1099511627776 → W.cell? ⟨bx, 0, none⟩ = some (.slice ao S.length cap) → SrOut W NoZ ao S → Askd S →
  Calls Tryz.prog 44 #[vq, .int .i64 t, .func (.func 79) #[] #[.pointer (some ⟨bx, 0, none⟩)]] W fun e w' => EvEnd W w' e (EV.ev q t S)

/-- How asks ends. -/
structure AEnd (w w' : World) (e : Ending) (P : AQ.Res AQ.Q) (t : Int) (S : List Sr) : Prop where
  ok : ∀ q r al pts, P = .ok q r → EV.ev q t S = some (al, pts) → ∃ po pc, e = .returned (.tuple #[.slice po pts.length pc, .bool true]) ∧ PRow w' po pts ∧ PFew pts
  bad : ∀ q r, P = .ok q r → EV.ev q t S = none → ∃ po pc, e = .returned (.tuple #[.slice po 0 pc, .bool false])
  no : ∀ c p, P = .bad c p → e = .returned (.tuple #[.slice none 0 0, .bool false])
  low : Below w.heap.size w w'

theorem SrOut.below0 {w w' : World} {ao : Option Addr} {S : List Sr} (h : SrOut w NoZ ao S) (k : Below w.heap.size w w') : SrOut w' NoZ ao S := fun i hi => by
  obtain ⟨b, off, e, hb, hz, lo, lc, so, sc, c0, c1, hL, hS⟩ := h i hi
  exact ⟨b, off, e, Nat.lt_of_lt_of_le hb k.size, hz, lo, lc, so, sc, (k.cell (p := ⟨b, _, none⟩) hb).trans c0, (k.cell (p := ⟨b, _, none⟩) hb).trans c1, ⟨hL.1.below k, hL.2⟩, ⟨hS.1.below k, hS.2⟩⟩

set_option maxRecDepth 100000 in
set_option maxHeartbeats 3200000 in
theorem asks_any (hE : EvalIs) (ao : Option Addr) (S : List Sr) (cap : Nat) (s : ByteArray) (t : Int) (w : World) (hG : Gl w) (hS : SrOut w NoZ ao S) (hA : Askd S) (hs : s.size ≤ 100000) (ht : -1099511627776 ≤ t ∧ t ≤ 1099511627776) :
    Calls Tryz.prog 18 #[.slice ao S.length cap, .string s, .int .i64 t] w fun e w' => AEnd w w' e (AQ.parse s.data.toList) t S := by
  have HE := hid hE
  have HS := hid hS
  have HA := hid hA
  have HT := hid ht
  have HP := hid (parse_any s w hG (by omega))
  have HW : Hid (∀ q r, AQ.parse s.data.toList = .ok q r → AQ.OkW 9 q ∧ AQ.parts q ≤ 120) := fun q r h => by
    obtain ⟨h1, h2, _⟩ := AQ.parse_back h (by rw [show s.data.toList.length = s.size by simp]; omega)
    exact ⟨h1, Nat.le_trans (AQ.parts_le h1) h2⟩
  generalize AQ.parse s.data.toList = R at *
  clear hE hS hA hG ht
  go_enter Tryz.func18, Tryz.ntmps18
  go_wp2_with fail
  refine HP.out.mono ?_
  intro e w1 hR
  rcases hq : R with ⟨q, r⟩ | ⟨c, p⟩
  · obtain ⟨v, rfl, hv⟩ := hR.ok q r hq
    obtain ⟨va, ev⟩ := hv.ptr
    subst ev
    have HK := hid (And.intro hv hR.low)
    have HQ := hid hq
    clear hR hq hv HP
    go_wp2_with fail
    refine (source_any ao S.length cap w1).mono ?_
    rintro e w2 ⟨rfl, h2⟩
    have hb2 : Below w1.heap.size w1 w2 := by rw [h2]; exact (Below.refl _ w1).alloc (Nat.le_refl _) _
    have c2 : w2.cell? ⟨w1.heap.size, 0, none⟩ = some (.slice ao S.length cap) := by rw [h2]; exact zcell' _ _ _ _ (heap_alloc_new w1 _) 0 _ rfl
    have HB2 := hid (And.intro hb2 c2)
    clear h2 hb2 c2
    go_wp2_with fail
    have hb12 := HK.out.2.trans (HB2.out.1.mono HK.out.2.size)
    refine (HE.out w2 (.pointer va) q t w1.heap.size ao S cap (HK.out.1.below HB2.out.1) (HW.out q r HQ.out).1 (HW.out q r HQ.out).2 HT.out HB2.out.2 (HS.out.below0 hb12) HA.out).mono ?_
    intro e w3 hV
    have HL := hid (hb12.trans (hV.low.mono hb12.size))
    rcases hx : EV.ev q t S with _ | ⟨al, pts⟩
    · obtain ⟨po, pc, tt, u, rfl⟩ := hV.bad hx
      have HX := hid hx
      clear hV hx hb12
      go_wp2_with fail
      go_region
      go_wp2_with fail
      go_ret2
      exact ⟨fun q' r' al pts e1 e2 => (by rw [HQ.out] at e1; cases e1; rw [HX.out] at e2; cases e2), fun _ _ _ _ => ⟨_, _, rfl⟩, fun _ _ e1 => (by rw [HQ.out] at e1; cases e1), HL.out.drew⟩
    · obtain ⟨po, pc, rfl, hpr, hpf⟩ := hV.ok al pts hx
      have HX := hid hx
      have HPR := hid (And.intro hpr hpf)
      clear hV hx hb12 hpr hpf
      go_wp2_with fail
      go_region
      go_wp2_with fail
      go_ret2
      exact ⟨fun q' r' al' pts' e1 e2 => (by rw [HQ.out] at e1; cases e1; rw [HX.out] at e2; cases e2; exact ⟨_, _, rfl, HPR.out.1.below (Below.refl _ _).drew, HPR.out.2⟩), fun q' r' e1 e2 => (by rw [HQ.out] at e1; cases e1; rw [HX.out] at e2; cases e2), fun _ _ e1 => (by rw [HQ.out] at e1; cases e1), HL.out.drew⟩
  · obtain ⟨B, rfl, hB⟩ := hR.bad c p hq
    have HK := hid hR.low
    have HQ := hid hq
    clear hR hq hB HP
    go_wp2_with fail
    go_ret2
    exact ⟨fun _ _ _ _ e1 => (by rw [HQ.out] at e1; cases e1), fun _ _ e1 => (by rw [HQ.out] at e1; cases e1), fun _ _ _ => rfl, HK.out⟩

theorem at_laterS (d : Int) (S : List Sr) (i : Nat) : atSr (EV.later d S) i = ((atSr S i).1, (atSr S i).2.map fun s => (s.1 + d, s.2)) := by
  unfold atSr EV.later
  rw [List.getD, List.getD, List.getElem?_map]
  cases S[i]? <;> rfl

/-- Series that are so much later may be asked as they might. -/
theorem Askd.later {S : List Sr} (h : Askd S) (d : Int) : Askd (EV.later d S) := by
  have hl : (EV.later d S).length = S.length := List.length_map _
  refine ⟨by rw [hl]; exact h.few, fun i hi => ?_, fun i hi => ?_, ?_⟩
  · rw [hl] at hi
    rw [at_laterS, List.length_map]
    exact h.each i hi
  · rw [hl] at hi
    rw [at_laterS]
    exact h.lab i hi
  · unfold EV.later
    rw [List.pairwise_map]
    exact h.ord

theorem later_take (d : Int) (S : List Sr) (i : Nat) (h : i < S.length) : EV.later d (S.take (i + 1)) = EV.later d (S.take i) ++ [((atSr S i).1, (atSr S i).2.map fun s => (s.1 + d, s.2))] := by
  have e : atSr S i = S[i] := by simp [atSr, h]
  unfold EV.later
  rw [List.take_succ_eq_append_getElem h, List.map_append, e]
  rfl

end Go.Proofs.YtdmnlmohfaafoaeGreatDoor

