/- The state of WalKeeps and WalPlays between calls; raingaugekeep's noted. -/
import Derived.Test.YtdmnlmohfaafoadDoorWlOpen
import Derived.Test.YtdmnlmohfaafoadDoorWlSame
import Derived.Test.YtdmnlmohfaafoadDoorDkStart
namespace Go.Proofs.YtdmnlmohfaafoadDoor
open Go.RowKit Go.Maps

section
variable {w : World} {Z : Nat → Prop} {bw bd cnt N : Nat} {D : DK.M} {p : Int} {dn : Bool}

theorem Wl.narrow (h : Wl w Z bw bd cnt D p dn) : Wl w (fun j => Z j ∧ j < w.heap.size) bw bd cnt D p dn := by
  obtain ⟨X, h1, h2, h3, h4, h5, h6⟩ := h
  exact ⟨X, h1, h2, h3, ⟨h4, heap_lt h2⟩, fun j hj => ⟨h5 j hj, h6 j hj⟩, h6⟩

/-- What is done to the disk is done to the wal's. -/
theorem WlEnd.disk {X : Nat → Prop} {cnt' : Nat} {D' : DK.M} {p' : Int} {w' : World} (hb : w.heap[bw]? = some (.cells #[.pointer (some ⟨bd, 0, none⟩), .bool dn] 75)) (hnx : ¬ X bw) (hzb : Z bw) (hxz : ∀ j, X j → Z j) (h : DkEnd w X bd cnt' D' p' w') : WlEnd w Z bw bd cnt' D' p' dn w' := by
  obtain ⟨X', a1, a2, a3⟩ := h
  refine ⟨fun j => (Z j ∨ w.heap.size ≤ j), ⟨fun j => X' j ∧ j < w'.heap.size, a1.narrow, (a2.block bw (heap_lt hb) hnx).trans hb, ?_, .inl hzb, fun j hj => ?_, fun j hj => hj.2⟩, a2.mono hxz, fun j hj => hj⟩
  · rintro ⟨hx, _⟩
    rcases a3 bw hx with h1 | h1
    · exact hnx h1
    · have := heap_lt hb; omega
  · rcases a3 j hj.1 with h1 | h1
    · exact .inl (hxz j h1)
    · exact .inr h1

theorem wcut_any (h : Wl w Z bw bd cnt D p dn) (c : Int) (hc : c ≤ 9223372036854775807) :
    Calls Tryd.prog 15 #[.pointer (some ⟨bd, 0, none⟩), .int .i64 c] w fun en w' => en = .returned (.tuple #[]) ∧ WlEnd w Z bw bd cnt D (max c (-1)) dn w' := by
  obtain ⟨X, ⟨mo, fp, fv, e, l, h1⟩, h2, h3, h4, h5, h6⟩ := h
  refine (cut_any h1 c hc).mono ?_
  rintro en w' ⟨rfl, ⟨e', l', h7⟩, hg⟩
  exact ⟨rfl, WlEnd.disk h2 h3 h4 h5 ⟨X, ⟨mo, fp, fv, e', l', h7⟩, ChEnd.fr hg h1.xd, fun j hj => .inl hj⟩⟩

theorem wstart_any (h : Wl w Z bw bd cnt D p dn) (c : Int) (hc0 : -9223372036854775808 ≤ c) (hc1 : c ≤ 9223372036854775807) (hF : DK.Fine 1000000000 D) :
    Calls Tryd.prog 18 #[.pointer (some ⟨bd, 0, none⟩), .int .i64 c] w fun en w' => en = .returned (.tuple #[]) ∧ WlEnd w Z bw bd cnt (DK.start D c) (-1) dn w' := by
  obtain ⟨X, ⟨mo, fp, fv, e, l, h1⟩, h2, h3, h4, h5, h6⟩ := h
  refine (start_any h1 c hc0 hc1 hF).mono ?_
  rintro en w' ⟨rfl, h7⟩
  exact ⟨rfl, WlEnd.disk h2 h3 h4 h5 h7⟩

theorem wopen_any {ns : List ByteArray} (h : Wl w Z bw bd cnt D (-1) dn) (hR : WL.Rdy kpt frs D ns) (hS : WL.Sm ns) (hF : DK.Fine N D) (hN : N ≤ 100000000) (hc : cnt + 4 ≤ 1000000) :
    Calls Tryd.prog 7 #[.pointer (some ⟨bd, 0, none⟩)] w fun en w' => OpEnd w Z bd (cnt + 4) ns en w' := by
  obtain ⟨X, h1, h2, h3, h4, h5, h6⟩ := h
  exact open_any h1 h5 h6 hR hS hF hN hc

/-- A new disk. -/
theorem Dk.zero (w : World) : Dk (w.alloc (.cells #[.map none, .bool false, .int .i64 0] 26)) (fun j => j = w.heap.size) w.heap.size 0 (fun _ => none) (-1) := by
  have hb0 := heap_alloc_new w (.cells #[.map none, .bool false, .int .i64 0] 26)
  refine ⟨none, fun _ => none, fun _ => .slice none 0 0, false, 0, ?_⟩
  exact { xd := rfl, dsk := hb0, pw := .inr ⟨rfl, rfl⟩, map := fun bm h => (by cases h), nomap := fun _ _ => rfl, files := { no := fun _ => ⟨fun _ => rfl, fun _ => rfl⟩, inj := fun _ _ _ h => (by cases h), body := fun _ _ _ h => (by cases h), sep := fun _ _ _ h => absurd rfl h } }

theorem kpt_named : DK.named kpt = true := by decide
theorem frs_named : DK.named frs = true := by decide

theorem rdy_zero : WL.Rdy kpt frs (fun _ => none) [] := ⟨kf_ne, kpt_named, frs_named, fun _ _ _ => rfl, .inl ⟨rfl, rfl⟩⟩

theorem WL.Set.fine {ns : List ByteArray} (h : WL.Set kpt frs D ns) (hn : (WL.joined ns).size ≤ N) : DK.Fine N D := by
  intro n f hf
  by_cases e : n = kpt
  · subst e
    rcases h.kep with ⟨h1, _⟩ | h1
    · rw [h1] at hf; cases hf
    · rw [h1] at hf
      cases hf
      exact ⟨by decide, hn, Nat.le_refl _, fun h => by cases h⟩
  · rw [h.oth n e] at hf; cases hf

theorem act_fine {a : Nat} {n s : ByteArray} (h : DK.Fine N D) : DK.Fine (N + s.size) (WL.act a n s D p).2.1 := DK.aft_fine h

theorem seq_fine {r : WL.Out} {f : DK.M → Int → WL.Out} {N N' : Nat} (h : DK.Fine N r.2.1) (hN : N ≤ N') (hf : ∀ D p, DK.Fine N D → DK.Fine N' (f D p).2.1) : DK.Fine N' (WL.seq r f).2.1 := by
  unfold WL.seq
  split
  · exact hf _ _ h
  · exact h.mono hN

theorem addO_fine {s : ByteArray} (h : DK.Fine N D) : DK.Fine (N + (WL.enc s).size) (WL.addO kpt s D p).2.1 := by
  unfold WL.addO
  refine seq_fine (act_fine h) (Nat.le_refl _) fun D p h' => ?_
  exact (act_fine (s := ByteArray.empty) h').mono (by rw [DK.empty_size]; omega)

theorem repl_fine {t : ByteArray} (h : DK.Fine N D) : DK.Fine (N + t.size + 8) (WL.repl kpt frs t D p).2.1 := by
  unfold WL.repl
  have hb : DK.Fine N (WL.bear (WL.act 3 frs ByteArray.empty D p)).2.1 := (act_fine (a := 3) (n := frs) (s := ByteArray.empty) (p := p) h).mono (by rw [DK.empty_size]; omega)
  refine seq_fine hb (by omega) fun D p h' => ?_
  refine seq_fine (act_fine h') (by omega) fun D p h'' => ?_
  refine seq_fine ((act_fine (s := ByteArray.empty) h'').mono (N' := N + t.size) (by rw [DK.empty_size]; omega)) (by omega) fun D p h3 => ?_
  exact act_fine (s := kpt) h3

/-- A row of texts that lies outside of Z. -/
def TxR (w : World) (Z : Nat → Prop) (v : Value) (T : List ByteArray) : Prop := ∃ ao cap, v = .slice ao T.length cap ∧ NRow w ao T ∧ (0 < T.length → ∀ a, ao = some a → ¬ Z a.block ∧ a.block < w.heap.size)

/-- What lies outside of Z lies there still, and outside of Z'. -/
def Keeps (Z : Nat → Prop) (w : World) (Z' : Nat → Prop) (w' : World) : Prop := XFr Z w w' ∧ ∀ j, Z' j → Z j ∨ w.heap.size ≤ j

theorem Keeps.out {Z' : Nat → Prop} {w' : World} (h : Keeps Z w Z' w') {j : Nat} (hj : j < w.heap.size) (hn : ¬ Z j) : ¬ Z' j ∧ w'.heap[j]? = w.heap[j]? := by
  refine ⟨fun hz => ?_, h.1.block j hj hn⟩
  rcases h.2 j hz with h1 | h1
  · exact hn h1
  · omega

theorem TxR.keep {Z' : Nat → Prop} {w' : World} {v : Value} {T : List ByteArray} (h : TxR w Z v T) (hk : Keeps Z w Z' w') : TxR w' Z' v T := by
  obtain ⟨ao, cap, rfl, h1, h2⟩ := h
  refine ⟨ao, cap, rfl, fun i hi => ?_, fun hp a ha => ?_⟩
  · obtain ⟨b, off, rfl, h3, h4⟩ := h1 i hi
    have h5 := (hk.out h4 (h2 (by omega) _ rfl).1).2
    refine ⟨b, off, rfl, ?_, Nat.lt_of_lt_of_le h4 hk.1.size⟩
    rw [← h3]
    simp [World.cell?, h5]
  · obtain ⟨h3, h4⟩ := h2 hp a ha
    exact ⟨(hk.out h4 h3).1, Nat.lt_of_lt_of_le h4 hk.1.size⟩

theorem TxR.below {w' : World} {v : Value} {T : List ByteArray} (h : TxR w Z v T) (hb : Below w.heap.size w w') : TxR w' Z v T := by
  obtain ⟨ao, cap, rfl, h1, h2⟩ := h
  exact ⟨ao, cap, rfl, h1.below hb, fun hp a ha => ⟨(h2 hp a ha).1, Nat.lt_of_lt_of_le (h2 hp a ha).2 hb.size⟩⟩

/-- A wal, all of it from w0 on. -/
structure WS (w0 : World) (bd cnt bw : Nat) (D : DK.M) (p : Int) (dn : Bool) (w : World) (Z : Nat → Prop) : Prop where
  wl : Wl w Z bw bd cnt D p dn
  hi : ∀ j, Z j → w0.heap.size ≤ j ∧ j < w.heap.size
  bel : Below w0.heap.size w0 w

theorem WS.on {w0 w' : World} {cnt' : Nat} {D' : DK.M} {p' : Int} {dn' : Bool} {bw' : Nat} {Z' : Nat → Prop} (h : WS w0 bd cnt bw D p dn w Z) (h1 : Wl w' Z' bw' bd cnt' D' p' dn') (h2 : XFr Z w w') (h3 : ∀ j, Z' j → Z j ∨ w.heap.size ≤ j) :
    WS w0 bd cnt' bw' D' p' dn' w' (fun j => Z' j ∧ j < w'.heap.size) ∧ Keeps Z w (fun j => Z' j ∧ j < w'.heap.size) w' := by
  refine ⟨⟨h1.narrow, fun j hj => ⟨?_, hj.2⟩, h.bel.trans (h2.toBelow (fun j hj => (h.hi j hj).1) h.bel.size)⟩, h2, fun j hj => h3 j hj.1⟩
  rcases h3 j hj.1 with h4 | h4
  · exact (h.hi j h4).1
  · have := h.bel.size; omega

theorem WS.end {w0 w' : World} {cnt' : Nat} {D' : DK.M} {p' : Int} {dn' : Bool} (h : WS w0 bd cnt bw D p dn w Z) (h1 : WlEnd w Z bw bd cnt' D' p' dn' w') : ∃ Z', WS w0 bd cnt' bw D' p' dn' w' Z' ∧ Keeps Z w Z' w' := by
  obtain ⟨Z', h2, h3, h4⟩ := h1
  exact ⟨_, h.on h2 h3 h4⟩

theorem WS.below {w0 w' : World} (h : WS w0 bd cnt bw D p dn w Z) (hb : Below w.heap.size w w') : WS w0 bd cnt bw D p dn w' Z :=
  ⟨h.wl.below hb, fun j hj => ⟨(h.hi j hj).1, Nat.lt_of_lt_of_le (h.hi j hj).2 hb.size⟩, h.bel.trans (hb.mono h.bel.size)⟩

/-- What Open tells lies outside. -/
theorem own_txr {v : Value} {T : List ByteArray} {base : Nat} (h : OwnT w base v T) (hn : ∀ g, v.ownBlock = some g → ¬ Z g) : TxR w Z v T := by
  obtain ⟨ao, cap, rfl, h1, h2⟩ := h.row
  refine ⟨ao, cap, rfl, h1, fun _ a ha => ⟨hn _ (by rw [ha]; rfl), ?_⟩⟩
  rcases h.2 with ⟨h3, _⟩ | ⟨g, cap', cur, h3, _, h4, _⟩
  · have h5 := (Value.slice.inj h3).1
    rw [h5] at ha; cases ha
  · have h5 := (Value.slice.inj h3).1
    rw [h5] at ha; cases ha
    exact heap_lt h4

theorem PutEnd.good {o : WL.Out} {en : Ending} {w' : World} (h : PutEnd w Z bw bd cnt D p false false o en w') : en = .returned (er o.1) ∧ WlEnd w Z bw bd cnt o.2.1 o.2.2 (decide (o.1 ≠ 0)) w' := by
  rcases h with ⟨h1, _⟩ | ⟨_, h1, _⟩ | ⟨_, _, h1, h2⟩
  · cases h1
  · cases h1
  · exact ⟨h1, h2⟩

theorem PutEnd.ok {D' : DK.M} {p' : Int} {en : Ending} {w' : World} (h : PutEnd w Z bw bd cnt D p false false (0, D', p') en w') : en = .returned .nilIface ∧ WlEnd w Z bw bd cnt D' p' false w' := by
  obtain ⟨h1, h2⟩ := h.good
  exact ⟨h1.trans (by rw [show er ((0, D', p') : WL.Out).1 = .nilIface from er_zero]), h2⟩

theorem PutEnd.off {D' : DK.M} {p' : Int} {en : Ending} {w' : World} (h : PutEnd w Z bw bd cnt D p false false (14, D', p') en w') : en = .returned (.iface 34 (.int .i64 14)) ∧ WlEnd w Z bw bd cnt D' p' true w' := by
  obtain ⟨h1, h2⟩ := h.good
  exact ⟨h1.trans (by rw [show er ((14, D', p') : WL.Out).1 = .iface 34 (.int .i64 14) from er_non (by omega)]), h2⟩

theorem PutEnd.down {o : WL.Out} {en : Ending} {w' : World} (h : PutEnd w Z bw bd cnt D p true false o en w') : en = .returned (.iface 34 (.int .i64 6)) ∧ WlEnd w Z bw bd cnt D p true w' := by
  rcases h with ⟨h1, _⟩ | ⟨_, _, h1, h2⟩ | ⟨_, h1, _⟩
  · cases h1
  · exact ⟨h1.trans (by rw [er_non (by omega)]), h2⟩
  · cases h1

theorem PutEnd.big {o : WL.Out} {en : Ending} {w' : World} (h : PutEnd w Z bw bd cnt D p dn true o en w') : en = .returned (.iface 34 (.int .i64 1)) ∧ WlEnd w Z bw bd cnt D p dn w' := by
  rcases h with ⟨_, h1, h2⟩ | ⟨h1, _⟩ | ⟨h1, _⟩
  · exact ⟨h1.trans (by rw [er_non (by omega)]), h2⟩
  · cases h1
  · cases h1

end

end Go.Proofs.YtdmnlmohfaafoadDoor
