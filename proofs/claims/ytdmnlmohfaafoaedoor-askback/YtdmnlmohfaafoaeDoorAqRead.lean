/- The program's Parse and Match: what is thrown on the way is the error (made by mkaqr.py). -/
import Derived.Test.YtdmnlmohfaafoaeDoorAqOne
import Derived.Test.YtdmnlmohfaafoaeDoorAqCut
import Derived.Recover
namespace Go.Proofs.YtdmnlmohfaafoaeDoor
open Go.RowKit Go.Shelf

/-- How reading a text ends: what it is, or what is wrong with it, and where. -/
structure REnd {α : Type} (V : World → Value → α → Prop) (z : Value) (w w' : World) (e : Ending) (R : AQ.Res α) : Prop where
  ok : ∀ a r, R = .ok a r → ∃ v, e = .returned (.tuple #[v, .nilIface]) ∧ V w' v a
  bad : ∀ c p, R = .bad c p → ∃ B, e = .returned (.tuple #[z, .iface 78 (.pointer (some ⟨B, 0, none⟩))]) ∧ w'.heap[B]? = some (.cells #[.int .i64 c, .int .i64 p] 80)
  low : Below w.heap.size w w'

theorem REnd.mkOk {α : Type} {V : World → Value → α → Prop} {z : Value} {w w' : World} {R : AQ.Res α} {a : α} {r : List AQ.Tok} {v : Value} (hR : R = .ok a r) (hv : V w' v a) (hb : Below w.heap.size w w') : REnd V z w w' (.returned (.tuple #[v, .nilIface])) R :=
  ⟨fun a' r' e => (by rw [hR] at e; cases e; exact ⟨v, rfl, hv⟩), fun c p e => (by rw [hR] at e; cases e), hb⟩
theorem REnd.mkBad {α : Type} {V : World → Value → α → Prop} {z : Value} {w w' : World} {R : AQ.Res α} {c p : Int} {B : Nat} (hR : R = .bad c p) (hB : w'.heap[B]? = some (.cells #[.int .i64 c, .int .i64 p] 80)) (hb : Below w.heap.size w w') : REnd V z w w' (.returned (.tuple #[z, .iface 78 (.pointer (some ⟨B, 0, none⟩))])) R :=
  ⟨fun a' r' e => (by rw [hR] at e; cases e), fun c' p' e => (by rw [hR] at e; cases e; exact ⟨B, rfl, hB⟩), hb⟩

theorem tcells_at (l : List AQ.Tok) (i : Nat) (hi : i < l.length) : (tcells l)[i * 3]? = some (.int .i64 (AQ.atT l i).kind) ∧ (tcells l)[i * 3 + 1]? = some (.string (AQ.atT l i).said) ∧ (tcells l)[i * 3 + 2]? = some (.int .i64 (AQ.atT l i).place) := by
  induction l generalizing i with
  | nil => simp at hi
  | cons t l ih =>
    cases i with
    | zero => exact ⟨rfl, rfl, rfl⟩
    | succ i =>
      obtain ⟨a, b, c⟩ := ih i (by simpa using hi)
      have e : AQ.atT (t :: l) (i + 1) = AQ.atT l i := rfl
      have e3 : ∀ k, (tcells (t :: l))[k + 3]? = (tcells l)[k]? := fun k => by simp [tcells]
      rw [e, show (i + 1) * 3 = i * 3 + 3 by omega, e3, show i * 3 + 3 + 1 = (i * 3 + 1) + 3 by omega, e3, show i * 3 + 3 + 2 = (i * 3 + 2) + 3 by omega, e3]
      exact ⟨a, b, c⟩

/-- A row of tokens as a parser has it. -/
theorem row_toks {w : World} {base : Nat} {v : Value} {l : List AQ.Tok} (h : w.ownsRow base 166 3 v l.length (tcells l)) (hl : 0 < l.length) : ∃ bt cap, v = .slice (some ⟨bt, 0, none⟩) l.length cap ∧ TRow w bt 0 l ∧ base ≤ bt ∧ bt < w.heap.size ∧ l.length ≤ cap := by
  rcases h.2 with ⟨_, h0⟩ | ⟨g, cap, cur, h0, h1, h2, h3, h4⟩
  · omega
  · subst h0
    refine ⟨g, cap, rfl, fun i hi => ?_, h1, heap_lt h2, h3⟩
    obtain ⟨a, b, c⟩ := tcells_at l i hi
    rw [Nat.zero_add]
    exact ⟨(h.cellAt (i * 3) (by omega)).trans a, (h.cellAt (i * 3 + 1) (by omega)).trans b, (h.cellAt (i * 3 + 2) (by omega)).trans c⟩


theorem ta_at (B : Nat) (w : World) : (Instr.typeAssert (.iface 78 (.pointer (some ⟨B, 0, none⟩))) 20 78 true).run Tryd.prog w = .ok (.tuple #[.pointer (some ⟨B, 0, none⟩), .bool true]) w := by kernel_rfl

set_option maxRecDepth 100000 in
theorem catch_panA (p : Addr) (B : Nat) (x : Value) (w : World) (hc : w.cell? p = some x) (hz : w.frozen? p = false) :
    CallsD Tryd.prog 102 #[.pointer (some p)] (.panicking [{ v := .iface 78 (.pointer (some ⟨B, 0, none⟩)), recovered := false }]) w fun e u' w' =>
      e = .returned (.tuple #[]) ∧ u' = .panicking [{ v := .iface 78 (.pointer (some ⟨B, 0, none⟩)), recovered := true }] ∧ w' = w.setCell p (.iface 78 (.pointer (some ⟨B, 0, none⟩))) := by
  refine callsD_of_wpS Tryd.func102 rfl fun c₀ cs hu => ?_
  apply wpS_seq
  apply wpS_region
  simp [wpOpsS, go_sem, recoverD, hu, Tryd.ntmps102, Exit.thenS]
  refine wpS_of_wp (Code.wp_mono (Q := fun e a' w' => (e = .normal ∨ e = .ret) ∧ a'.defers = [] ∧ w' = w.setCell p (.iface 78 (.pointer (some ⟨B, 0, none⟩)))) ?_ ?_)
  · rintro e a' w' ⟨he, hd, rfl⟩
    rcases he with rfl | rfl
    · exact ⟨hd, _, rfl, _, results_none rfl _ _ _, rfl, rfl, rfl⟩
    · exact ⟨hd, _, rfl, _, results_none rfl _ _ _, rfl, rfl, rfl⟩
  · have hta := ta_at B
    show Code.wp _ _ _ { tmps := #[.pointer (some p), .iface 78 (.pointer (some ⟨B, 0, none⟩)), undef, undef, .iface 78 (.pointer (some ⟨B, 0, none⟩)), undef, undef, undef, undef, undef, undef, undef, undef, undef, undef, undef, undef], defers := [] } w
    go_wp2_with fail

set_option maxRecDepth 100000 in
theorem catch_idleA (p : Addr) (w : World) :
    CallsD Tryd.prog 102 #[.pointer (some p)] .returning w fun e u' w' => e = .returned (.tuple #[]) ∧ u' = .returning ∧ w' = w := by
  refine callsD_of_wpS Tryd.func102 rfl fun c₀ cs hu => ?_
  apply wpS_seq
  apply wpS_region
  simp [wpOpsS, go_sem, recoverD, hu, Tryd.ntmps102, Exit.thenS]
  refine wpS_of_wp (Code.wp_mono (Q := fun e a' w' => (e = .normal ∨ e = .ret) ∧ a'.defers = [] ∧ w' = w) ?_ ?_)
  · rintro e a' w' ⟨he, hd, rfl⟩
    have hc : ({ c₀ with mode := .returning } : Frame) = c₀ := by cases c₀; simp_all
    rcases he with rfl | rfl
    · exact ⟨hd, .returning, by rw [hc], _, results_none rfl _ _ _, rfl, rfl, rfl⟩
    · exact ⟨hd, .returning, by rw [hc], _, results_none rfl _ _ _, rfl, rfl, rfl⟩
  · show Code.wp _ _ _ { tmps := #[.pointer (some p), .nilIface, undef, undef, .nilIface, undef, undef, undef, undef, undef, undef, undef, undef, undef, undef, undef, undef], defers := [] } w
    go_wp2_with fail

theorem results_errA (tmps : Array Value) (w : World) (g : Nat) (x : Value) (hp : tmps.getD 5 undef = .pointer (some ⟨g, 0, none⟩)) (hg : w.heap[g]? = some (.cells #[x] 30)) : (results Tryd.f64 tmps).run Tryd.prog w = .ok (.tuple #[tmps.getD 4 undef, x]) w := by
  have hr : Tryd.f64.results = #[.tmp 4, .cell 5 30] := rfl
  have hp' : tmps[5]?.getD undef = .pointer (some ⟨g, 0, none⟩) := by simpa using hp
  have hc : w.cell? ⟨g, 0, none⟩ = some x := kcell _ _ _ _ hg 0 _ rfl
  have hl : (loadVar 30 ⟨g, 0, none⟩).run Tryd.prog w = .ok x w := by
    simp [go_sem, loadVar, hc]
  simp [results, hp', asAddr, hl]

set_option maxRecDepth 100000 in
set_option maxHeartbeats 1600000 in
theorem readA_any (s : ByteArray) (w : World) (h : Gl w) (hs : s.size ≤ 1000000000) (g : Nat) (F : List AQ.Tok → AQ.Res AQ.Q)
    (eg : ∀ args w, (callFunc g args).run Tryd.prog w = .ok (.enter g args) w)
    (hcall : ∀ (bp bt : Nat) W l, Pr W bp bt l → AQ.FitL l → Calls Tryd.prog g #[.pointer (some ⟨bp, 0, none⟩)] W fun e w' => PEnd VQ W w' bp bt e (F l)) :
    Calls Tryd.prog 64 #[.string s, .func (.func g) #[] #[]] w fun e w' => REnd VQ (.pointer none) w w' e (AQ.read F s.data.toList) := by
  have hmf : ∀ (fn : Fn) (first cap : Array Value) (w : World), (Instr.makeFunc fn first cap).run Tryd.prog w = .ok (.func fn first cap) w := fun _ _ _ _ => rfl
  have hal0 : Below w.heap.size w (w.alloc (.cells #[.nilIface] 30)) := (Below.refl _ w).alloc (Nat.le_refl _) _
  have HB0 := hid hal0
  have HX0 := hid (heap_alloc_new w (.cells #[.nilIface] 30))
  have HG0 := hid (h.below hal0)
  have HGs := hid h.size
  have HC := hid hcall
  have hlen : s.data.toList.length ≤ 1000000000 := by rw [show s.data.toList.length = s.size by simp]; exact hs
  have HLen := hid hlen
  clear h hcall hal0 hlen
  go_enter_defers Tryd.func64, Tryd.ntmps64
  go_wp2_with fail
  generalize w.alloc (.cells #[.nilIface] 30) = w0 at *
  have hpan : ∀ (W : World) (B : Nat) (c p : Int), W.heap[w.heap.size]? = some (.cells #[.nilIface] 30) → Below w.heap.size w W → W.heap[B]? = some (.cells #[.int .i64 c, .int .i64 p] 80) → AQ.read F s.data.toList = .bad c p → ∀ (tmps : Array Value), tmps.getD 5 undef = .pointer (some ⟨w.heap.size, 0, none⟩) → tmps.getD 4 undef = (.pointer none) → Leaves Tryd.prog Tryd.f64 tmps (fun e w' => REnd VQ (.pointer none) w w' e (AQ.read F s.data.toList)) [{ target := .fn (.func 102) #[.pointer (some ⟨w.heap.size, 0, none⟩)], args := #[] }] (.panicking [{ v := .iface 78 (.pointer (some ⟨B, 0, none⟩)), recovered := false }]) W := by
    intro W B c p hX hb hB hR tmps h5 h4
    refine leaves_cons (f := 102) (args := #[.pointer (some ⟨w.heap.size, 0, none⟩)]) (by simp) (by simp [go_sem]) ?_
    refine (catch_panA ⟨w.heap.size, 0, none⟩ B .nilIface W (kcell _ _ _ _ hX 0 _ rfl) (kfz hX 0)).mono ?_
    rintro e u' w'' ⟨rfl, rfl, rfl⟩
    have hne : B ≠ w.heap.size := fun e => by
      subst e
      rw [hX] at hB
      simp only [Option.some.injEq, Obj.cells.injEq] at hB
      exact absurd hB.2.1 (by decide)
    refine ⟨_, results_errA tmps _ w.heap.size _ h5 (heap_setCell_same W w.heap.size 0 _ _ _ hX), ?_⟩
    rw [h4]
    exact REnd.mkBad hR ((Below.heap_setCell W ⟨w.heap.size, 0, none⟩ _ B hne).trans hB) (hb.setCell (p := ⟨w.heap.size, 0, none⟩) (Nat.le_refl _) _)
  have HPan := hid hpan
  clear hpan
  refine (cut_any s w0 HG0.out hs).mono ?_
  intro e w1 hE
  rcases hR : AQ.cut s.data.toList with l | ⟨c, p⟩
  rotate_left
  · have HR := hid (show AQ.read F s.data.toList = .bad c p by unfold AQ.read; rw [hR])
    obtain ⟨B, rfl, hB, hb⟩ := hE.bad c p hR
    have hb1 := HB0.out.trans (show Below w.heap.size w0 w1 from ⟨hb.os, hb.tape, hb.output, hb.size, fun k hk => hb.block k (Nat.lt_of_lt_of_le hk HB0.out.size)⟩)
    have HB1 := hid hB
    have HBl := hid hb1
    have HX1 := hid ((hb.block _ (heap_lt HX0.out)).trans HX0.out)
    clear hR hE hB hb hb1
    go_wp2_with fail
    exact HPan.out w1 B c p HX1.out HBl.out HB1.out HR.out _ rfl rfl
  obtain ⟨v, rfl, hrow, hb⟩ := hE.ok l hR
  obtain ⟨hends, _, hfit⟩ := AQ.cut_inv hR HLen.out
  have hb1 := HB0.out.trans (show Below w.heap.size w0 w1 from ⟨hb.os, hb.tape, hb.output, hb.size, fun k hk => hb.block k (Nat.lt_of_lt_of_le hk HB0.out.size)⟩)
  have HX1 := hid ((hb.block _ (heap_lt HX0.out)).trans HX0.out)
  have HRd := hid (show AQ.read F s.data.toList = AQ.whole F l by unfold AQ.read; rw [hR])
  obtain ⟨bt, cap, ev, hT, hge, hlt, hroom⟩ := row_toks hrow hends.pos
  subst ev
  have hal : Below w1.heap.size w1 (w1.alloc (.cells #[.slice (some ⟨bt, 0, none⟩) l.length cap] 163)) := (Below.refl _ w1).alloc (Nat.le_refl _) _
  have HP2 : Hid (Pr (w1.alloc (.cells #[.slice (some ⟨bt, 0, none⟩) l.length cap] 163)) w1.heap.size bt l) :=
    ⟨0, cap, heap_alloc_new w1 _, fun i hi => by
      obtain ⟨a, b, c⟩ := hT i hi
      exact ⟨(hal.cell (p := ⟨bt, _, none⟩) hlt).trans a, (hal.cell (p := ⟨bt, _, none⟩) hlt).trans b, (hal.cell (p := ⟨bt, _, none⟩) hlt).trans c⟩, by omega, Nat.lt_of_lt_of_le hlt hal.size, hroom, hends, (HG0.out.below hb).below hal, by have := (HG0.out.below hb).size; omega⟩
  have HB2 := hid (hb1.alloc hb1.size (.cells #[.slice (some ⟨bt, 0, none⟩) l.length cap] 163))
  have HX2 := hid ((hal.block _ (heap_lt HX1.out)).trans HX1.out)
  have HFit := hid hfit
  have HNe : Hid (w.heap.size ≠ w1.heap.size) := by have := heap_lt HX1.out; show _ ≠ _; omega
  have HLow : Hid (w.heap.size ≤ w1.heap.size) := hb1.size
  clear hR hE hrow hb hends hfit hb1 hT hge hlt hroom hal HX1 HX0 HB0 HG0
  go_upto_region 3 with fail
  generalize w1.alloc (.cells #[.slice (some ⟨bt, 0, none⟩) l.length cap] 163) = w2 at *
  generalize w1.heap.size = bp at *
  go_wp2_with fail
  refine (HC.out bp bt w2 l HP2.out HFit.out).mono ?_
  intro e w3 hE
  rcases hR : F l with ⟨a, r⟩ | ⟨c, p⟩
  rotate_left
  · have HR := hid (show AQ.read F s.data.toList = .bad c p by rw [HRd.out]; unfold AQ.whole; rw [hR]; rfl)
    obtain ⟨B, rfl, hB, ho⟩ := hE.bad c p hR
    have HB3 := hid hB
    have HBl := hid (show Below w.heap.size w w3 from ⟨ho.1.trans HB2.out.os, ho.2.1.trans HB2.out.tape, ho.2.2.1.trans HB2.out.output, Nat.le_trans HB2.out.size ho.size, fun k hk => (ho.2.2.2.2 k (Nat.lt_of_lt_of_le hk HB2.out.size) (by have := HLow.out; omega)).trans (HB2.out.block k hk)⟩)
    have HX3 := hid (ho.block HX2.out HNe.out)
    clear hR hE hB ho
    go_wp2_with fail
    exact HPan.out w3 B c p HX3.out HBl.out HB3.out HR.out _ rfl rfl
  obtain ⟨v, rfl, hv, hp3, ho⟩ := hE.ok a r hR
  have HW := hid (show AQ.read F s.data.toList = if (AQ.hd r).kind = 4 then .ok a r else .bad 3 (AQ.hd r).place by rw [HRd.out]; unfold AQ.whole; rw [hR]; rfl)
  obtain ⟨va, ev⟩ := hv.ptr
  subst ev
  have HV3 := hid hv
  have HP3 := hid hp3
  have HB3 := hid (show Below w.heap.size w w3 from ⟨ho.1.trans HB2.out.os, ho.2.1.trans HB2.out.tape, ho.2.2.1.trans HB2.out.output, Nat.le_trans HB2.out.size ho.size, fun k hk => (ho.2.2.2.2 k (Nat.lt_of_lt_of_le hk HB2.out.size) (by have := HLow.out; omega)).trans (HB2.out.block k hk)⟩)
  have HX3 := hid (ho.block HX2.out HNe.out)
  clear hR hE hv hp3 ho HP2 HB2 HX2 HRd
  go_wp2_with fail
  refine (here_any bp r w3 HP3.out).mono ?_
  rintro e w4 ⟨rfl, hb4⟩
  have hal : Below w4.heap.size w4 (w4.alloc (.cells #[.int .i64 (AQ.hd r).kind, .string (AQ.hd r).said, .int .i64 (AQ.hd r).place] 166)) := (Below.refl _ w4).alloc (Nat.le_refl _) _
  have hb5 := hb4.trans (show Below w3.heap.size w4 _ from ⟨hal.os, hal.tape, hal.output, hal.size, fun k hk => hal.block k (Nat.lt_of_lt_of_le hk hb4.size)⟩)
  have HV5 := hid (show VQ _ (.pointer va) a from HV3.out.below hb5)
  have HB5 := hid (HB3.out.trans (show Below w.heap.size w3 _ from ⟨hb5.os, hb5.tape, hb5.output, hb5.size, fun k hk => hb5.block k (Nat.lt_of_lt_of_le hk HB3.out.size)⟩))
  have HX5 := hid ((hb5.block _ (heap_lt HX3.out)).trans HX3.out)
  have HT5 := hid (heap_alloc_new w4 (.cells #[.int .i64 (AQ.hd r).kind, .string (AQ.hd r).said, .int .i64 (AQ.hd r).place] 166))
  clear hb4 hal hb5 HP3 HB3 HX3 HV3
  go_upto_region 5 with fail
  generalize w4.alloc (.cells #[.int .i64 (AQ.hd r).kind, .string (AQ.hd r).said, .int .i64 (AQ.hd r).place] 166) = w5 at *
  generalize w4.heap.size = b4 at *
  have t0 := kcell _ _ _ _ HT5.out 0 _ rfl
  have t2 := kcell _ _ _ _ HT5.out 2 _ rfl
  by_cases hk : (AQ.hd r).kind = 4
  · have hkb : ((AQ.hd r).kind != 4) = false := by rw [hk]; rfl
    have HR := hid (show AQ.read F s.data.toList = .ok a r by rw [HW.out, if_pos hk])
    have x0 := kcell _ _ _ _ HX5.out 0 _ rfl
    have f0 := kfz HX5.out 0
    have hset : ∀ g, (w5.setCell ⟨w.heap.size, 0, none⟩ .nilIface).heap[g]? = w5.heap[g]? := fun g => by
      by_cases e : g = w.heap.size
      · subst e; exact (heap_setCell_same w5 w.heap.size 0 _ _ .nilIface HX5.out).trans HX5.out.symm
      · exact Below.heap_setCell w5 ⟨w.heap.size, 0, none⟩ _ g e
    have HSet := hid hset
    clear hk hset
    go_wp2_with fail
    refine leaves_cons (f := 102) (args := #[.pointer (some ⟨w.heap.size, 0, none⟩)]) (by simp) (by simp [go_sem]) ?_
    refine (catch_idleA ⟨w.heap.size, 0, none⟩ _).mono ?_
    rintro e u' w'' ⟨rfl, rfl, rfl⟩
    refine ⟨_, results_errA _ _ w.heap.size _ rfl (heap_setCell_same w5 w.heap.size 0 _ _ _ HX5.out), ?_⟩
    exact REnd.mkOk HR.out (AskT.kept (fun g _ _ _ _ => HSet.out g) _ _ HV5.out) (HB5.out.setCell (p := ⟨w.heap.size, 0, none⟩) (Nat.le_refl _) _)
  · have hkb : ((AQ.hd r).kind != 4) = true := by simpa using hk
    have HR := hid (show AQ.read F s.data.toList = .bad 3 (AQ.hd r).place by rw [HW.out, if_neg hk])
    clear hk
    go_wp2_with fail
    refine (wrong_any 3 (AQ.hd r).place w5).mono ?_
    rintro e w6 ⟨rfl, rfl⟩
    have HB6 := hid (HB5.out.alloc HB5.out.size (.cells #[.int .i64 3, .int .i64 (AQ.hd r).place] 80))
    have HX6 := hid ((((Below.refl w5.heap.size w5).alloc (Nat.le_refl _) (.cells #[.int .i64 3, .int .i64 (AQ.hd r).place] 80)).block _ (heap_lt HX5.out)).trans HX5.out)
    go_wp2_with fail
    exact HPan.out _ _ 3 _ HX6.out HB6.out (heap_alloc_new w5 _) HR.out _ rfl rfl

set_option maxRecDepth 100000 in
theorem catch_panM (p : Addr) (B : Nat) (x : Value) (w : World) (hc : w.cell? p = some x) (hz : w.frozen? p = false) :
    CallsD Tryd.prog 110 #[.pointer (some p)] (.panicking [{ v := .iface 78 (.pointer (some ⟨B, 0, none⟩)), recovered := false }]) w fun e u' w' =>
      e = .returned (.tuple #[]) ∧ u' = .panicking [{ v := .iface 78 (.pointer (some ⟨B, 0, none⟩)), recovered := true }] ∧ w' = w.setCell p (.iface 78 (.pointer (some ⟨B, 0, none⟩))) := by
  refine callsD_of_wpS Tryd.func110 rfl fun c₀ cs hu => ?_
  apply wpS_seq
  apply wpS_region
  simp [wpOpsS, go_sem, recoverD, hu, Tryd.ntmps110, Exit.thenS]
  refine wpS_of_wp (Code.wp_mono (Q := fun e a' w' => (e = .normal ∨ e = .ret) ∧ a'.defers = [] ∧ w' = w.setCell p (.iface 78 (.pointer (some ⟨B, 0, none⟩)))) ?_ ?_)
  · rintro e a' w' ⟨he, hd, rfl⟩
    rcases he with rfl | rfl
    · exact ⟨hd, _, rfl, _, results_none rfl _ _ _, rfl, rfl, rfl⟩
    · exact ⟨hd, _, rfl, _, results_none rfl _ _ _, rfl, rfl, rfl⟩
  · have hta := ta_at B
    show Code.wp _ _ _ { tmps := #[.pointer (some p), .iface 78 (.pointer (some ⟨B, 0, none⟩)), undef, undef, .iface 78 (.pointer (some ⟨B, 0, none⟩)), undef, undef, undef, undef, undef, undef, undef, undef, undef, undef, undef, undef], defers := [] } w
    go_wp2_with fail

set_option maxRecDepth 100000 in
theorem catch_idleM (p : Addr) (w : World) :
    CallsD Tryd.prog 110 #[.pointer (some p)] .returning w fun e u' w' => e = .returned (.tuple #[]) ∧ u' = .returning ∧ w' = w := by
  refine callsD_of_wpS Tryd.func110 rfl fun c₀ cs hu => ?_
  apply wpS_seq
  apply wpS_region
  simp [wpOpsS, go_sem, recoverD, hu, Tryd.ntmps110, Exit.thenS]
  refine wpS_of_wp (Code.wp_mono (Q := fun e a' w' => (e = .normal ∨ e = .ret) ∧ a'.defers = [] ∧ w' = w) ?_ ?_)
  · rintro e a' w' ⟨he, hd, rfl⟩
    have hc : ({ c₀ with mode := .returning } : Frame) = c₀ := by cases c₀; simp_all
    rcases he with rfl | rfl
    · exact ⟨hd, .returning, by rw [hc], _, results_none rfl _ _ _, rfl, rfl, rfl⟩
    · exact ⟨hd, .returning, by rw [hc], _, results_none rfl _ _ _, rfl, rfl, rfl⟩
  · show Code.wp _ _ _ { tmps := #[.pointer (some p), .nilIface, undef, undef, .nilIface, undef, undef, undef, undef, undef, undef, undef, undef, undef, undef, undef, undef], defers := [] } w
    go_wp2_with fail

theorem results_errM (tmps : Array Value) (w : World) (g : Nat) (x : Value) (hp : tmps.getD 5 undef = .pointer (some ⟨g, 0, none⟩)) (hg : w.heap[g]? = some (.cells #[x] 30)) : (results Tryd.f69 tmps).run Tryd.prog w = .ok (.tuple #[tmps.getD 4 undef, x]) w := by
  have hr : Tryd.f69.results = #[.tmp 4, .cell 5 30] := rfl
  have hp' : tmps[5]?.getD undef = .pointer (some ⟨g, 0, none⟩) := by simpa using hp
  have hc : w.cell? ⟨g, 0, none⟩ = some x := kcell _ _ _ _ hg 0 _ rfl
  have hl : (loadVar 30 ⟨g, 0, none⟩).run Tryd.prog w = .ok x w := by
    simp [go_sem, loadVar, hc]
  simp [results, hp', asAddr, hl]

set_option maxRecDepth 100000 in
set_option maxHeartbeats 1600000 in
theorem readM_any (s : ByteArray) (w : World) (h : Gl w) (hs : s.size ≤ 1000000000) (g : Nat) (F : List AQ.Tok → AQ.Res (List LB.Mat))
    (eg : ∀ args w, (callFunc g args).run Tryd.prog w = .ok (.enter g args) w)
    (hcall : ∀ (bp bt : Nat) W l, Pr W bp bt l → AQ.FitL l → Calls Tryd.prog g #[.pointer (some ⟨bp, 0, none⟩)] W fun e w' => PEnd VL W w' bp bt e (F l)) :
    Calls Tryd.prog 69 #[.string s, .func (.func g) #[] #[]] w fun e w' => REnd VL (.slice none 0 0) w w' e (AQ.read F s.data.toList) := by
  have hmf : ∀ (fn : Fn) (first cap : Array Value) (w : World), (Instr.makeFunc fn first cap).run Tryd.prog w = .ok (.func fn first cap) w := fun _ _ _ _ => rfl
  have hal0 : Below w.heap.size w (w.alloc (.cells #[.nilIface] 30)) := (Below.refl _ w).alloc (Nat.le_refl _) _
  have HB0 := hid hal0
  have HX0 := hid (heap_alloc_new w (.cells #[.nilIface] 30))
  have HG0 := hid (h.below hal0)
  have HGs := hid h.size
  have HC := hid hcall
  have hlen : s.data.toList.length ≤ 1000000000 := by rw [show s.data.toList.length = s.size by simp]; exact hs
  have HLen := hid hlen
  clear h hcall hal0 hlen
  go_enter_defers Tryd.func69, Tryd.ntmps69
  go_wp2_with fail
  generalize w.alloc (.cells #[.nilIface] 30) = w0 at *
  have hpan : ∀ (W : World) (B : Nat) (c p : Int), W.heap[w.heap.size]? = some (.cells #[.nilIface] 30) → Below w.heap.size w W → W.heap[B]? = some (.cells #[.int .i64 c, .int .i64 p] 80) → AQ.read F s.data.toList = .bad c p → ∀ (tmps : Array Value), tmps.getD 5 undef = .pointer (some ⟨w.heap.size, 0, none⟩) → tmps.getD 4 undef = (.slice none 0 0) → Leaves Tryd.prog Tryd.f69 tmps (fun e w' => REnd VL (.slice none 0 0) w w' e (AQ.read F s.data.toList)) [{ target := .fn (.func 110) #[.pointer (some ⟨w.heap.size, 0, none⟩)], args := #[] }] (.panicking [{ v := .iface 78 (.pointer (some ⟨B, 0, none⟩)), recovered := false }]) W := by
    intro W B c p hX hb hB hR tmps h5 h4
    refine leaves_cons (f := 110) (args := #[.pointer (some ⟨w.heap.size, 0, none⟩)]) (by simp) (by simp [go_sem]) ?_
    refine (catch_panM ⟨w.heap.size, 0, none⟩ B .nilIface W (kcell _ _ _ _ hX 0 _ rfl) (kfz hX 0)).mono ?_
    rintro e u' w'' ⟨rfl, rfl, rfl⟩
    have hne : B ≠ w.heap.size := fun e => by
      subst e
      rw [hX] at hB
      simp only [Option.some.injEq, Obj.cells.injEq] at hB
      exact absurd hB.2.1 (by decide)
    refine ⟨_, results_errM tmps _ w.heap.size _ h5 (heap_setCell_same W w.heap.size 0 _ _ _ hX), ?_⟩
    rw [h4]
    exact REnd.mkBad hR ((Below.heap_setCell W ⟨w.heap.size, 0, none⟩ _ B hne).trans hB) (hb.setCell (p := ⟨w.heap.size, 0, none⟩) (Nat.le_refl _) _)
  have HPan := hid hpan
  clear hpan
  refine (cut_any s w0 HG0.out hs).mono ?_
  intro e w1 hE
  rcases hR : AQ.cut s.data.toList with l | ⟨c, p⟩
  rotate_left
  · have HR := hid (show AQ.read F s.data.toList = .bad c p by unfold AQ.read; rw [hR])
    obtain ⟨B, rfl, hB, hb⟩ := hE.bad c p hR
    have hb1 := HB0.out.trans (show Below w.heap.size w0 w1 from ⟨hb.os, hb.tape, hb.output, hb.size, fun k hk => hb.block k (Nat.lt_of_lt_of_le hk HB0.out.size)⟩)
    have HB1 := hid hB
    have HBl := hid hb1
    have HX1 := hid ((hb.block _ (heap_lt HX0.out)).trans HX0.out)
    clear hR hE hB hb hb1
    go_wp2_with fail
    exact HPan.out w1 B c p HX1.out HBl.out HB1.out HR.out _ rfl rfl
  obtain ⟨v, rfl, hrow, hb⟩ := hE.ok l hR
  obtain ⟨hends, _, hfit⟩ := AQ.cut_inv hR HLen.out
  have hb1 := HB0.out.trans (show Below w.heap.size w0 w1 from ⟨hb.os, hb.tape, hb.output, hb.size, fun k hk => hb.block k (Nat.lt_of_lt_of_le hk HB0.out.size)⟩)
  have HX1 := hid ((hb.block _ (heap_lt HX0.out)).trans HX0.out)
  have HRd := hid (show AQ.read F s.data.toList = AQ.whole F l by unfold AQ.read; rw [hR])
  obtain ⟨bt, cap, ev, hT, hge, hlt, hroom⟩ := row_toks hrow hends.pos
  subst ev
  have hal : Below w1.heap.size w1 (w1.alloc (.cells #[.slice (some ⟨bt, 0, none⟩) l.length cap] 163)) := (Below.refl _ w1).alloc (Nat.le_refl _) _
  have HP2 : Hid (Pr (w1.alloc (.cells #[.slice (some ⟨bt, 0, none⟩) l.length cap] 163)) w1.heap.size bt l) :=
    ⟨0, cap, heap_alloc_new w1 _, fun i hi => by
      obtain ⟨a, b, c⟩ := hT i hi
      exact ⟨(hal.cell (p := ⟨bt, _, none⟩) hlt).trans a, (hal.cell (p := ⟨bt, _, none⟩) hlt).trans b, (hal.cell (p := ⟨bt, _, none⟩) hlt).trans c⟩, by omega, Nat.lt_of_lt_of_le hlt hal.size, hroom, hends, (HG0.out.below hb).below hal, by have := (HG0.out.below hb).size; omega⟩
  have HB2 := hid (hb1.alloc hb1.size (.cells #[.slice (some ⟨bt, 0, none⟩) l.length cap] 163))
  have HX2 := hid ((hal.block _ (heap_lt HX1.out)).trans HX1.out)
  have HFit := hid hfit
  have HNe : Hid (w.heap.size ≠ w1.heap.size) := by have := heap_lt HX1.out; show _ ≠ _; omega
  have HLow : Hid (w.heap.size ≤ w1.heap.size) := hb1.size
  clear hR hE hrow hb hends hfit hb1 hT hge hlt hroom hal HX1 HX0 HB0 HG0
  go_upto_region 3 with fail
  generalize w1.alloc (.cells #[.slice (some ⟨bt, 0, none⟩) l.length cap] 163) = w2 at *
  generalize w1.heap.size = bp at *
  go_wp2_with fail
  refine (HC.out bp bt w2 l HP2.out HFit.out).mono ?_
  intro e w3 hE
  rcases hR : F l with ⟨a, r⟩ | ⟨c, p⟩
  rotate_left
  · have HR := hid (show AQ.read F s.data.toList = .bad c p by rw [HRd.out]; unfold AQ.whole; rw [hR]; rfl)
    obtain ⟨B, rfl, hB, ho⟩ := hE.bad c p hR
    have HB3 := hid hB
    have HBl := hid (show Below w.heap.size w w3 from ⟨ho.1.trans HB2.out.os, ho.2.1.trans HB2.out.tape, ho.2.2.1.trans HB2.out.output, Nat.le_trans HB2.out.size ho.size, fun k hk => (ho.2.2.2.2 k (Nat.lt_of_lt_of_le hk HB2.out.size) (by have := HLow.out; omega)).trans (HB2.out.block k hk)⟩)
    have HX3 := hid (ho.block HX2.out HNe.out)
    clear hR hE hB ho
    go_wp2_with fail
    exact HPan.out w3 B c p HX3.out HBl.out HB3.out HR.out _ rfl rfl
  obtain ⟨v, rfl, hv, hp3, ho⟩ := hE.ok a r hR
  have HW := hid (show AQ.read F s.data.toList = if (AQ.hd r).kind = 4 then .ok a r else .bad 3 (AQ.hd r).place by rw [HRd.out]; unfold AQ.whole; rw [hR]; rfl)
  obtain ⟨va, vc, ev⟩ := kown_slice hv
  subst ev
  have HV3 := hid hv
  have HP3 := hid hp3
  have HB3 := hid (show Below w.heap.size w w3 from ⟨ho.1.trans HB2.out.os, ho.2.1.trans HB2.out.tape, ho.2.2.1.trans HB2.out.output, Nat.le_trans HB2.out.size ho.size, fun k hk => (ho.2.2.2.2 k (Nat.lt_of_lt_of_le hk HB2.out.size) (by have := HLow.out; omega)).trans (HB2.out.block k hk)⟩)
  have HX3 := hid (ho.block HX2.out HNe.out)
  clear hR hE hv hp3 ho HP2 HB2 HX2 HRd
  go_wp2_with fail
  refine (here_any bp r w3 HP3.out).mono ?_
  rintro e w4 ⟨rfl, hb4⟩
  have hal : Below w4.heap.size w4 (w4.alloc (.cells #[.int .i64 (AQ.hd r).kind, .string (AQ.hd r).said, .int .i64 (AQ.hd r).place] 166)) := (Below.refl _ w4).alloc (Nat.le_refl _) _
  have hb5 := hb4.trans (show Below w3.heap.size w4 _ from ⟨hal.os, hal.tape, hal.output, hal.size, fun k hk => hal.block k (Nat.lt_of_lt_of_le hk hb4.size)⟩)
  have HV5 := hid (show VL _ (.slice va a.length vc) a from krow_kept HV3.out fun g _ hg => hb5.block g (heap_lt hg))
  have HB5 := hid (HB3.out.trans (show Below w.heap.size w3 _ from ⟨hb5.os, hb5.tape, hb5.output, hb5.size, fun k hk => hb5.block k (Nat.lt_of_lt_of_le hk HB3.out.size)⟩))
  have HX5 := hid ((hb5.block _ (heap_lt HX3.out)).trans HX3.out)
  have HT5 := hid (heap_alloc_new w4 (.cells #[.int .i64 (AQ.hd r).kind, .string (AQ.hd r).said, .int .i64 (AQ.hd r).place] 166))
  clear hb4 hal hb5 HP3 HB3 HX3 HV3
  go_upto_region 5 with fail
  generalize w4.alloc (.cells #[.int .i64 (AQ.hd r).kind, .string (AQ.hd r).said, .int .i64 (AQ.hd r).place] 166) = w5 at *
  generalize w4.heap.size = b4 at *
  have t0 := kcell _ _ _ _ HT5.out 0 _ rfl
  have t2 := kcell _ _ _ _ HT5.out 2 _ rfl
  by_cases hk : (AQ.hd r).kind = 4
  · have hkb : ((AQ.hd r).kind != 4) = false := by rw [hk]; rfl
    have HR := hid (show AQ.read F s.data.toList = .ok a r by rw [HW.out, if_pos hk])
    have x0 := kcell _ _ _ _ HX5.out 0 _ rfl
    have f0 := kfz HX5.out 0
    have hset : ∀ g, (w5.setCell ⟨w.heap.size, 0, none⟩ .nilIface).heap[g]? = w5.heap[g]? := fun g => by
      by_cases e : g = w.heap.size
      · subst e; exact (heap_setCell_same w5 w.heap.size 0 _ _ .nilIface HX5.out).trans HX5.out.symm
      · exact Below.heap_setCell w5 ⟨w.heap.size, 0, none⟩ _ g e
    have HSet := hid hset
    clear hk hset
    go_wp2_with fail
    refine leaves_cons (f := 110) (args := #[.pointer (some ⟨w.heap.size, 0, none⟩)]) (by simp) (by simp [go_sem]) ?_
    refine (catch_idleM ⟨w.heap.size, 0, none⟩ _).mono ?_
    rintro e u' w'' ⟨rfl, rfl, rfl⟩
    refine ⟨_, results_errM _ _ w.heap.size _ rfl (heap_setCell_same w5 w.heap.size 0 _ _ _ HX5.out), ?_⟩
    exact REnd.mkOk HR.out (krow_kept HV5.out fun g _ _ => HSet.out g) (HB5.out.setCell (p := ⟨w.heap.size, 0, none⟩) (Nat.le_refl _) _)
  · have hkb : ((AQ.hd r).kind != 4) = true := by simpa using hk
    have HR := hid (show AQ.read F s.data.toList = .bad 3 (AQ.hd r).place by rw [HW.out, if_neg hk])
    clear hk
    go_wp2_with fail
    refine (wrong_any 3 (AQ.hd r).place w5).mono ?_
    rintro e w6 ⟨rfl, rfl⟩
    have HB6 := hid (HB5.out.alloc HB5.out.size (.cells #[.int .i64 3, .int .i64 (AQ.hd r).place] 80))
    have HX6 := hid ((((Below.refl w5.heap.size w5).alloc (Nat.le_refl _) (.cells #[.int .i64 3, .int .i64 (AQ.hd r).place] 80)).block _ (heap_lt HX5.out)).trans HX5.out)
    go_wp2_with fail
    exact HPan.out _ _ 3 _ HX6.out HB6.out (heap_alloc_new w5 _) HR.out _ rfl rfl

set_option maxRecDepth 100000 in
theorem parse1_any (bp bt : Nat) (W : World) (l : List AQ.Tok) (hp : Pr W bp bt l) (hf : AQ.FitL l) :
    Calls Tryd.prog 65 #[.pointer (some ⟨bp, 0, none⟩)] W fun e w' => PEnd VQ W w' bp bt e (AQ.sumR (AQ.oneR 9) l) := by
  have HC := hid (psum0_any bp W l hp hf)
  clear hp hf
  go_enter Tryd.func65, Tryd.ntmps65
  go_wp2_with fail
  refine HC.out.mono ?_
  intro e w1 hE
  rcases hR : AQ.sumR (AQ.oneR 9) l with ⟨q, r⟩ | ⟨c, p⟩
  · obtain ⟨v, rfl, hv, hp1, ho1⟩ := hE.ok q r hR
    obtain ⟨va, ev⟩ := hv.ptr
    subst ev
    have HK := hid (And.intro hv (And.intro hp1 ho1))
    have HR := hid hR
    clear hE hR hv hp1 ho1
    go_wp2_with fail
    go_ret
    exact PEnd.mkOk HR.out HK.out.1 HK.out.2.1 HK.out.2.2
  · have hT := hE.bad c p hR
    have HT := hid hT
    have HR := hid hR
    obtain ⟨B, rfl, _, _⟩ := hT
    clear hR hE
    go_wp2_with fail
    exact ⟨rfl, PEnd.mkBad HR.out HT.out⟩

set_option maxRecDepth 100000 in
theorem match1_any (bp bt : Nat) (W : World) (l : List AQ.Tok) (hp : Pr W bp bt l) (hf : AQ.FitL l) :
    Calls Tryd.prog 70 #[.pointer (some ⟨bp, 0, none⟩)] W fun e w' => PEnd VL W w' bp bt e (AQ.someR l) := by
  have HC := hid (psome_any bp l W hp hf)
  clear hp hf
  go_enter Tryd.func70, Tryd.ntmps70
  go_wp2_with fail
  refine HC.out.mono ?_
  intro e w1 hE
  rcases hR : AQ.someR l with ⟨q, r⟩ | ⟨c, p⟩
  · obtain ⟨v, rfl, hv, hp1, ho1⟩ := hE.ok q r hR
    obtain ⟨va, vc, ev⟩ := kown_slice hv
    subst ev
    have HK := hid (And.intro hv (And.intro hp1 ho1))
    have HR := hid hR
    clear hE hR hv hp1 ho1
    go_wp2_with fail
    go_ret
    exact PEnd.mkOk HR.out HK.out.1 HK.out.2.1 HK.out.2.2
  · have hT := hE.bad c p hR
    have HT := hid hT
    have HR := hid hR
    obtain ⟨B, rfl, _, _⟩ := hT
    clear hR hE
    go_wp2_with fail
    exact ⟨rfl, PEnd.mkBad HR.out HT.out⟩

set_option maxRecDepth 100000 in
theorem parse_any (s : ByteArray) (w : World) (h : Gl w) (hs : s.size ≤ 1000000000) :
    Calls Tryd.prog 28 #[.string s] w fun e w' => REnd VQ (.pointer none) w w' e (AQ.parse s.data.toList) := by
  have HC := hid (readA_any s w h hs 65 (AQ.sumR (AQ.oneR 9)) (enters_of Tryd.func65 (by kernel_rfl) rfl) parse1_any)
  have HP : Hid (AQ.parse s.data.toList = AQ.read (AQ.sumR (AQ.oneR 9)) s.data.toList) := rfl
  generalize AQ.read (AQ.sumR (AQ.oneR 9)) s.data.toList = R at *
  clear h
  go_enter Tryd.func28, Tryd.ntmps28
  go_wp2_with fail
  refine HC.out.mono ?_
  intro e w1 hE
  rcases hR : R with ⟨q, r⟩ | ⟨c, p⟩
  · obtain ⟨v, rfl, hv⟩ := hE.ok q r hR
    obtain ⟨va, ev⟩ := hv.ptr
    subst ev
    have HK := hid (And.intro hv hE.low)
    have HR := hid (HP.out.trans hR)
    clear hE hR hv
    go_wp2_with fail
    go_ret2
    exact REnd.mkOk HR.out HK.out.1 HK.out.2
  · obtain ⟨B, rfl, hB⟩ := hE.bad c p hR
    have HK := hid (And.intro hB hE.low)
    have HR := hid (HP.out.trans hR)
    clear hE hR hB
    go_wp2_with fail
    go_ret2
    exact REnd.mkBad HR.out HK.out.1 HK.out.2

set_option maxRecDepth 100000 in
theorem match_any (s : ByteArray) (w : World) (h : Gl w) (hs : s.size ≤ 1000000000) :
    Calls Tryd.prog 30 #[.string s] w fun e w' => REnd VL (.slice none 0 0) w w' e (AQ.matchR s.data.toList) := by
  have HC := hid (readM_any s w h hs 70 AQ.someR (enters_of Tryd.func70 (by kernel_rfl) rfl) match1_any)
  have HP : Hid (AQ.matchR s.data.toList = AQ.read AQ.someR s.data.toList) := rfl
  generalize AQ.read AQ.someR s.data.toList = R at *
  clear h
  go_enter Tryd.func30, Tryd.ntmps30
  go_wp2_with fail
  refine HC.out.mono ?_
  intro e w1 hE
  rcases hR : R with ⟨q, r⟩ | ⟨c, p⟩
  · obtain ⟨v, rfl, hv⟩ := hE.ok q r hR
    obtain ⟨va, vc, ev⟩ := kown_slice hv
    subst ev
    have HK := hid (And.intro hv hE.low)
    have HR := hid (HP.out.trans hR)
    clear hE hR hv
    go_wp2_with fail
    go_ret2
    exact REnd.mkOk HR.out HK.out.1 HK.out.2
  · obtain ⟨B, rfl, hB⟩ := hE.bad c p hR
    have HK := hid (And.intro hB hE.low)
    have HR := hid (HP.out.trans hR)
    clear hE hR hB
    go_wp2_with fail
    go_ret2
    exact REnd.mkBad HR.out HK.out.1 HK.out.2

end Go.Proofs.YtdmnlmohfaafoaeDoor
