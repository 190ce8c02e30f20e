/- HeadWhole (its drawn regions' steps by mkhw.py). -/
import Derived.Test.YtdmnlmohfaafoaeDoorHwFn
import Derived.Test.YtdmnlmohfaafoaeDoorHwJoin
import Derived.Test.YtdmnlmohfaafoaeDoorHsSameK
import Derived.Test.YtdmnlmohfaafoaeDoorHsShort
namespace Go.Proofs.YtdmnlmohfaafoaeDoor
open Go.RowKit

/-- Rows of rows of series that came in. -/
def LLSr (w : World) (ao : Option Addr) (l : List (List Sr)) : Prop := ∀ i, i < l.length → ∃ b off, ao = some ⟨b, off, none⟩ ∧ b < w.heap.size ∧ ∃ ao' cap', w.cell? ⟨b, off + i, none⟩ = some (.slice ao' (l.getD i []).length cap') ∧ SrRow w ao' (l.getD i []) ∧ ∀ k, k < (l.getD i []).length → ∀ s ∈ (atSr (l.getD i []) k).2, CL.Rs s

theorem q_skip {P : Program} {ops : Array Oper} {C : World → Prop} {Q : Act → Prop} {o : Oper} {rest : List Oper} {a : Act} (hw : Region.wanted o (yielded ops a.tmps) = false) (hk : wpQuiet P ops C Q rest (a.put o.dst undef)) : wpQuiet P ops C Q (o :: rest) a := BigFrame.wpQuiet_skip hw hk

/-- Operations that are not wanted, one behind the other. -/
def putU : List Oper → Act → Act
  | [], a => a
  | o :: os, a => putU os (a.put o.dst undef)

def skipsB (ops : Array Oper) : List Oper → Act → Bool
  | [], _ => true
  | o :: os, a => !Region.wanted o (yielded ops a.tmps) && skipsB ops os (a.put o.dst undef)

theorem q_skips {P : Program} {ops : Array Oper} {C : World → Prop} {Q : Act → Prop} : ∀ (os : List Oper) {rest : List Oper} {a : Act}, skipsB ops os a = true → wpQuiet P ops C Q rest (putU os a) → wpQuiet P ops C Q (os ++ rest) a
  | [], _, _, _, h => h
  | o :: os, rest, a, hs, h => by
    simp only [skipsB, Bool.and_eq_true, Bool.not_eq_true'] at hs
    exact BigFrame.wpQuiet_skip hs.1 (q_skips os hs.2 h)

theorem q_run_skip {P : Program} {ops : Array Oper} {C : World → Prop} {Q : Act → Prop} {o : Oper} {rest : List Oper} {a : Act} (v : Value) (n : Nat) (hw : Region.wanted o (yielded ops a.tmps) = true) (h : ∀ W, C W → (execOp a.eval o).run P W = .ok (.value v) W) (hs : skipsB ops (rest.take n) (a.put o.dst v) = true) (hk : wpQuiet P ops C Q (rest.drop n) (putU (rest.take n) (a.put o.dst v))) : wpQuiet P ops C Q (o :: rest) a :=
  q_run v hw h (by
    have := q_skips (P := P) (C := C) (Q := Q) (rest.take n) hs hk
    rwa [List.take_append_drop] at this)

theorem ll_index (b off n c i : Nat) (h : i < n) (w : World) : (Instr.indexAt 22 (.slice (some ⟨b, off, none⟩) n c) (.int .i64 (i : Int))).run Tryd.prog w = .ok (.pointer (some ⟨b, off + i, none⟩)) w := by
  have h0 : 0 ≤ (i : Int) ∧ (i : Int) < (n : Int) := by omega
  go_simp

theorem sw_index (g n c i : Nat) (h : i < n) (w : World) : (Instr.indexAt 27 (.slice (some ⟨g, 0, none⟩) n c) (.int .i64 (i : Int))).run Tryd.prog w = .ok (.pointer (some ⟨g, i * 2, none⟩)) w := by
  have h0 : 0 ≤ (i : Int) ∧ (i : Int) < (n : Int) := by omega
  go_simp

theorem sr_index1 (g off n c i : Nat) (h : i < n) (h1 : 0 < i) (w : World) : (Instr.indexAt 27 (.slice (some ⟨g, off, none⟩) n c) (.int .i64 ((i : Int) - 1))).run Tryd.prog w = .ok (.pointer (some ⟨g, off + (i - 1) * 2, none⟩)) w := by
  have e : (i : Int) - 1 = ((i - 1 : Nat) : Int) := by omega
  rw [e]
  exact sr_index g off n c (i - 1) (by omega) w

theorem shS_lim {l : List Sr} (h : shS l = true) : l.length ≤ 20 ∧ ∀ i, i < l.length → (atSr l i).1.length ≤ 20 ∧ (atSr l i).2.length ≤ 60 := by
  unfold shS at h
  have h1 := decide_eq_true_iff.1 h
  refine ⟨h1.1, fun i hi => ?_⟩
  obtain ⟨h2, h3⟩ := h1.2 i hi
  unfold shL at h2
  exact ⟨(decide_eq_true_iff.1 h2).1, h3⟩

theorem total_bound (l : List Sr) (h1 : l.length ≤ 60) (h2 : ∀ i, i < l.length → (atSr l i).2.length ≤ 2000) : HD.total l ≤ 120000 := by
  have key : ∀ k, k ≤ l.length → HD.total (l.take k) ≤ k * 2000 := by
    intro k
    induction k with
    | zero => intro _; exact Nat.le_refl _
    | succ k ih =>
      intro hk
      rw [HD.total_take l k (by omega)]
      have := ih (by omega)
      have := h2 k (by omega)
      omega
  have := key l.length (Nat.le_refl _)
  rw [List.take_length] at this
  omega

theorem good_few {S : List Sr} (h : HD.Good S) : SrFew S := ⟨by have := h.few; omega, fun i hi => by
  have hok := h.ok _ (HD.at_mem S i hi)
  have h1 := right_len hok.1
  have h2 := right_le hok.2.1
  omega⟩

theorem good_len {S : List Sr} (h : HD.Good S) : S.length ≤ 60 ∧ ∀ i, i < S.length → (atSr S i).1.length ≤ 8 ∧ (atSr S i).2.length ≤ 2000 ∧ 0 < (atSr S i).2.length := ⟨h.few, fun i hi => by
  have hok := h.ok _ (HD.at_mem S i hi)
  have h1 := right_len hok.1
  exact ⟨by omega, right_le hok.2.1, hok.2.2.1⟩⟩

theorem ErrAt.what {w : World} {c : Int × Int} {ev : Value} (h : ErrAt w c ev) : (ev = .nilIface ∧ c = (0, -1)) ∨ ((∃ T u, ev = .iface T u) ∧ c ≠ (0, -1)) := by
  rcases h with ⟨h1, h2⟩ | ⟨h1, h2⟩ | ⟨h1, h2, p, h3, _⟩
  · exact .inl ⟨h2, h1⟩
  · exact .inr ⟨⟨_, _, h2⟩, by rw [h1]; decide⟩
  · exact .inr ⟨⟨_, _, h3⟩, fun e => h2 (by rw [e])⟩

theorem kp_time {t : Int} {S : List Sr} {i k : Nat} (hi : i < (HD.kp (fun _ s => decide (s ≤ t)) S).length) (hk : k < (atSr (HD.kp (fun _ s => decide (s ≤ t)) S) i).2.length) : (CL.at' (atSr (HD.kp (fun _ s => decide (s ≤ t)) S) i).2 k).1 ≤ t := by
  have h1 := HD.at_mem _ i hi
  generalize atSr (HD.kp (fun _ s => decide (s ≤ t)) S) i = x at *
  unfold HD.kp at h1
  obtain ⟨h2, _⟩ := List.mem_filter.1 h1
  obtain ⟨z, _, rfl⟩ := List.mem_map.1 h2
  have h3 := CL.at_mem _ k hk
  have := (List.mem_filter.1 h3).2
  simpa using this

theorem kp_late {t : Int} {S : List Sr} {i : Nat} (hi : i < (HD.kp (fun _ s => !decide (s ≤ t)) S).length) : 0 < (atSr (HD.kp (fun _ s => !decide (s ≤ t)) S) i).2.length ∧ t < (CL.at' (atSr (HD.kp (fun _ s => !decide (s ≤ t)) S) i).2 0).1 := by
  have h1 := HD.at_mem _ i hi
  generalize atSr (HD.kp (fun _ s => !decide (s ≤ t)) S) i = x at *
  unfold HD.kp at h1
  obtain ⟨h2, h0⟩ := List.mem_filter.1 h1
  obtain ⟨z, _, rfl⟩ := List.mem_map.1 h2
  have h0' : 0 < (HD.keepS (fun _ s => !decide (s ≤ t)) z).2.length := by simpa using h0
  refine ⟨h0', ?_⟩
  have h3 := CL.at_mem _ 0 h0'
  have := (List.mem_filter.1 h3).2
  simp only [Bool.not_eq_true', decide_eq_false_iff_not] at this
  omega

theorem good_few' {S : List Sr} (h : HD.Good S) : Few S := fun x hx => by
  have hok := h.ok x hx
  have h1 := right_len hok.1
  have h2 := right_le hok.2.1
  omega

theorem SB.own {w : World} {base : Nat} {v : Value} {xs : List (Value × Value)} {L : List Sr} (h : SB w base v xs L) : SrOwn w 0 v L := ⟨xs, h.len, row_low h.row (Nat.zero_le _), fun i hi => ⟨h.labs i hi, h.smps i hi⟩⟩

set_option maxRecDepth 100000 in
set_option maxHeartbeats 6400000 in
theorem whole_any (mark t : Int) (ao : Option Addr) (l : List (List Sr)) (cap : Nat) (w : World) (hE : ErrT w) (hL : LLSr w ao l) :
    Calls Tryd.prog 3 #[.int .i64 mark, .slice ao l.length cap, .int .i64 t] w fun e w' => e = .returned (.bool true) ∧ Below w.heap.size w w' := by
  have HE := hid hE
  have HL := hid hL
  clear hE hL
  by_cases hlong : 15 < l.length
  · have hlong' : (15 : Int) < (l.length : Int) := by omega
    go_enter Tryd.func3, Tryd.ntmps3
    go_wp2_with fail
    go_ret
    exact ⟨rfl, Below.refl _ _⟩
  · have hlong' : ¬ (15 : Int) < (l.length : Int) := by omega
    go_enter Tryd.func3, Tryd.ntmps3
    go_wp2_with fail
    refine (headed_any w HE.out).mono ?_
    rintro e w1 ⟨rfl, hb1⟩
    have HB1 := hid hb1
    clear hb1
    go_wp2_with fail
    refine (hnew_any mark w1).mono ?_
    rintro e w2 ⟨rfl, rfl⟩
    have hI2 := HSt.new mark w1
    generalize w1.alloc (.cells #[.int .i64 mark, .slice none 0 0] 73) = w2 at *
    generalize (fun j => w1.heap.size ≤ j ∧ j < w1.heap.size + 1) = Z2 at *
    generalize hhb : w1.heap.size = hb at hI2 ⊢
    have HI2 := hid hI2
    clear hI2 hhb
    go_wp2_with fail
    go_loopw [8] (fun ti wr => ∃ (i : Nat) (Z : Nat → Prop) (S : List Sr), i ≤ l.length ∧ ti = .int .i64 i ∧ HSt w1 wr hb Z mark S ∧ HD.Good S) (fun ti _ => l.length - (intOf ti).toNat)
    case atStart => exact ⟨0, Z2, [], Nat.zero_le _, rfl, HI2.out, HD.Good.nil⟩
    case round =>
      obtain ⟨i, Z, S, hi, rfl, hst, hgd⟩ := hrel
      have HSt := hid hst
      have HGd := hid hgd
      clear hst hgd HI2
      by_cases hlt : i < l.length
      · obtain ⟨b, off, hao, hbs, ao', cap', hc0, hrow, hrs⟩ := HL.out i hlt
        subst hao
        have hbw : Below w.heap.size w wr := HB1.out.trans (HSt.out.bel.mono HB1.out.size)
        have c0 : wr.cell? ⟨b, off + i, none⟩ = some (.slice ao' (l.getD i []).length cap') := (hbw.cell (p := ⟨b, _, none⟩) hbs).trans hc0
        have HRow := hid hrow
        have HRs := hid hrs
        have HBw := hid hbw
        generalize hli : l.getD i [] = li at *
        clear hc0 hrow hrs hli hbw
        have hil : 0 ≤ (i : Int) ∧ (i : Int) < (l.length : Int) := by omega
        go_wp2_with fail
        refine (shS_any ao' li cap' wr (HRow.out.below HBw.out)).mono ?_
        rintro e w3 ⟨rfl, rfl⟩
        rcases hsh : shS li with _ | _
        · go_wp2_with fail
          go_ret
          exact ⟨rfl, HBw.out⟩
        · obtain ⟨hl20, hlim⟩ := shS_lim hsh
          have HLim := hid hlim
          clear hsh hlim
          go_wp2_with fail
          refine (series_any hb Z mark S w3 HSt.out.hd HGd.out).mono ?_
          rintro e w4 ⟨v4, rfl, ho4, hb4⟩
          have HSt4 := hid (HSt.out.below hb4)
          have HO4 := hid ho4
          obtain ⟨a4, k4, e4⟩ := SrRow.of_own ho4
          obtain ⟨e4, hr4⟩ := e4
          have hbx : b < w3.heap.size := Nat.lt_of_lt_of_le hbs HBw.out.size
          have c1 := (hb4.cell (p := ⟨b, off + i, none⟩) hbx).trans c0
          have HB4 := hid hb4
          have hout4 : SrOut w4 Z ao' li := HSt4.out.old (HRow.out.below (HB1.out.mono (Nat.le_refl _)))
          have HOut4 := hid hout4
          subst e4
          clear hb4 ho4 hr4 hout4
          go_wp2_with fail
          refine (happend_any hb Z mark S li ao' cap' w4 HSt4.out.hd HGd.out HOut4.out (by omega) (fun k hk => by have := HLim.out k hk; omega) HRs.out).mono ?_
          rintro e w5 ⟨⟨ev, rfl, herr⟩, hd5, hf5⟩
          have hI5 := HSt4.out.step hd5 hf5
          have hgd5 : HD.Good (HD.app mark S li).2 := HD.app_good HGd.out (fun x hx => by
            obtain ⟨k, hk, e⟩ := HD.mem_at hx
            rw [← e]
            exact HRs.out k hk)
          -- what was told is still there
          obtain ⟨a4', k4', e4', hs4'⟩ := SrOut.of_own (Z := Z) HO4.out (fun j hj => HSt.out.zlt j hj)
          simp only [Value.slice.injEq, true_and] at e4'
          obtain ⟨rfl, rfl⟩ := e4'
          have hr5 : SrRow w5 a4 S := (hs4'.kept hf5).row
          have HR5 := hid hr5
          have hli5 : SrRow w5 ao' li := (HOut4.out.kept hf5).row
          have HLi5 := hid hli5
          have hbx4 : b < w4.heap.size := Nat.lt_of_lt_of_le hbx HB4.out.size
          have HErr := hid herr.what
          have HTot := hid (And.intro (fun h => HD.total_app (mark := mark) (S := S) (l := li) h) (fun h => HD.app_same (mark := mark) (S := S) (l := li) h))
          have HG5 := hid hgd5
          have hbw5 : Below w.heap.size w w5 := HB1.out.trans (hI5.bel.mono HB1.out.size)
          have c2 : w5.cell? ⟨b, off + i, none⟩ = some (.slice ao' li.length cap') := by
            have := (hbw5.cell (p := ⟨b, off + i, none⟩) hbs)
            rw [this, ← HBw.out.cell (p := ⟨b, off + i, none⟩) hbs]
            exact c0
          generalize wid Z w4 w5 = Z5 at *
          generalize (HD.app mark S li).2 = S5 at *
          generalize (HD.app mark S li).1 = cc at *
          have HI5 := hid hI5
          clear hd5 hf5 hI5 hgd5 hs4' hr5 hli5 herr hbw5
          go_wp2_with fail
          refine (series_any hb Z5 mark S5 w5 HI5.out.hd HG5.out).mono ?_
          rintro e w6 ⟨v6, rfl, ho6, hb6⟩
          obtain ⟨a6, k6, e6, hr6⟩ := SrRow.of_own ho6
          subst e6
          have HI6 := hid (HI5.out.below hb6)
          have HR6 := hid hr6
          have HR56 := hid (HR5.out.below hb6)
          have HLi6 := hid (HLi5.out.below hb6)
          have hbx6 : b < w6.heap.size := Nat.lt_of_lt_of_le (World.block_lt_of_cell? _ _ c2) hb6.size
          have c3 := (hb6.cell (p := ⟨b, off + i, none⟩) (World.block_lt_of_cell? _ _ c2)).trans c2
          clear hb6 ho6 hr6 HR5 HLi5
          go_wp2_with fail
          rcases HErr.out with ⟨hev, hcc⟩ | ⟨⟨T, u, hev⟩, hcc⟩
          · subst hev
            have htot := HTot.out.1 hcc
            have b1 := total_bound S HGd.out.few (fun k hk => ((good_len HGd.out).2 k hk).2.1)
            have b2 := total_bound li (by omega) (fun k hk => by have := HLim.out k hk; omega)
            have hw1 : IntKind.i64.wrap ((HD.total S : Int) + (HD.total li : Int)) = (HD.total S : Int) + (HD.total li : Int) := by rw [IntKind.wrap_i64]; omega
            have HEq : Hid ((HD.total S5 : Int) = (HD.total S : Int) + (HD.total li : Int)) := by show _ = _; omega
            have HC1 : Hid (∀ W, Below w6.heap.size w6 W → Calls Tryd.prog 12 #[.slice a6 S5.length k6] W fun e w' => e = .returned (.int .i64 (HD.total S5 : Int)) ∧ w' = W) := fun W hW => count_any a6 S5 k6 W (HR6.out.below hW) (by have := HG5.out.few; omega) (fun k hk => ((good_len HG5.out).2 k hk).2.1)
            have HC2 : Hid (∀ W, Below w6.heap.size w6 W → Calls Tryd.prog 12 #[.slice a4 S.length k4] W fun e w' => e = .returned (.int .i64 (HD.total S : Int)) ∧ w' = W) := fun W hW => count_any a4 S k4 W (HR56.out.below hW) (by have := HGd.out.few; omega) (fun k hk => ((good_len HGd.out).2 k hk).2.1)
            have HC3 : Hid (∀ W, Below w6.heap.size w6 W → Calls Tryd.prog 12 #[.slice ao' li.length cap'] W fun e w' => e = .returned (.int .i64 (HD.total li : Int)) ∧ w' = W) := fun W hW => count_any ao' li cap' W (HLi6.out.below hW) (by omega) (fun k hk => by have := HLim.out k hk; omega)
            clear htot b1 b2
            refine wp_region_class (fun W => Below w6.heap.size w6 W) (by kernel_rfl) (by kernel_rfl) (Below.refl _ w6).drew ?_
            refine q_run (.nilIface) (by kernel_rfl) (fun W hW => by kernel_rfl) ?_
            go_frame
            refine q_run (.bool false) (by kernel_rfl) (fun W hW => by kernel_rfl) ?_
            go_frame
            refine q_run_skip (.bool false) 4 (by kernel_rfl) (fun W hW => by kernel_rfl) (by kernel_rfl) ?_
            simp only [List.drop_succ_cons, List.drop_zero, List.take_succ_cons, List.take_zero, putU]
            go_frame
            refine q_run (.bool false) (by kernel_rfl) (fun W hW => by kernel_rfl) ?_
            go_frame
            refine q_run (.bool false) (by kernel_rfl) (fun W hW => by kernel_rfl) ?_
            go_frame
            refine q_run (.nilIface) (by kernel_rfl) (fun W hW => by kernel_rfl) ?_
            go_frame
            refine q_run (.bool true) (by kernel_rfl) (fun W hW => by kernel_rfl) ?_
            go_frame
            refine q_run (.bool true) (by kernel_rfl) (fun W hW => by kernel_rfl) ?_
            go_frame
            refine q_run (.slice a6 S5.length k6) (by kernel_rfl) (fun W hW => by kernel_rfl) ?_
            go_frame
            refine q_call (.int .i64 (HD.total S5 : Int)) (by kernel_rfl) (fun W => by kernel_rfl) (fun W hW => (HC1.out W hW).mono fun e w' h => ⟨h.1, by rw [h.2]; exact hW⟩) ?_
            go_frame
            refine q_run (.slice a4 S.length k4) (by kernel_rfl) (fun W hW => by kernel_rfl) ?_
            go_frame
            refine q_call (.int .i64 (HD.total S : Int)) (by kernel_rfl) (fun W => by kernel_rfl) (fun W hW => (HC2.out W hW).mono fun e w' h => ⟨h.1, by rw [h.2]; exact hW⟩) ?_
            go_frame
            refine q_run (.slice (some ⟨b, off, none⟩) l.length cap) (by kernel_rfl) (fun W hW => by kernel_rfl) ?_
            go_frame
            refine q_run (.int .i64 (i : Int)) (by kernel_rfl) (fun W hW => by kernel_rfl) ?_
            go_frame
            refine q_index (.pointer (some ⟨b, off + i, none⟩)) (by kernel_rfl) rfl (by kernel_rfl) (by kernel_rfl) (ll_index b off l.length cap i hlt) ?_
            go_frame
            refine q_load (.slice ao' li.length cap') (by kernel_rfl) rfl (by kernel_rfl) (fun W hW => ld_series b (off + i) ao' li.length cap' W ((hW.cell (p := ⟨b, off + i, none⟩) hbx6).trans c3)) ?_
            go_frame
            refine q_call (.int .i64 (HD.total li : Int)) (by kernel_rfl) (fun W => by kernel_rfl) (fun W hW => (HC3.out W hW).mono fun e w' h => ⟨h.1, by rw [h.2]; exact hW⟩) ?_
            go_frame
            refine q_run (.int .i64 ((HD.total S : Int) + (HD.total li : Int))) (by kernel_rfl) (fun W hW => by go_simp) ?_
            go_frame
            refine q_run (.bool false) (by kernel_rfl) (fun W hW => by go_simp; exact HEq.out) ?_
            go_frame
            refine q_run (.bool false) (by kernel_rfl) (fun W hW => by kernel_rfl) ?_
            go_frame
            refine q_run (.bool false) (by kernel_rfl) (fun W hW => by kernel_rfl) ?_
            go_frame
            refine wpQuiet_nil ?_
            intro w7 hb7
            have HI7 := hid (HI6.out.below hb7)
            clear hb7 HC1 HC2 HC3
            go_wp2_with fail
            go_roundw
            case rel => exact ⟨i + 1, Z5, S5, by omega, by go_num, HI7.out, HG5.out⟩
            case measure => simp [intOf]; omega
          · subst hev
            obtain rfl := HTot.out.2 hcc
            have HSm : Hid (∀ W, Below w6.heap.size w6 W → Calls Tryd.prog 11 #[.slice a6 S5.length k6, .slice a4 S5.length k4] W fun e w' => e = .returned (.bool true) ∧ Below w6.heap.size w6 w') := fun W hW => (sameSrK_any a6 a4 S5 k6 k4 W (HR6.out.below hW) (HR56.out.below hW) (good_few HG5.out)).mono fun e w' h => ⟨h.1, bel2 hW h.2⟩
            refine wp_region_class (fun W => Below w6.heap.size w6 W) (by kernel_rfl) (by kernel_rfl) (Below.refl _ w6).drew ?_
            refine q_run (.iface T u) (by kernel_rfl) (fun W hW => by kernel_rfl) ?_
            go_frame
            refine q_run (.bool true) (by kernel_rfl) (fun W hW => by kernel_rfl) ?_
            go_frame
            refine q_run (.bool true) (by kernel_rfl) (fun W hW => by kernel_rfl) ?_
            go_frame
            refine q_run (.slice a6 S5.length k6) (by kernel_rfl) (fun W hW => by kernel_rfl) ?_
            go_frame
            refine q_run (.slice a4 S5.length k4) (by kernel_rfl) (fun W hW => by kernel_rfl) ?_
            go_frame
            refine q_call (.bool true) (f := 11) (args := #[.slice a6 S5.length k6, .slice a4 S5.length k4]) (by kernel_rfl) (fun W => by kernel_rfl) HSm.out ?_
            go_frame
            refine q_run (.bool false) (by kernel_rfl) (fun W hW => by kernel_rfl) ?_
            go_frame
            refine q_run (.bool false) (by kernel_rfl) (fun W hW => by kernel_rfl) ?_
            go_frame
            refine q_run (.bool false) (by kernel_rfl) (fun W hW => by kernel_rfl) ?_
            go_frame
            refine q_run (.iface T u) (by kernel_rfl) (fun W hW => by kernel_rfl) ?_
            go_frame
            refine q_run (.bool false) (by kernel_rfl) (fun W hW => by kernel_rfl) ?_
            go_frame
            refine q_run_skip (.bool false) 11 (by kernel_rfl) (fun W hW => by kernel_rfl) (by kernel_rfl) ?_
            simp only [List.drop_succ_cons, List.drop_zero, List.take_succ_cons, List.take_zero, putU]
            go_frame
            refine q_run (.bool false) (by kernel_rfl) (fun W hW => by kernel_rfl) ?_
            go_frame
            refine q_run (.bool false) (by kernel_rfl) (fun W hW => by kernel_rfl) ?_
            go_frame
            refine wpQuiet_nil ?_
            intro w7 hb7
            have HI7 := hid (HI6.out.below hb7)
            clear hb7 HSm
            go_wp2_with fail
            go_roundw
            case rel => exact ⟨i + 1, Z5, S5, by omega, by go_num, HI7.out, HG5.out⟩
            case measure => simp [intOf]; omega
      · have he : i = l.length := by omega
        subst he
        clear HL
        go_wp2_with fail
        refine (series_any hb Z mark S wr HSt.out.hd HGd.out).mono ?_
        rintro e w3 ⟨v3, rfl, ho3, hb3⟩
        obtain ⟨aw, kw, ew, hr3⟩ := SrRow.of_own ho3
        obtain ⟨aw', kw', ew', hs3⟩ := SrOut.of_own (Z := Z) ho3 (fun j hj => HSt.out.zlt j hj)
        rw [ew] at ew'
        simp only [Value.slice.injEq, true_and] at ew'
        obtain ⟨rfl, rfl⟩ := ew'
        subst ew
        have HSt3 := hid (HSt.out.below hb3)
        have HR3 := hid hr3
        have HS3 := hid hs3
        clear ho3 hb3 hr3 hs3 HSt hi hlt
        go_wp2_with fail
        go_loopw [13] (fun ti wr => ∃ i : Nat, i ≤ S.length ∧ ti = .int .i64 i ∧ Below w3.heap.size w3 wr) (fun ti _ => S.length - (intOf ti).toNat)
        case atStart => exact ⟨0, Nat.zero_le _, rfl, Below.refl _ _⟩
        case round =>
          obtain ⟨i, hi, rfl, hbel⟩ := hrel
          have HBq := hid hbel
          have HBr := hid hbel
          clear hbel
          by_cases hlt : i < S.length
          · obtain ⟨g, off, hao, hgs, lo, lc, so, sc, d0, d1, hLR, hSR⟩ := HR3.out i hlt
            subst hao
            have hok := HGd.out.ok _ (HD.at_mem S i hlt)
            have hln := right_len hok.1
            have hsn := right_le hok.2.1
            have hsp := hok.2.2.1
            have hgw : g < wr.heap.size := Nat.lt_of_lt_of_le hgs HBq.out.size
            have HCell : Hid (∀ W, Below wr.heap.size wr W → (W.cell? ⟨g, off + i * 2, none⟩ = some (.slice lo (atSr S i).1.length lc) ∧ W.cell? ⟨g, off + i * 2 + 1, none⟩ = some (.slice so (atSr S i).2.length sc)) ∧ True) := fun W hW => ⟨⟨(hW.cell (p := ⟨g, _, none⟩) hgw).trans ((HBq.out.cell (p := ⟨g, _, none⟩) hgs).trans d0), (hW.cell (p := ⟨g, _, none⟩) hgw).trans ((HBq.out.cell (p := ⟨g, _, none⟩) hgs).trans d1)⟩, trivial⟩
            have HRt : Hid (∀ W, Below wr.heap.size wr W → Calls Tryd.prog 13 #[.slice so (atSr S i).2.length sc] W fun e w' => e = .returned (.bool true) ∧ Below W.heap.size W w') := fun W hW => (right_any so (atSr S i).2 sc W ((hSR.below HBq.out).below hW) hok.2.2.2 (by omega)).mono fun e w' h => ⟨by rw [h.1, hok.2.1], h.2⟩
            have hfew := HGd.out.few
            have hil : 0 ≤ (i : Int) ∧ (i : Int) < (S.length : Int) := by omega
            have hz0 : (((atSr S i).2.length : Int) == 0) = false := by simp only [beq_eq_false_iff_ne, ne_eq]; omega
            clear hSR
            generalize (atSr S i).2.length = sn at *
            generalize hlnE : (atSr S i).1.length = ln at *
            by_cases hi0 : i = 0
            · have hg0 : (i : Int) ≤ 0 := by omega
              have HI0 := hid hi0
              clear d0 d1 hi0
              go_wp2_with fail
              refine wp_region_class (fun W => Below wr.heap.size wr W) (by kernel_rfl) (by kernel_rfl) (Below.refl _ wr).drew ?_
              refine q_run (.slice (some ⟨g, off, none⟩) S.length kw) (by kernel_rfl) (fun W hW => by kernel_rfl) ?_
              go_frame
              refine q_run (.int .i64 (i : Int)) (by kernel_rfl) (fun W hW => by kernel_rfl) ?_
              go_frame
              refine q_index (.pointer (some ⟨g, off + i * 2, none⟩)) (by kernel_rfl) rfl (by kernel_rfl) (by kernel_rfl) (sr_index g off S.length kw i hlt) ?_
              go_frame
              refine q_run (.pointer (some ⟨g, off + i * 2 + 1, none⟩)) (by kernel_rfl) (fun W hW => by kernel_rfl) ?_
              go_frame
              refine q_load (.slice so sn sc) (by kernel_rfl) rfl (by kernel_rfl) (fun W hW => ld_samples g (off + i * 2 + 1) so sn sc W (HCell.out W hW).1.2) ?_
              go_frame
              refine q_call (.bool true) (by kernel_rfl) (fun W => by kernel_rfl) (fun W hW => (HRt.out W hW).mono fun e w' h => ⟨h.1, bel2 hW h.2⟩) ?_
              go_frame
              refine q_run (.bool false) (by kernel_rfl) (fun W hW => by kernel_rfl) ?_
              go_frame
              refine q_run (.bool false) (by kernel_rfl) (fun W hW => by kernel_rfl) ?_
              go_frame
              refine q_run (.slice (some ⟨g, off, none⟩) S.length kw) (by kernel_rfl) (fun W hW => by kernel_rfl) ?_
              go_frame
              refine q_run (.int .i64 (i : Int)) (by kernel_rfl) (fun W hW => by kernel_rfl) ?_
              go_frame
              refine q_index (.pointer (some ⟨g, off + i * 2, none⟩)) (by kernel_rfl) rfl (by kernel_rfl) (by kernel_rfl) (sr_index g off S.length kw i hlt) ?_
              go_frame
              refine q_run (.pointer (some ⟨g, off + i * 2 + 1, none⟩)) (by kernel_rfl) (fun W hW => by kernel_rfl) ?_
              go_frame
              refine q_load (.slice so sn sc) (by kernel_rfl) rfl (by kernel_rfl) (fun W hW => ld_samples g (off + i * 2 + 1) so sn sc W (HCell.out W hW).1.2) ?_
              go_frame
              refine q_run (.int .i64 (sn : Int)) (by kernel_rfl) (fun W hW => by kernel_rfl) ?_
              go_frame
              refine q_run (.bool false) (by kernel_rfl) (fun W hW => by go_simp) ?_
              go_frame
              refine q_run (.bool false) (by kernel_rfl) (fun W hW => by kernel_rfl) ?_
              go_frame
              refine q_run (.bool false) (by kernel_rfl) (fun W hW => by kernel_rfl) ?_
              go_frame
              refine q_run (.int .i64 (i : Int)) (by kernel_rfl) (fun W hW => by kernel_rfl) ?_
              go_frame
              refine q_run (.bool false) (by kernel_rfl) (fun W hW => by go_simp; exact HI0.out) ?_
              go_frame
              refine q_run_skip (.bool false) 13 (by kernel_rfl) (fun W hW => by kernel_rfl) (by kernel_rfl) ?_
              simp only [List.drop_succ_cons, List.drop_zero, List.take_succ_cons, List.take_zero, putU]
              go_frame
              refine q_run (.bool false) (by kernel_rfl) (fun W hW => by kernel_rfl) ?_
              go_frame
              refine q_run (.bool false) (by kernel_rfl) (fun W hW => by kernel_rfl) ?_
              go_frame
              refine wpQuiet_nil ?_
              intro w4 hb4
              have HB4 := hid (bel2 HBq.out hb4)
              clear hb4 HCell HRt
              go_wp2_with fail
              go_roundw
              case rel => exact ⟨i + 1, by omega, by go_num, HB4.out⟩
              case measure => simp [intOf]; omega
            · have hg0 : (0 : Int) < (i : Int) := by omega
              obtain ⟨g', off', hao', _, lo1, lc1, so1, sc1, d2, _, hLR1, _⟩ := HR3.out (i - 1) (by omega)
              cases hao'
              have hok1 := HGd.out.ok _ (HD.at_mem S (i - 1) (by omega))
              have hln1 := right_len hok1.1
              have hcm := HD.ord_at HGd.out.ord (i - 1) i (by omega) hlt
              have HCell1 : Hid (∀ W, Below wr.heap.size wr W → W.cell? ⟨g, off + (i - 1) * 2, none⟩ = some (.slice lo1 (atSr S (i - 1)).1.length lc1)) := fun W hW => (hW.cell (p := ⟨g, _, none⟩) hgw).trans ((HBq.out.cell (p := ⟨g, _, none⟩) hgs).trans d2)
              have HCm : Hid (∀ W, Below wr.heap.size wr W → Calls Tryd.prog 14 #[.slice lo1 (atSr S (i - 1)).1.length lc1, .slice lo ln lc] W fun e w' => e = .returned (.int .i64 (-1)) ∧ Below W.heap.size W w') := fun W hW => by
                rw [← hlnE]
                exact (cmp_any lo1 lo (atSr S (i - 1)).1 (atSr S i).1 lc1 lc W ((hLR1.below HBq.out).below hW) ((hLR.below HBq.out).below hW) (by omega) (by omega)).mono fun e w' h => ⟨by rw [h.1, hcm], h.2⟩
              have hip : 0 < i := by omega
              have hw1 : IntKind.i64.wrap ((i : Int) - 1) = (i : Int) - 1 := by rw [IntKind.wrap_i64]; omega
              clear d0 d1 d2 hLR hLR1
              generalize (atSr S (i - 1)).1.length = ln1 at *
              go_wp2_with fail
              refine wp_region_class (fun W => Below wr.heap.size wr W) (by kernel_rfl) (by kernel_rfl) (Below.refl _ wr).drew ?_
              refine q_run (.slice (some ⟨g, off, none⟩) S.length kw) (by kernel_rfl) (fun W hW => by kernel_rfl) ?_
              go_frame
              refine q_run (.int .i64 (i : Int)) (by kernel_rfl) (fun W hW => by kernel_rfl) ?_
              go_frame
              refine q_index (.pointer (some ⟨g, off + i * 2, none⟩)) (by kernel_rfl) rfl (by kernel_rfl) (by kernel_rfl) (sr_index g off S.length kw i hlt) ?_
              go_frame
              refine q_run (.pointer (some ⟨g, off + i * 2 + 1, none⟩)) (by kernel_rfl) (fun W hW => by kernel_rfl) ?_
              go_frame
              refine q_load (.slice so sn sc) (by kernel_rfl) rfl (by kernel_rfl) (fun W hW => ld_samples g (off + i * 2 + 1) so sn sc W (HCell.out W hW).1.2) ?_
              go_frame
              refine q_call (.bool true) (by kernel_rfl) (fun W => by kernel_rfl) (fun W hW => (HRt.out W hW).mono fun e w' h => ⟨h.1, bel2 hW h.2⟩) ?_
              go_frame
              refine q_run (.bool false) (by kernel_rfl) (fun W hW => by kernel_rfl) ?_
              go_frame
              refine q_run (.bool false) (by kernel_rfl) (fun W hW => by kernel_rfl) ?_
              go_frame
              refine q_run (.slice (some ⟨g, off, none⟩) S.length kw) (by kernel_rfl) (fun W hW => by kernel_rfl) ?_
              go_frame
              refine q_run (.int .i64 (i : Int)) (by kernel_rfl) (fun W hW => by kernel_rfl) ?_
              go_frame
              refine q_index (.pointer (some ⟨g, off + i * 2, none⟩)) (by kernel_rfl) rfl (by kernel_rfl) (by kernel_rfl) (sr_index g off S.length kw i hlt) ?_
              go_frame
              refine q_run (.pointer (some ⟨g, off + i * 2 + 1, none⟩)) (by kernel_rfl) (fun W hW => by kernel_rfl) ?_
              go_frame
              refine q_load (.slice so sn sc) (by kernel_rfl) rfl (by kernel_rfl) (fun W hW => ld_samples g (off + i * 2 + 1) so sn sc W (HCell.out W hW).1.2) ?_
              go_frame
              refine q_run (.int .i64 (sn : Int)) (by kernel_rfl) (fun W hW => by kernel_rfl) ?_
              go_frame
              refine q_run (.bool false) (by kernel_rfl) (fun W hW => by go_simp) ?_
              go_frame
              refine q_run (.bool false) (by kernel_rfl) (fun W hW => by kernel_rfl) ?_
              go_frame
              refine q_run (.bool false) (by kernel_rfl) (fun W hW => by kernel_rfl) ?_
              go_frame
              refine q_run (.int .i64 (i : Int)) (by kernel_rfl) (fun W hW => by kernel_rfl) ?_
              go_frame
              refine q_run (.bool true) (by kernel_rfl) (fun W hW => by go_simp) ?_
              go_frame
              refine q_run (.bool true) (by kernel_rfl) (fun W hW => by kernel_rfl) ?_
              go_frame
              refine q_run (.slice (some ⟨g, off, none⟩) S.length kw) (by kernel_rfl) (fun W hW => by kernel_rfl) ?_
              go_frame
              refine q_run (.int .i64 (i : Int)) (by kernel_rfl) (fun W hW => by kernel_rfl) ?_
              go_frame
              refine q_run (.int .i64 ((i : Int) - 1)) (by kernel_rfl) (fun W hW => by go_simp) ?_
              go_frame
              refine q_index (.pointer (some ⟨g, off + (i - 1) * 2, none⟩)) (by kernel_rfl) rfl (by kernel_rfl) (by kernel_rfl) (sr_index1 g off S.length kw i hlt hip) ?_
              go_frame
              refine q_run (.pointer (some ⟨g, off + (i - 1) * 2, none⟩)) (by kernel_rfl) (fun W hW => by kernel_rfl) ?_
              go_frame
              refine q_load (.slice lo1 ln1 lc1) (by kernel_rfl) rfl (by kernel_rfl) (fun W hW => ld_labels g (off + (i - 1) * 2) lo1 ln1 lc1 W (HCell1.out W hW)) ?_
              go_frame
              refine q_run (.slice (some ⟨g, off, none⟩) S.length kw) (by kernel_rfl) (fun W hW => by kernel_rfl) ?_
              go_frame
              refine q_run (.int .i64 (i : Int)) (by kernel_rfl) (fun W hW => by kernel_rfl) ?_
              go_frame
              refine q_index (.pointer (some ⟨g, off + i * 2, none⟩)) (by kernel_rfl) rfl (by kernel_rfl) (by kernel_rfl) (sr_index g off S.length kw i hlt) ?_
              go_frame
              refine q_run (.pointer (some ⟨g, off + i * 2, none⟩)) (by kernel_rfl) (fun W hW => by kernel_rfl) ?_
              go_frame
              refine q_load (.slice lo ln lc) (by kernel_rfl) rfl (by kernel_rfl) (fun W hW => ld_labels g (off + i * 2) lo ln lc W (HCell.out W hW).1.1) ?_
              go_frame
              refine q_call (.int .i64 (-1)) (by kernel_rfl) (fun W => by kernel_rfl) (fun W hW => (HCm.out W hW).mono fun e w' h => ⟨h.1, bel2 hW h.2⟩) ?_
              go_frame
              refine q_run (.bool false) (by kernel_rfl) (fun W hW => by kernel_rfl) ?_
              go_frame
              refine q_run (.bool false) (by kernel_rfl) (fun W hW => by kernel_rfl) ?_
              go_frame
              refine q_run (.bool false) (by kernel_rfl) (fun W hW => by kernel_rfl) ?_
              go_frame
              refine wpQuiet_nil ?_
              intro w4 hb4
              have HB4 := hid (bel2 HBq.out hb4)
              clear hb4 HCell HCell1 HRt HCm
              go_wp2_with fail
              go_roundw
              case rel => exact ⟨i + 1, by omega, by go_num, HB4.out⟩
              case measure => simp [intOf]; omega
          · have he : i = S.length := by omega
            subst he
            go_wp2_with fail
            have HStr := hid (HSt3.out.below HBr.out)
            have HSr := hid (HS3.out.kept (ZFr.below HBr.out))
            refine (cut_any hb Z mark t S wr HStr.out.hd HGd.out).mono ?_
            rintro e w5 ⟨⟨v5, xs5, rfl, hsb5⟩, hd5, hf5⟩
            have HSt5 := hid (HStr.out.step hd5 hf5)
            have HW5 := hid (HSr.out.kept hf5)
            have HGA := hid (HD.kp_good (p := fun _ s => decide (s ≤ t)) HGd.out)
            have HGB := hid (HD.kp_good (p := fun _ s => !decide (s ≤ t)) HGd.out)
            have HJn := hid (HD.jn_parts t S HGd.out.ord HGd.out.ok)
            have HTA := hid (fun i k => kp_time (t := t) (S := S) (i := i) (k := k))
            have HTB := hid (fun i => kp_late (t := t) (S := S) (i := i))
            have ho5 := hsb5.own
            generalize HD.kp (fun _ s => decide (s ≤ t)) S = A at *
            generalize HD.kp (fun _ s => !decide (s ≤ t)) S = B at *
            generalize wid Z wr w5 = Z5 at *
            have HO5 := hid ho5
            obtain ⟨a5, k5, e5⟩ := SrRow.of_own ho5
            have ev5 := e5.1
            subst ev5
            clear hsb5 hd5 hf5 ho5 e5 HStr HSr
            go_wp2_with fail
            refine (series_any hb Z5 (max mark t) B w5 HSt5.out.hd HGB.out).mono ?_
            rintro e w6 ⟨v6, rfl, ho6, hb6⟩
            have HSt6 := hid (HSt5.out.below hb6)
            have HW6 := hid (HW5.out.kept (ZFr.below hb6))
            have HO56 := hid (HO5.out.below hb6)
            have HO6 := hid ho6
            obtain ⟨a6, k6, e6, hr6⟩ := SrRow.of_own ho6
            subst e6
            obtain ⟨a5', k5', e5', hr5⟩ := SrRow.of_own HO56.out
            simp only [Value.slice.injEq, true_and] at e5'
            obtain ⟨rfl, rfl⟩ := e5'
            have HRA := hid hr5
            have HRB := hid hr6
            have hlA := good_len HGA.out
            have hlB := good_len HGB.out
            have HLA := hid hlA.2
            have HLB := hid hlB.2
            have hnA := hlA.1
            have hnB := hlB.1
            clear ho6 hb6 hr5 hr6 HSt5 HW5 HO5 hlA hlB
            go_wp2_with fail
            go_loopw [16] (fun ti wr => ∃ i : Nat, i ≤ A.length ∧ ti = .int .i64 i ∧ wr = w6) (fun ti _ => A.length - (intOf ti).toNat)
            case atStart => exact ⟨0, Nat.zero_le _, rfl, rfl⟩
            case round =>
              obtain ⟨i, hi, rfl, rfl⟩ := hrel
              by_cases hlt : i < A.length
              · obtain ⟨b, off, hao, hbs, lo, lc, so, sc, d0, d1, hLR, hSR⟩ := HRA.out i hlt
                subst hao
                have HSR := hid hSR
                have hsl := (HLA.out i hlt).2.1
                have HTi := hid (fun k => HTA.out i k hlt)
                have hil : 0 ≤ (i : Int) ∧ (i : Int) < (A.length : Int) := by omega
                clear d0 hLR hSR
                generalize hsn : (atSr A i).2 = ys at *
                clear hsn
                go_wp2_with fail
                go_loopw [17] (fun tk wr' => ∃ k : Nat, k ≤ ys.length ∧ tk = .int .i64 k ∧ wr' = wr) (fun tk _ => ys.length - (intOf tk).toNat)
                case atStart => exact ⟨0, Nat.zero_le _, rfl, rfl⟩
                case round =>
                  obtain ⟨k, hk, rfl, hwr⟩ := hrel
                  subst hwr
                  by_cases hkl : k < ys.length
                  · obtain ⟨bs, os, hso, f0, _, _⟩ := HSR.out k hkl
                    subst hso
                    have htm := HTi.out k hkl
                    generalize (CL.at' ys k).1 = tm at *
                    have hkil : 0 ≤ (k : Int) ∧ (k : Int) < (ys.length : Int) := by omega
                    go_wp2_with fail
                    go_roundw
                    case rel => exact ⟨k + 1, by omega, by go_num, trivial⟩
                    case measure => simp [intOf]; omega
                  · have he : k = ys.length := by omega
                    subst he
                    go_wp2_with fail
                    go_roundw
                    case rel => exact ⟨i + 1, by omega, by go_num, trivial⟩
                    case measure => simp [intOf]; omega
              · have he : i = A.length := by omega
                subst he
                go_wp2_with fail
                go_loopw [18] (fun ti wr' => ∃ i : Nat, i ≤ B.length ∧ ti = .int .i64 i ∧ wr' = wr) (fun ti _ => B.length - (intOf ti).toNat)
                case atStart => exact ⟨0, Nat.zero_le _, rfl, rfl⟩
                case round =>
                  obtain ⟨i, hi, rfl, hwr⟩ := hrel
                  subst hwr
                  by_cases hlt : i < B.length
                  · obtain ⟨b, off, hao, hbs, lo, lc, so, sc, d0, d1, hLR, hSR⟩ := HRB.out i hlt
                    subst hao
                    obtain ⟨hp0, hp1⟩ := HTB.out i hlt
                    obtain ⟨bs, os, hso, f0, _, _⟩ := hSR 0 hp0
                    subst hso
                    have f0' : wr.cell? ⟨bs, os, none⟩ = some (.int .i64 (CL.at' (atSr B i).2 0).1) := by simpa using f0
                    have hil : 0 ≤ (i : Int) ∧ (i : Int) < (B.length : Int) := by omega
                    clear d0 hLR hSR f0
                    generalize (CL.at' (atSr B i).2 0).1 = tm at *
                    generalize (atSr B i).2.length = sn at *
                    have hz0 : ((sn : Int) == 0) = false := by simp only [beq_eq_false_iff_ne, ne_eq]; omega
                    have hpi : (0 : Int) < (sn : Int) := by omega
                    go_wp2_with fail
                    go_roundw
                    case rel => exact ⟨i + 1, by omega, by go_num, trivial⟩
                    case measure => simp [intOf]; omega
                  · have he : i = B.length := by omega
                    subst he
                    obtain ⟨c1, c2, c3⟩ := CapOk.of_own HO56.out rfl
                    obtain ⟨c4, c5, c6⟩ := CapOk.of_own HO6.out rfl
                    obtain ⟨aA, kA, eA, hoA⟩ := SrOut.of_own (Z := noZ) HO56.out (fun j hj => hj.elim)
                    obtain ⟨aB, kB, eB, hoB⟩ := SrOut.of_own (Z := noZ) HO6.out (fun j hj => hj.elim)
                    simp only [Value.slice.injEq, true_and] at eA eB
                    obtain ⟨rfl, rfl⟩ := eA
                    obtain ⟨rfl, rfl⟩ := eB
                    have HJ := hid (joined_any a5 a6 A B k5 k6 wr hoA hoB c2 c5 (by omega) c3 c6 (good_few' HGA.out) (good_few' HGB.out) c1 c4)
                    clear c1 c2 c3 c4 c5 c6 hoA hoB
                    go_wp2_with fail
                    refine HJ.out.mono ?_
                    rintro e w7 ⟨v7, rfl, xs7, hrb7⟩
                    rw [HJn.out] at hrb7
                    obtain ⟨a7, k7, e7, hs7⟩ := hrb7.out (fun j hj => hj.elim)
                    subst e7
                    have HSm := hid (sameSrK_any a7 aw S k7 kw w7 hs7.row (HW6.out.kept (ZFr.below hrb7.bel)).row (good_few HGd.out))
                    have HSt7 := hid (HSt6.out.below hrb7.bel)
                    clear hrb7 hs7 HJ
                    go_wp2_with fail
                    refine HSm.out.mono ?_
                    rintro e w8 ⟨rfl, hb8⟩
                    have HSt8 := hid (HSt7.out.below hb8)
                    obtain ⟨vb, hbx⟩ := HSt8.out.box
                    have HBx := hid hbx
                    clear hb8 hbx HSm
                    go_wp2_with fail
                    refine (hmark_any hb (max mark t) vb w8 HBx.out).mono ?_
                    rintro e w9 ⟨rfl, rfl⟩
                    have HEnd := hid (HB1.out.trans (HSt8.out.bel.mono HB1.out.size))
                    by_cases hmt : mark < t
                    · have hmx : max mark t = t := by rw [Int.max_def]; split <;> omega
                      rw [hmx]
                      clear hmx
                      go_wp2_with fail
                      go_ret
                      exact ⟨rfl, HEnd.out⟩
                    · have hmx : max mark t = mark := by rw [Int.max_def]; split <;> omega
                      rw [hmx]
                      clear hmx
                      go_wp2_with fail
                      go_ret
                      exact ⟨rfl, HEnd.out⟩

end Go.Proofs.YtdmnlmohfaafoaeDoor
