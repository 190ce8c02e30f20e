/- The program's parser: words, OF, ONE. -/
import Derived.Test.YtdmnlmohfaafoaeDoorAqSum
namespace Go.Proofs.YtdmnlmohfaafoaeDoor
open Go.RowKit Go.Shelf

theorem words_ix (i : Nat) (hi : i < 9) (w : World) : (Instr.index 204 (.agg #[.string ⟨#[99, 111, 117, 110, 116]⟩, .string ⟨#[115, 117, 109]⟩, .string ⟨#[109, 105, 110]⟩, .string ⟨#[109, 97, 120]⟩, .string ⟨#[100, 101, 108, 116, 97]⟩, .string ⟨#[116, 111, 116, 97, 108]⟩, .string ⟨#[108, 101, 97, 115, 116]⟩, .string ⟨#[109, 111, 115, 116]⟩, .string ⟨#[109, 97, 110, 121]⟩]) (.int .i64 i)).run Tryd.prog w = .ok (.string (AQ.words.getD i ⟨#[]⟩)) w :=
  match i, hi with
  | 0, _ => by kernel_rfl
  | 1, _ => by kernel_rfl
  | 2, _ => by kernel_rfl
  | 3, _ => by kernel_rfl
  | 4, _ => by kernel_rfl
  | 5, _ => by kernel_rfl
  | 6, _ => by kernel_rfl
  | 7, _ => by kernel_rfl
  | 8, _ => by kernel_rfl

theorem code_step (s : ByteArray) (i : Nat) (hi : i < 9) : AQ.codeFrom s (AQ.words.drop i) i = if AQ.words.getD i ⟨#[]⟩ = s then 3 + (i : Int) else AQ.codeFrom s (AQ.words.drop (i + 1)) ((i + 1 : Nat) : Int) :=
  match i, hi with
  | 0, _ => rfl
  | 1, _ => rfl
  | 2, _ => rfl
  | 3, _ => rfl
  | 4, _ => rfl
  | 5, _ => rfl
  | 6, _ => rfl
  | 7, _ => rfl
  | 8, _ => rfl

set_option maxRecDepth 100000 in
theorem code_any (s : ByteArray) (w : World) (h : Gl w) :
    Calls Tryd.prog 159 #[.string s] w fun e w' => e = .returned (.int .i64 (AQ.codeOf s)) ∧ w' = w := by
  have o0 := h.words 0 (by decide)
  have o1 := h.words 1 (by decide)
  have o2 := h.words 2 (by decide)
  have o3 := h.words 3 (by decide)
  have o4 := h.words 4 (by decide)
  have o5 := h.words 5 (by decide)
  have o6 := h.words 6 (by decide)
  have o7 := h.words 7 (by decide)
  have o8 := h.words 8 (by decide)
  simp only [AQ.words, List.getD_cons_zero, List.getD_cons_succ] at o0 o1 o2 o3 o4 o5 o6 o7 o8
  clear h
  go_enter Tryd.func159, Tryd.ntmps159
  go_wp2_with fail
  go_loopw [6, 3, 4] (fun ti _ _ wr => wr = w ∧ ∃ i : Nat, i ≤ 9 ∧ ti = .int .i64 i ∧ AQ.codeOf s = AQ.codeFrom s (AQ.words.drop i) i) (fun ti _ _ _ => 9 - (intOf ti).toNat)
  case atStart => exact ⟨rfl, 0, by omega, rfl, rfl⟩
  case round =>
    obtain ⟨rfl, i, hi, rfl, heq⟩ := hrel
    have HEq := hid heq
    clear heq
    by_cases hlt : i < 9
    · have hix := words_ix i hlt
      have HSt := hid (code_step s i hlt)
      have hil : 0 ≤ (i : Int) ∧ (i : Int) < 9 := by omega
      have hw3 : IntKind.i64.wrap (3 + (i : Int)) = 3 + (i : Int) := by rw [IntKind.wrap_i64]; omega
      generalize AQ.words.getD i ⟨#[]⟩ = ox at *
      rcases hs : (ox.toList == s.toList) with _ | _
      · have HR := hid (show AQ.codeOf s = AQ.codeFrom s (AQ.words.drop (i + 1)) ((i + 1 : Nat) : Int) by rw [HEq.out, HSt.out, if_neg (by rw [LB.beq_eq] at hs; simpa using hs)])
        go_wp2_with fail
        go_roundw
        case rel => exact ⟨by trivial, i + 1, by omega, by go_num, HR.out⟩
        case measure => simp [intOf]; omega
      · have HR := hid (show AQ.codeOf s = 3 + (i : Int) by rw [HEq.out, HSt.out, if_pos (by rw [LB.beq_eq] at hs; simpa using hs)])
        go_wp2_with fail
        go_ret
        exact ⟨by rw [HR.out]; rfl, rfl⟩
    · have he : i = 9 := by omega
      have HR := hid (show AQ.codeOf s = 0 by rw [HEq.out, he]; rfl)
      have hil : ¬ (i : Int) < 9 := by omega
      clear he
      go_wp2_with fail
      go_ret
      exact ⟨by rw [HR.out]; rfl, rfl⟩

set_option maxRecDepth 100000 in
set_option maxHeartbeats 1600000 in
theorem pof_any {bt : Nat} (bp : Nat) (c n : Int) (S : List AQ.Tok → AQ.Res AQ.Q) (hn : 0 ≤ n ∧ n ≤ 8) (hS : QK 66 bp bt (n + 1) S) (hgo : ∀ l q r, AQ.FitL l → S l = .ok q r → AQ.Goes l r) (l : List AQ.Tok) (w : World) (h : Pr w bp bt l) (hf : AQ.FitL l) :
    Calls Tryd.prog 161 #[.pointer (some ⟨bp, 0, none⟩), .int .i64 c, .int .i64 n] w fun e w' => PEnd VQ w w' bp bt e (AQ.ofR S c l) := by
  have HP := hid h
  have HF := hid hf
  have HS := hid hS
  have HGo := hid hgo
  have hw1 : IntKind.i64.wrap (n + 1) = n + 1 := by rw [IntKind.wrap_i64]; omega
  clear h hf hS hgo
  go_enter Tryd.func161, Tryd.ntmps161
  go_wp2_with fail
  refine (needK_any bp l 0 (by decide) w HP.out).mono ?_
  intro e w1 hE
  rcases hR : AQ.needK 0 l with ⟨t, r1⟩ | ⟨x, p⟩
  rotate_left
  · have HR := hid (show AQ.ofR S c l = .bad x p by unfold AQ.ofR; rw [hR]; rfl)
    have hT := hE.bad x p hR
    have HT := hid hT
    obtain ⟨B, rfl, _, _⟩ := hT
    clear hR hE
    go_wp2_with fail
    exact ⟨rfl, PEnd.mkBad HR.out HT.out⟩
  obtain ⟨v, rfl, rfl, hp1, ho1⟩ := hE.ok t r1 hR
  have HE1 := hid (show AQ.ofR S c l = (AQ.need ⟨#[40]⟩ r1).andThen fun _ r2 => (S r2).andThen fun q r3 => (AQ.need ⟨#[41]⟩ r3).andThen fun _ r4 => if AQ.has ⟨#[98, 121]⟩ r4 then (AQ.namesR r4.tail).andThen fun nm r5 => .ok (.mk c 0 [] 0 nm q .none) r5 else .ok (.mk c 0 [] 0 [] q .none) r4 by unfold AQ.ofR; rw [hR]; rfl)
  have HF1 := hid (HF.out.go (AQ.needK_inv (by decide) hR).2.1)
  have HP1 := hid hp1
  have HO1 := hid ho1
  clear hE hR hp1 ho1 HP HF
  go_wp2_with fail
  refine (need_any bp r1 ⟨#[40]⟩ (by decide) w1 HP1.out).mono ?_
  intro e w2 hE
  rcases hR : AQ.need ⟨#[40]⟩ r1 with ⟨u, r2⟩ | ⟨x, p⟩
  rotate_left
  · have HR := hid (show AQ.ofR S c l = .bad x p by rw [HE1.out, hR]; rfl)
    have hT := (hE.bad x p hR).from HO1.out
    have HT := hid hT
    obtain ⟨B, rfl, _, _⟩ := hT
    clear hR hE
    go_wp2_with fail
    exact ⟨rfl, PEnd.mkBad HR.out HT.out⟩
  obtain ⟨v, rfl, rfl, hp2, ho2⟩ := hE.ok u r2 hR
  have HE2 := hid (show AQ.ofR S c l = (S r2).andThen fun q r3 => (AQ.need ⟨#[41]⟩ r3).andThen fun _ r4 => if AQ.has ⟨#[98, 121]⟩ r4 then (AQ.namesR r4.tail).andThen fun nm r5 => .ok (.mk c 0 [] 0 nm q .none) r5 else .ok (.mk c 0 [] 0 [] q .none) r4 by rw [HE1.out, hR]; rfl)
  have HF2 := hid (HF1.out.go (AQ.need_inv (by decide) hR).1)
  have HP2 := hid hp2
  have HO2 := hid (HO1.out.trans ho2)
  clear hE hR hp2 ho2 HP1 HF1 HO1 HE1
  go_wp2_with fail
  refine (HS.out w2 r2 HP2.out HF2.out).mono ?_
  intro e w3 hE
  rcases hR : S r2 with ⟨q, r3⟩ | ⟨x, p⟩
  rotate_left
  · have HR := hid (show AQ.ofR S c l = .bad x p by rw [HE2.out, hR]; rfl)
    have hT := (hE.bad x p hR).from HO2.out
    have HT := hid hT
    obtain ⟨B, rfl, _, _⟩ := hT
    clear hR hE
    go_wp2_with fail
    exact ⟨rfl, PEnd.mkBad HR.out HT.out⟩
  obtain ⟨v, rfl, hv, hp3, ho3⟩ := hE.ok q r3 hR
  obtain ⟨a3, ea3⟩ := hv.ptr
  subst ea3
  have HE3 := hid (show AQ.ofR S c l = (AQ.need ⟨#[41]⟩ r3).andThen fun _ r4 => if AQ.has ⟨#[98, 121]⟩ r4 then (AQ.namesR r4.tail).andThen fun nm r5 => .ok (.mk c 0 [] 0 nm q .none) r5 else .ok (.mk c 0 [] 0 [] q .none) r4 by rw [HE2.out, hR]; rfl)
  have HF3 := hid (HF2.out.go (HGo.out r2 q r3 HF2.out hR))
  have hal : Below w3.heap.size w3 (w3.alloc (.cells #[.int .i64 c, .int .i64 0, .slice none 0 0, .int .i64 0, .slice none 0 0, .pointer a3, .pointer none] 112)) := (Below.refl _ w3).alloc (Nat.le_refl _) _
  have HV3 := hid hv
  have HP3 := hid hp3
  have HO3 := hid (HO2.out.trans ho3)
  have HP4 := hid (hp3.below hal)
  have HO4 := hid (Own1.of (br := bp) hal)
  have HX4 := hid (heap_alloc_new w3 (.cells #[.int .i64 c, .int .i64 0, .slice none 0 0, .int .i64 0, .slice none 0 0, .pointer a3, .pointer none] 112))
  have HNb : Hid (w3.heap.size ≠ bp ∧ w3.heap.size ≠ bt ∧ 12 ≤ w3.heap.size ∧ w.heap.size ≤ w3.heap.size) := by
    have h1 := hp3.low
    have h2 := hp3.gl.size
    have h3 := HO3.out.size
    exact ⟨by omega, by omega, h2, h3⟩
  clear hE hR hp3 ho3 hv hal HP2 HF2 HO2 HE2
  go_upto_region 4 with fail
  generalize w3.alloc (.cells #[.int .i64 c, .int .i64 0, .slice none 0 0, .int .i64 0, .slice none 0 0, .pointer a3, .pointer none] 112) = w4 at *
  obtain ⟨B, hB⟩ : ∃ B, B = w3.heap.size := ⟨_, rfl⟩
  have HB := hid hB
  rw [← hB] at HX4 HNb ⊢
  clear hB
  go_wp2_with fail
  refine (need_any bp r3 ⟨#[41]⟩ (by decide) w4 HP4.out).mono ?_
  intro e w5 hE
  rcases hR : AQ.need ⟨#[41]⟩ r3 with ⟨u, r5⟩ | ⟨x, p⟩
  rotate_left
  · have HR := hid (show AQ.ofR S c l = .bad x p by rw [HE3.out, hR]; rfl)
    have hT := (hE.bad x p hR).from (HO3.out.trans HO4.out)
    have HT := hid hT
    obtain ⟨B, rfl, _, _⟩ := hT
    clear hR hE
    go_wp2_with fail
    exact ⟨rfl, PEnd.mkBad HR.out HT.out⟩
  obtain ⟨v, rfl, rfl, hp5, ho5⟩ := hE.ok u r5 hR
  have HE5 := hid (show AQ.ofR S c l = if AQ.has ⟨#[98, 121]⟩ r5 then (AQ.namesR r5.tail).andThen fun nm r5 => .ok (.mk c 0 [] 0 nm q .none) r5 else .ok (.mk c 0 [] 0 [] q .none) r5 by rw [HE3.out, hR]; rfl)
  have HF5 := hid (HF3.out.go (AQ.need_inv (by decide) hR).1)
  have HP5 := hid hp5
  have HO5 := hid (HO4.out.trans ho5)
  have HX5 := hid (ho5.block HX4.out HNb.out.1)
  clear hE hR hp5 ho5 HF3 HE3 HP4 HO4 HX4
  go_wp2_with fail
  refine (take_any bp r5 ⟨#[98, 121]⟩ (by decide) w5 HP5.out).mono ?_
  rintro e w6 ⟨rfl, hj6, ho6⟩
  have HO6 := hid (HO5.out.trans ho6)
  have HX6 := hid (ho6.block HX5.out HNb.out.1)
  rcases hs : AQ.has ⟨#[98, 121]⟩ r5 with _ | _
  · have HR := hid (show AQ.ofR S c l = .ok (.mk c 0 [] 0 [] q .none) r5 by rw [HE5.out, hs]; rfl)
    have hj := (show Pr w6 bp bt r5 by unfold tookL at hj6; rw [hs] at hj6; exact hj6)
    have HP6 := hid hj
    clear hs hj6 ho6 hj
    go_wp2_with fail
    go_ret
    exact PEnd.mkOk HR.out ⟨B, _, _, _, _, rfl, HX6.out, ownM_nil w6, ownX_nil w6, HV3.out.own HP3.out HO6.out, rfl⟩ HP6.out (HO3.out.trans HO6.out)
  · have HE6 := hid (show AQ.ofR S c l = (AQ.namesR r5.tail).andThen fun nm r5 => .ok (.mk c 0 [] 0 nm q .none) r5 by rw [HE5.out, hs]; rfl)
    have hj := (show Pr w6 bp bt r5.tail by unfold tookL at hj6; rw [hs] at hj6; exact hj6)
    have HP6 := hid hj
    have HF6 := hid (HF5.out.go (AQ.has_goes (x := ⟨#[98, 121]⟩) (by decide) hs).1)
    clear hs hj6 ho6 hj HX5 HO5 HP5 HE5
    go_wp2_with fail
    refine (pnames_any bp r5.tail w6 HP6.out HF6.out).mono ?_
    intro e w7 hE
    rcases hR : AQ.namesR r5.tail with ⟨nm, r7⟩ | ⟨x, p⟩
    rotate_left
    · have HR := hid (show AQ.ofR S c l = .bad x p by rw [HE6.out, hR]; rfl)
      have hT := (hE.bad x p hR).from (HO3.out.trans HO6.out)
      have HT := hid hT
      obtain ⟨B, rfl, _, _⟩ := hT
      clear hR hE
      go_wp2_with fail
      exact ⟨rfl, PEnd.mkBad HR.out HT.out⟩
    obtain ⟨v, rfl, hv7, hp7, ho7⟩ := hE.ok nm r7 hR
    obtain ⟨va, vc, ev⟩ := kown_slice hv7
    subst ev
    have HR := hid (show AQ.ofR S c l = .ok (.mk c 0 [] 0 nm q .none) r7 by rw [HE6.out, hR]; rfl)
    have hx7 := ho7.block HX6.out HNb.out.1
    have x4 := kcell _ _ _ _ hx7 4 _ rfl
    have f4 := kfz hx7 4
    have HX8 := hid (heap_setCell_same w7 B 4 _ _ (.slice va nm.length vc) hx7)
    have HP8 := hid (hp7.put HNb.out.1 HNb.out.2.1 HNb.out.2.2.1 4 (.slice va nm.length vc))
    have HO8 := hid ((HO6.out.trans ho7).put (B := B) (by rw [HB.out]; exact Nat.le_refl _) 4 (.slice va nm.length vc))
    have HN8 : Hid (OwnX (w7.setCell ⟨B, 4, none⟩ (.slice va nm.length vc)) 0 (.slice va nm.length vc) nm) := krow_kept hv7 fun g c hg => Below.heap_setCell w7 ⟨B, 4, none⟩ _ g (fun e => by
      simp only at e
      subst e
      rw [hx7] at hg
      simp only [Option.some.injEq, Obj.cells.injEq] at hg
      exact absurd hg.2.1 (by decide))
    clear hE hR hv7 hp7 ho7 hx7 HX6 HO6 HP6 HE6
    go_wp2_with fail
    go_ret
    exact PEnd.mkOk HR.out ⟨B, _, _, _, _, rfl, HX8.out, ownM_nil _, HN8.out, HV3.out.own HP3.out HO8.out, rfl⟩ HP8.out (HO3.out.trans HO8.out)

theorem one_neg {d : Nat} {l : List AQ.Tok} (h : AQ.has ⟨#[45]⟩ l = true) : AQ.oneR (d + 1) l = (AQ.oneR d l.tail).andThen fun q r => .ok (.mk 12 0 [] 0 [] q .none) r := by
  conv => lhs; unfold AQ.oneR
  rw [if_pos h]
theorem one_par {d : Nat} {l : List AQ.Tok} (h1 : AQ.has ⟨#[45]⟩ l = false) (h : AQ.has ⟨#[40]⟩ l = true) : AQ.oneR (d + 1) l = (AQ.sumR (AQ.oneR d) l.tail).andThen fun q r => (AQ.need ⟨#[41]⟩ r).andThen fun _ r' => .ok q r' := by
  conv => lhs; unfold AQ.oneR
  rw [if_neg (by rw [h1]; decide), if_pos h]
theorem one_pick {d : Nat} {l : List AQ.Tok} (h1 : AQ.has ⟨#[45]⟩ l = false) (h2 : AQ.has ⟨#[40]⟩ l = false) (h : AQ.has ⟨#[123]⟩ l = true) : AQ.oneR (d + 1) l = (AQ.someR l).andThen fun m r => .ok (.mk 2 0 m 300 [] .none .none) r := by
  conv => lhs; unfold AQ.oneR
  rw [if_neg (by rw [h1]; decide), if_neg (by rw [h2]; decide), if_pos h]
theorem one_num {d : Nat} {l : List AQ.Tok} (h1 : AQ.has ⟨#[45]⟩ l = false) (h2 : AQ.has ⟨#[40]⟩ l = false) (h3 : AQ.has ⟨#[123]⟩ l = false) (h : (AQ.hd l).kind = 1) : AQ.oneR (d + 1) l = (AQ.numR l).andThen fun n r => .ok (.mk 1 n [] 0 [] .none .none) r := by
  conv => lhs; unfold AQ.oneR
  rw [if_neg (by rw [h1]; decide), if_neg (by rw [h2]; decide), if_neg (by rw [h3]; decide), if_pos h]
theorem one_rest {d : Nat} {l : List AQ.Tok} (h1 : AQ.has ⟨#[45]⟩ l = false) (h2 : AQ.has ⟨#[40]⟩ l = false) (h3 : AQ.has ⟨#[123]⟩ l = false) (h : ¬ (AQ.hd l).kind = 1) : AQ.oneR (d + 1) l = if 3 ≤ AQ.codeOf (AQ.hd l).said ∧ AQ.codeOf (AQ.hd l).said ≤ 7 then AQ.overR (AQ.codeOf (AQ.hd l).said) l else if 8 ≤ AQ.codeOf (AQ.hd l).said ∧ AQ.codeOf (AQ.hd l).said ≤ 11 then AQ.ofR (AQ.sumR (AQ.oneR d)) (AQ.codeOf (AQ.hd l).said) l else .bad 3 (AQ.hd l).place := by
  conv => lhs; unfold AQ.oneR
  rw [if_neg (by rw [h1]; decide), if_neg (by rw [h2]; decide), if_neg (by rw [h3]; decide), if_neg h]

theorem brace_list : (⟨#[123]⟩ : ByteArray).toList = [123] := by rw [Lib.toList_data]

set_option maxRecDepth 100000 in
/-- Beyond the last depth. -/
theorem pone_zero {bt : Nat} (bp : Nat) (n : Int) (hn : 8 < n) : QK 131 bp bt n (AQ.oneR 0) := by
  intro w l h hf
  have HP := hid h
  have HE : Hid (AQ.oneR 0 l = .bad 4 (AQ.hd l).place) := rfl
  clear h hf
  go_enter Tryd.func131, Tryd.ntmps131
  go_wp2_with fail
  refine (here_any bp l w HP.out).mono ?_
  rintro e w1 ⟨rfl, hb1⟩
  have hal : Below w1.heap.size w1 (w1.alloc (.cells #[.int .i64 (AQ.hd l).kind, .string (AQ.hd l).said, .int .i64 (AQ.hd l).place] 166)) := (Below.refl _ w1).alloc (Nat.le_refl _) _
  have HO2 := hid ((Own1.of (br := bp) hb1).trans (Own1.of (br := bp) hal))
  have HX2 := hid (heap_alloc_new w1 (.cells #[.int .i64 (AQ.hd l).kind, .string (AQ.hd l).said, .int .i64 (AQ.hd l).place] 166))
  clear hb1 hal HP
  go_upto_region 2 with fail
  generalize w1.alloc (.cells #[.int .i64 (AQ.hd l).kind, .string (AQ.hd l).said, .int .i64 (AQ.hd l).place] 166) = w2 at *
  generalize w1.heap.size = bx at *
  have x2 := kcell _ _ _ _ HX2.out 2 _ rfl
  go_wp2_with fail
  refine (wrong_any 4 (AQ.hd l).place w2).mono ?_
  rintro e w3 ⟨rfl, rfl⟩
  go_wp2_with fail
  exact ⟨rfl, PEnd.mkBad HE.out ⟨_, rfl, heap_alloc_new w2 _, HO2.out.trans (Own1.of ((Below.refl _ w2).alloc (Nat.le_refl _) _))⟩⟩

set_option maxRecDepth 100000 in
set_option maxHeartbeats 3200000 in
theorem pone_succ {bt : Nat} (bp d : Nat) (n : Int) (hn : 0 ≤ n ∧ n ≤ 8) (ih : QK 131 bp bt (n + 1) (AQ.oneR d)) : QK 131 bp bt n (AQ.oneR (d + 1)) := by
  intro w l h hf
  have hgo1 : ∀ l q r, AQ.FitL l → AQ.oneR d l = .ok q r → AQ.Goes l r := fun l q r hl he => (AQ.oneR_inv d l q r hl he).goes
  have hgoP : ∀ l q r, AQ.FitL l → AQ.prodR (AQ.oneR d) l = .ok q r → AQ.Goes l r := fun l q r hl he => (AQ.prodR_inv (AQ.oneR_inv d) hl he).goes
  have hgoS : ∀ l q r, AQ.FitL l → AQ.sumR (AQ.oneR d) l = .ok q r → AQ.Goes l r := fun l q r hl he => (AQ.sumR_inv (AQ.oneR_inv d) hl he).goes
  have HSum := hid (psum_any bp (n + 1) (AQ.oneR d) (pprod_any bp (n + 1) (AQ.oneR d) ih hgo1) hgoP)
  have HOf := hid (fun c => pof_any bp c n (AQ.sumR (AQ.oneR d)) hn HSum.out hgoS)
  have HGoS := hid hgoS
  have HIh := hid ih
  have HP := hid h
  have HF := hid hf
  have hw1 : IntKind.i64.wrap (n + 1) = n + 1 := by rw [IntKind.wrap_i64]; omega
  have hn8 : ¬ 8 < n := by omega
  clear h hf ih hgo1 hgoP hgoS
  go_enter Tryd.func131, Tryd.ntmps131
  go_wp2_with fail
  refine (here_any bp l w HP.out).mono ?_
  rintro e w1 ⟨rfl, hb1⟩
  have hal : Below w1.heap.size w1 (w1.alloc (.cells #[.int .i64 (AQ.hd l).kind, .string (AQ.hd l).said, .int .i64 (AQ.hd l).place] 166)) := (Below.refl _ w1).alloc (Nat.le_refl _) _
  have HP2 := hid ((HP.out.below hb1).below hal)
  have HO2 := hid ((Own1.of (br := bp) hb1).trans (Own1.of (br := bp) hal))
  have HX2 := hid (heap_alloc_new w1 (.cells #[.int .i64 (AQ.hd l).kind, .string (AQ.hd l).said, .int .i64 (AQ.hd l).place] 166))
  have HNb : Hid (w1.heap.size ≠ bp) := by have := (HP.out.below hb1).low.1; show _ ≠ _; omega
  clear hb1 hal HP
  go_upto_region 2 with fail
  generalize w1.alloc (.cells #[.int .i64 (AQ.hd l).kind, .string (AQ.hd l).said, .int .i64 (AQ.hd l).place] 166) = w2 at *
  generalize w1.heap.size = bx at *
  go_wp2_with fail
  refine (take_any bp l ⟨#[45]⟩ (by decide) w2 HP2.out).mono ?_
  rintro e w3 ⟨rfl, hj3, ho3⟩
  have HO3 := hid (HO2.out.trans ho3)
  have HX3 := hid (ho3.block HX2.out HNb.out)
  rcases hs : AQ.has ⟨#[45]⟩ l with _ | _
  rotate_left
  · have HE := hid (one_neg (d := d) hs)
    have hj := (show Pr w3 bp bt l.tail by unfold tookL at hj3; rw [hs] at hj3; exact hj3)
    have HP3 := hid hj
    have HF3 := hid (HF.out.go (AQ.has_goes (x := ⟨#[45]⟩) (by decide) hs).1)
    clear hs hj hj3 ho3
    go_wp2_with fail
    refine (HIh.out w3 l.tail HP3.out HF3.out).mono ?_
    intro e w4 hE
    rcases hR : AQ.oneR d l.tail with ⟨q, r⟩ | ⟨x, p⟩
    rotate_left
    · have HR := hid (show AQ.oneR (d + 1) l = .bad x p by rw [HE.out, hR]; rfl)
      have hT := (hE.bad x p hR).from HO3.out
      have HT := hid hT
      obtain ⟨B, rfl, _, _⟩ := hT
      clear hR hE
      go_wp2_with fail
      exact ⟨rfl, PEnd.mkBad HR.out HT.out⟩
    obtain ⟨v, rfl, hv, hp4, ho4⟩ := hE.ok q r hR
    obtain ⟨a4, ea4⟩ := hv.ptr
    subst ea4
    have HR := hid (show AQ.oneR (d + 1) l = .ok (.mk 12 0 [] 0 [] q .none) r by rw [HE.out, hR]; rfl)
    have hal : Below w4.heap.size w4 (w4.alloc (.cells #[.int .i64 12, .int .i64 0, .slice none 0 0, .int .i64 0, .slice none 0 0, .pointer a4, .pointer none] 112)) := (Below.refl _ w4).alloc (Nat.le_refl _) _
    have HA := hid (ask_new (w := w4) 12 0 0 (ownM_nil w4) (ownX_nil w4) hv (ask_none w4))
    have HP5 := hid (hp4.below hal)
    have HO5 := hid ((HO3.out.trans ho4).trans (Own1.of (br := bp) hal))
    clear hE hR hv hp4 ho4 hal
    go_wp2_with fail
    go_ret
    exact PEnd.mkOk HR.out HA.out HP5.out HO5.out
  have H1 := hid hs
  have HP3 := hid (show Pr w3 bp bt l by unfold tookL at hj3; rw [hs] at hj3; exact hj3)
  clear hs hj3 ho3 HP2 HO2 HX2
  go_wp2_with fail
  refine (take_any bp l ⟨#[40]⟩ (by decide) w3 HP3.out).mono ?_
  rintro e w4 ⟨rfl, hj4, ho4⟩
  have HO4 := hid (HO3.out.trans ho4)
  have HX4 := hid (ho4.block HX3.out HNb.out)
  rcases hs : AQ.has ⟨#[40]⟩ l with _ | _
  rotate_left
  · have HE := hid (one_par (d := d) H1.out hs)
    have hj := (show Pr w4 bp bt l.tail by unfold tookL at hj4; rw [hs] at hj4; exact hj4)
    have HP4 := hid hj
    have HF4 := hid (HF.out.go (AQ.has_goes (x := ⟨#[40]⟩) (by decide) hs).1)
    clear hs hj hj4 ho4
    go_wp2_with fail
    refine (HSum.out w4 l.tail HP4.out HF4.out).mono ?_
    intro e w5 hE
    rcases hR : AQ.sumR (AQ.oneR d) l.tail with ⟨q, r⟩ | ⟨x, p⟩
    rotate_left
    · have HR := hid (show AQ.oneR (d + 1) l = .bad x p by rw [HE.out, hR]; rfl)
      have hT := (hE.bad x p hR).from HO4.out
      have HT := hid hT
      obtain ⟨B, rfl, _, _⟩ := hT
      clear hR hE
      go_wp2_with fail
      exact ⟨rfl, PEnd.mkBad HR.out HT.out⟩
    obtain ⟨v, rfl, hv, hp5, ho5⟩ := hE.ok q r hR
    obtain ⟨a5, ea5⟩ := hv.ptr
    subst ea5
    have HE5 := hid (show AQ.oneR (d + 1) l = (AQ.need ⟨#[41]⟩ r).andThen fun _ r' => .ok q r' by rw [HE.out, hR]; rfl)
    have HV5 := hid hv
    have HP5 := hid hp5
    have HO5 := hid (HO4.out.trans ho5)
    clear hE hR hv hp5 ho5
    go_wp2_with fail
    refine (need_any bp r ⟨#[41]⟩ (by decide) w5 HP5.out).mono ?_
    intro e w6 hE
    rcases hR : AQ.need ⟨#[41]⟩ r with ⟨u, r6⟩ | ⟨x, p⟩
    rotate_left
    · have HR := hid (show AQ.oneR (d + 1) l = .bad x p by rw [HE5.out, hR]; rfl)
      have hT := (hE.bad x p hR).from HO5.out
      have HT := hid hT
      obtain ⟨B, rfl, _, _⟩ := hT
      clear hR hE
      go_wp2_with fail
      exact ⟨rfl, PEnd.mkBad HR.out HT.out⟩
    obtain ⟨v, rfl, rfl, hp6, ho6⟩ := hE.ok u r6 hR
    have HR := hid (show AQ.oneR (d + 1) l = .ok q r6 by rw [HE5.out, hR]; rfl)
    have HV6 := hid (HV5.out.own HP5.out ho6)
    have HP6 := hid hp6
    have HO6 := hid (HO5.out.trans ho6)
    clear hE hR hp6 ho6
    go_wp2_with fail
    go_ret
    exact PEnd.mkOk HR.out HV6.out HP6.out HO6.out
  have H2 := hid hs
  have HP4 := hid (show Pr w4 bp bt l by unfold tookL at hj4; rw [hs] at hj4; exact hj4)
  have z0 := kcell _ _ _ _ HX4.out 0 _ rfl
  have z1 := kcell _ _ _ _ HX4.out 1 _ rfl
  have z2 := kcell _ _ _ _ HX4.out 2 _ rfl
  clear hs hj4 ho4 HP3 HO3 HX3
  rcases hs : AQ.has ⟨#[123]⟩ l with _ | _
  rotate_left
  · have hb : ((AQ.hd l).said.toList == [123]) = true := by rw [← brace_list, LB.beq_eq]; exact hs
    have HE := hid (one_pick (d := d) H1.out H2.out hs)
    clear hs
    go_wp2_with fail
    refine (psome_any bp l w4 HP4.out HF.out).mono ?_
    intro e w5 hE
    rcases hR : AQ.someR l with ⟨m, r⟩ | ⟨x, p⟩
    rotate_left
    · have HR := hid (show AQ.oneR (d + 1) l = .bad x p by rw [HE.out, hR]; rfl)
      have hT := (hE.bad x p hR).from HO4.out
      have HT := hid hT
      obtain ⟨B, rfl, _, _⟩ := hT
      clear hR hE
      go_wp2_with fail
      exact ⟨rfl, PEnd.mkBad HR.out HT.out⟩
    obtain ⟨v, rfl, hv, hp5, ho5⟩ := hE.ok m r hR
    obtain ⟨va, vc, ev⟩ := kown_slice hv
    subst ev
    have HR := hid (show AQ.oneR (d + 1) l = .ok (.mk 2 0 m 300 [] .none .none) r by rw [HE.out, hR]; rfl)
    have hal : Below w5.heap.size w5 (w5.alloc (.cells #[.int .i64 2, .int .i64 0, .slice va m.length vc, .int .i64 300, .slice none 0 0, .pointer none, .pointer none] 112)) := (Below.refl _ w5).alloc (Nat.le_refl _) _
    have HA := hid (ask_new (w := w5) 2 0 300 hv (ownX_nil w5) (ask_none w5) (ask_none w5))
    have HP6 := hid (hp5.below hal)
    have HO6 := hid ((HO4.out.trans ho5).trans (Own1.of (br := bp) hal))
    clear hE hR hv hp5 ho5 hal
    go_wp2_with fail
    go_ret
    exact PEnd.mkOk HR.out HA.out HP6.out HO6.out
  have hb : ((AQ.hd l).said.toList == [123]) = false := by rw [← brace_list, LB.beq_eq]; exact hs
  have H3 := hid hs
  clear hs
  by_cases hk : (AQ.hd l).kind = 1
  · have hk1 : ((AQ.hd l).kind == 1) = true := by rw [hk]; rfl
    have HE := hid (one_num (d := d) H1.out H2.out H3.out hk)
    clear hk
    go_wp2_with fail
    refine (pnum_any bp l w4 HP4.out HF.out).mono ?_
    intro e w5 hE
    rcases hR : AQ.numR l with ⟨m, r⟩ | ⟨x, p⟩
    rotate_left
    · have HR := hid (show AQ.oneR (d + 1) l = .bad x p by rw [HE.out, hR]; rfl)
      have hT := (hE.bad x p hR).from HO4.out
      have HT := hid hT
      obtain ⟨B, rfl, _, _⟩ := hT
      clear hR hE
      go_wp2_with fail
      exact ⟨rfl, PEnd.mkBad HR.out HT.out⟩
    obtain ⟨v, rfl, rfl, hp5, ho5⟩ := hE.ok m r hR
    have HR := hid (show AQ.oneR (d + 1) l = .ok (.mk 1 m [] 0 [] .none .none) r by rw [HE.out, hR]; rfl)
    have hal : Below w5.heap.size w5 (w5.alloc (.cells #[.int .i64 1, .int .i64 m, .slice none 0 0, .int .i64 0, .slice none 0 0, .pointer none, .pointer none] 112)) := (Below.refl _ w5).alloc (Nat.le_refl _) _
    have HA := hid (ask_new (w := w5) 1 m 0 (ownM_nil w5) (ownX_nil w5) (ask_none w5) (ask_none w5))
    have HP6 := hid (hp5.below hal)
    have HO6 := hid ((HO4.out.trans ho5).trans (Own1.of (br := bp) hal))
    clear hE hR hp5 ho5 hal
    go_wp2_with fail
    go_ret
    exact PEnd.mkOk HR.out HA.out HP6.out HO6.out
  have hk1 : ((AQ.hd l).kind == 1) = false := by simpa using hk
  have HE := hid (one_rest (d := d) H1.out H2.out H3.out hk)
  have HC := hid (code_any (AQ.hd l).said w4 HP4.out.gl)
  generalize AQ.codeOf (AQ.hd l).said = c at *
  clear hk
  go_wp2_with fail
  refine HC.out.mono ?_
  rintro e w5 ⟨rfl, rfl⟩
  clear HC
  by_cases ho : 3 ≤ c ∧ c ≤ 7
  · have HR := hid (show AQ.oneR (d + 1) l = AQ.overR c l by rw [HE.out, if_pos ho])
    have c1 : 3 ≤ c := ho.1
    have c2 : c ≤ 7 := ho.2
    clear ho
    go_wp2_with fail
    refine (pover_any bp c w5 l HP4.out HF.out).mono ?_
    intro e w6 hE
    rcases hR : AQ.overR c l with ⟨q, r⟩ | ⟨x, p⟩
    · obtain ⟨v, rfl, hv, hp6, ho6⟩ := hE.ok q r hR
      obtain ⟨a6, ea6⟩ := hv.ptr
      subst ea6
      have HR2 := hid (show AQ.oneR (d + 1) l = .ok q r by rw [HR.out, hR])
      have HK := hid (And.intro hv (And.intro hp6 (HO4.out.trans ho6)))
      clear hE hR hv hp6 ho6
      go_wp2_with fail
      go_ret
      exact PEnd.mkOk HR2.out HK.out.1 HK.out.2.1 HK.out.2.2
    · have HR2 := hid (show AQ.oneR (d + 1) l = .bad x p by rw [HR.out, hR])
      have hT := (hE.bad x p hR).from HO4.out
      have HT := hid hT
      obtain ⟨B, rfl, _, _⟩ := hT
      clear hR hE
      go_wp2_with fail
      exact ⟨rfl, PEnd.mkBad HR2.out HT.out⟩
  by_cases ho2 : 8 ≤ c ∧ c ≤ 11
  · have HR := hid (show AQ.oneR (d + 1) l = AQ.ofR (AQ.sumR (AQ.oneR d)) c l by rw [HE.out, if_neg ho, if_pos ho2])
    have c1 : 3 ≤ c := by omega
    have c2 : ¬ c ≤ 7 := by omega
    have c3 : 8 ≤ c := ho2.1
    have c4 : c ≤ 11 := ho2.2
    clear ho ho2
    go_wp2_with fail
    refine (HOf.out c l w5 HP4.out HF.out).mono ?_
    intro e w6 hE
    rcases hR : AQ.ofR (AQ.sumR (AQ.oneR d)) c l with ⟨q, r⟩ | ⟨x, p⟩
    · obtain ⟨v, rfl, hv, hp6, ho6⟩ := hE.ok q r hR
      obtain ⟨a6, ea6⟩ := hv.ptr
      subst ea6
      have HR2 := hid (show AQ.oneR (d + 1) l = .ok q r by rw [HR.out, hR])
      have HK := hid (And.intro hv (And.intro hp6 (HO4.out.trans ho6)))
      clear hE hR hv hp6 ho6
      go_wp2_with fail
      go_ret
      exact PEnd.mkOk HR2.out HK.out.1 HK.out.2.1 HK.out.2.2
    · have HR2 := hid (show AQ.oneR (d + 1) l = .bad x p by rw [HR.out, hR])
      have hT := (hE.bad x p hR).from HO4.out
      have HT := hid hT
      obtain ⟨B, rfl, _, _⟩ := hT
      clear hR hE
      go_wp2_with fail
      exact ⟨rfl, PEnd.mkBad HR2.out HT.out⟩
  have HR := hid (show AQ.oneR (d + 1) l = .bad 3 (AQ.hd l).place by rw [HE.out, if_neg ho, if_neg ho2])
  have hend : ∀ W, W = w5 → Calls Tryd.prog 105 #[.int .i64 3, .int .i64 (AQ.hd l).place] W fun e w' => e = .returned (.pointer (some ⟨W.heap.size, 0, none⟩)) ∧ w' = W.alloc (.cells #[.int .i64 3, .int .i64 (AQ.hd l).place] 80) := fun W _ => wrong_any 3 (AQ.hd l).place W
  have HEnd := hid hend
  clear hend
  by_cases c1 : 3 ≤ c
  · have c2 : ¬ c ≤ 7 := by omega
    by_cases c3 : 8 ≤ c
    · have c4 : ¬ c ≤ 11 := by omega
      clear ho ho2
      go_wp2_with fail
      refine (HEnd.out _ rfl).mono ?_
      rintro e w6 ⟨rfl, rfl⟩
      go_wp2_with fail
      exact ⟨rfl, PEnd.mkBad HR.out ⟨_, rfl, heap_alloc_new w5 _, HO4.out.trans (Own1.of ((Below.refl _ w5).alloc (Nat.le_refl _) _))⟩⟩
    · exact absurd c3 (by omega)
  · have c3 : ¬ 8 ≤ c := by omega
    clear ho ho2
    go_wp2_with fail
    refine (HEnd.out _ rfl).mono ?_
    rintro e w6 ⟨rfl, rfl⟩
    go_wp2_with fail
    exact ⟨rfl, PEnd.mkBad HR.out ⟨_, rfl, heap_alloc_new w5 _, HO4.out.trans (Own1.of ((Below.refl _ w5).alloc (Nat.le_refl _) _))⟩⟩

theorem pone_any {bt : Nat} (bp : Nat) : ∀ (d : Nat) (n : Int), n + d = 9 → 0 ≤ n → QK 131 bp bt n (AQ.oneR d)
  | 0, n, h, _ => pone_zero bp n (by omega)
  | d + 1, n, h, h0 => pone_succ bp d n (by omega) (pone_any bp d (n + 1) (by omega) (by omega))

theorem psum0_any {bt : Nat} (bp : Nat) : QK 66 bp bt 0 (AQ.sumR (AQ.oneR 9)) :=
  psum_any bp 0 (AQ.oneR 9) (pprod_any bp 0 (AQ.oneR 9) (pone_any bp 9 0 (by decide) (by decide)) fun l q r hl he => (AQ.oneR_inv 9 l q r hl he).goes) fun l q r hl he => (AQ.prodR_inv (AQ.oneR_inv 9) hl he).goes

end Go.Proofs.YtdmnlmohfaafoaeDoor
