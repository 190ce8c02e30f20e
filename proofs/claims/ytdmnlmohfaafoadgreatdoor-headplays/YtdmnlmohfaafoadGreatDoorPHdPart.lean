/- parted: the samples that go, and those that stay; behind: one series more. -/
import Derived.Test.YtdmnlmohfaafoadGreatDoorPHdFn
import Derived.Test.YtdmnlmohfaafoadGreatDoorPHdFollow
import Derived.Test.YtdmnlmohfaafoadGreatDoorPHdIns
import Derived.Shelf.Abstract
namespace Go.Proofs.YtdmnlmohfaafoadGreatDoor
open Go.RowKit

/-- One sample at the end of a row of one's own. -/
theorem app_smp (W : World) (base B : Nat) (v : Value) (d : List CL.Smp) (s : CL.Smp) (hB : W.heap[B]? = some (boxS s.1 s.2)) (hv : OwnSm W base v d) (hd : d.length ≤ 1000000) (hb : base ≤ W.heap.size) :
    ∃ v' W', (Builtin.append_ #[53, 53] 53 #[v, .slice (some ⟨B, 0, none⟩) 1 1]).run Tryz.prog W = .ok v' W' ∧ OwnSm W' base v' (d ++ [s]) ∧ W.grownBy W' v.ownBlock ∧ (v'.ownBlock = v.ownBlock ∨ v'.ownBlock = some W.heap.size) := by
  obtain ⟨i, hi, hz, hs, hby⟩ := sm_info
  obtain ⟨v', W', h1, h2, _, h3, h4⟩ := append_both (P := Tryz.prog) W base 53 53 52 i _ 2 16 Tryz.uSms hi hz hs hby rfl (by omega) v d.length (sv d) hv ⟨B, 0, none⟩ 1 1 [.int .i64 s.1, .int .i64 s.2] (by omega) rfl (two_cells hB) (one_two rfl rfl) (by unfold maxLen; omega) (by omega) hb
  refine ⟨v', W', h1, ?_, h3, h4⟩
  show World.ownsRow _ _ _ _ _ _ _
  rw [List.length_append, sv_append]
  exact h2

/-- One series at the end of a row of one's own. -/
theorem app_ser (W : World) (base B : Nat) (v a b : Value) (n : Nat) (xs : List Value) (hB : W.heap[B]? = some (.cells #[a, b] 55)) (ha : a.oneCell' = true) (hb1 : b.oneCell' = true) (hv : W.ownsRow base 55 2 v n xs) (hd : n ≤ 1000000) (hb : base ≤ W.heap.size) :
    ∃ v' W', (Builtin.append_ #[22, 22] 22 #[v, .slice (some ⟨B, 0, none⟩) 1 1]).run Tryz.prog W = .ok v' W' ∧ W'.ownsRow base 55 2 v' (n + 1) (xs ++ [a, b]) ∧ W.grownBy W' v.ownBlock ∧ (v'.ownBlock = v.ownBlock ∨ v'.ownBlock = some W.heap.size) := by
  obtain ⟨i, hi, hz, hs, hby⟩ := sr_info
  obtain ⟨v', W', h1, h2, _, h3, h4⟩ := append_both (P := Tryz.prog) W base 22 22 55 i _ 2 48 Tryz.uSrs hi hz hs hby rfl (by omega) v n xs hv ⟨B, 0, none⟩ 1 1 [a, b] (by omega) rfl (two_cells hB) (one_two ha hb1) (by unfold maxLen; omega) (by omega) hb
  exact ⟨v', W', h1, h2, h3, h4⟩

/-- Two rows of samples of one's own, apart. -/
structure Two (w wr : World) (vo vl : Value) (lo ll : List CL.Smp) : Prop where
  out : OwnSm wr w.heap.size vo lo
  left : OwnSm wr w.heap.size vl ll
  apart : vo.ownBlock = none ∨ vo.ownBlock ≠ vl.ownBlock
  bel : Below w.heap.size w wr

theorem Two.below {w wr wr' : World} {vo vl : Value} {lo ll : List CL.Smp} (h : Two w wr vo vl lo ll) (k : Below wr.heap.size wr wr') : Two w wr' vo vl lo ll :=
  ⟨row_kept h.out fun g _ hg => k.block g (heap_lt hg), row_kept h.left fun g _ hg => k.block g (heap_lt hg), h.apart, bel2 h.bel k⟩

theorem Two.grow1 {w W W' : World} {vo vl v' : Value} {lo ll l' : List CL.Smp} (h : Two w W vo vl lo ll) (h1 : OwnSm W' w.heap.size v' l') (h2 : W.grownBy W' vo.ownBlock) (h3 : v'.ownBlock = vo.ownBlock ∨ v'.ownBlock = some W.heap.size) : Two w W' v' vl l' ll := by
  refine ⟨h1, h.left.kept h2 ?_, ?_, h.bel.grown h2 h.bel.size (fun k hk => (h.out.lt k hk).1)⟩
  · rcases h.apart with e | e
    · rcases hv : vl.ownBlock with _ | g
      · exact .inl rfl
      · rw [e]; exact .inr (by simp)
    · exact .inr (fun e2 => e e2.symm)
  · rcases h3 with e | e
    · rw [e]; exact h.apart
    · right
      rw [e]
      intro e2
      have := (h.left.lt _ e2.symm).2
      omega

theorem Two.grow2 {w W W' : World} {vo vl v' : Value} {lo ll l' : List CL.Smp} (h : Two w W vo vl lo ll) (h1 : OwnSm W' w.heap.size v' l') (h2 : W.grownBy W' vl.ownBlock) (h3 : v'.ownBlock = vl.ownBlock ∨ v'.ownBlock = some W.heap.size) : Two w W' vo v' lo l' := by
  refine ⟨h.out.kept h2 ?_, h1, ?_, h.bel.grown h2 h.bel.size (fun k hk => (h.left.lt k hk).1)⟩
  · rcases h.apart with e | e
    · exact .inl e
    · exact .inr e
  · rcases h3 with e | e
    · rw [e]; exact h.apart
    · rcases hv : vo.ownBlock with _ | g
      · exact .inl rfl
      · right
        rw [e]
        intro e2
        have := (h.out.lt _ (hv.trans e2)).2
        omega

theorem take_smp (l : List CL.Smp) (i : Nat) (h : i < l.length) : l.take (i + 1) = l.take i ++ [CL.at' l i] := (CL.take_nxt l i h).symm

set_option maxRecDepth 100000 in
set_option maxHeartbeats 1600000 in
theorem parted_any (so : Option Addr) (l : List CL.Smp) (sc g : Nat) (lb : Array Value) (p : Int → Bool) (w : World) (hS : SRow w so l) (hl : l.length ≤ 100000) (eg : ∀ args w, (callFunc g args).run Tryz.prog w = .ok (.enter g args) w)
    (hcall : ∀ W, Below w.heap.size w W → ∀ t, Calls Tryz.prog g (#[.int .i64 t] ++ lb) W fun e w' => e = .returned (.bool (p t)) ∧ Below W.heap.size W w') :
    Calls Tryz.prog 90 #[.slice so l.length sc, .func (.func g) #[] lb] w fun e w' => ∃ vo vl, e = .returned (.tuple #[vo, vl]) ∧ Two w w' vo vl (l.filter fun s => p s.1) (l.filter fun s => !p s.1) := by
  have HS := hid hS
  have HC := hid hcall
  clear hS hcall
  go_enter Tryz.func90, Tryz.ntmps90
  go_wp2_with fail
  go_loopw [4, 5, 10] (fun to tl ti wr => ∃ i : Nat, i ≤ l.length ∧ ti = .int .i64 i ∧ Two w wr to tl ((l.take i).filter fun s => p s.1) ((l.take i).filter fun s => !p s.1)) (fun _ _ ti _ => l.length - (intOf ti).toNat)
  case atStart => exact ⟨0, Nat.zero_le _, rfl, ⟨⟨rfl, .inl ⟨rfl, rfl⟩⟩, ⟨rfl, .inl ⟨rfl, rfl⟩⟩, .inl rfl, Below.refl _ _⟩⟩
  case round =>
    obtain ⟨i, hi, rfl, htw⟩ := hrel
    have HTw := hid htw
    clear htw
    by_cases hlt : i < l.length
    · obtain ⟨b, off, hso, d0, d1, hbs⟩ := HS.out i hlt
      subst hso
      have e0 : wr.cell? ⟨b, off + i * 2, none⟩ = some (.int .i64 (CL.at' l i).1) := (HTw.out.bel.cell (p := ⟨b, _, none⟩) hbs).trans d0
      have e1 : wr.cell? ⟨b, off + i * 2 + 1, none⟩ = some (.int .i64 (CL.at' l i).2) := (HTw.out.bel.cell (p := ⟨b, _, none⟩) hbs).trans d1
      have HTk := hid (take_smp l i hlt)
      have hlo : ((l.take i).filter fun s => p s.1).length ≤ 100000 := Nat.le_trans (List.length_filter_le _ _) (by rw [List.length_take]; omega)
      have hll : ((l.take i).filter fun s => !p s.1).length ≤ 100000 := Nat.le_trans (List.length_filter_le _ _) (by rw [List.length_take]; omega)
      clear d0 d1
      generalize hsm : CL.at' l i = sm at *
      obtain ⟨st, sx⟩ := sm
      simp only at e0 e1
      have hbelx : Below wr.heap.size wr (wr.alloc (boxS st sx)) := (Below.refl _ wr).alloc (Nat.le_refl _) _
      have hbx : (wr.alloc (boxS st sx)).heap[wr.heap.size]? = some (boxS st sx) := heap_alloc_new wr _
      have HCx := hid (HC.out _ (bel2 HTw.out.bel hbelx) st)
      have HT1 := hid (HTw.out.below hbelx)
      have HBx := hid hbx
      have hil : 0 ≤ (i : Int) ∧ (i : Int) < (l.length : Int) := by omega
      clear hbelx hbx
      go_wp2_with fail
      refine HCx.out.mono ?_
      rintro e w2 ⟨rfl, hb2⟩
      have HT2 := hid (HT1.out.below hb2)
      have hbx2 := (hb2.block wr.heap.size (heap_lt HBx.out)).trans HBx.out
      have c0 : w2.cell? ⟨wr.heap.size, 0, none⟩ = some (.int .i64 st) := zcell' _ _ _ _ hbx2 0 _ rfl
      have c1 : w2.cell? ⟨wr.heap.size, 1, none⟩ = some (.int .i64 sx) := zcell' _ _ _ _ hbx2 1 _ rfl
      clear hb2 HCx hbx2
      rcases hp : p st with _ | _
      · have HP := hid hp
        clear hp
        have ha := app_smp (w2.alloc (boxS st sx)) w.heap.size w2.heap.size u5 _ (st, sx) (heap_alloc_new w2 _) (HT2.out.left.alloc _) (by omega) (by simp; exact Nat.le_succ_of_le HT2.out.bel.size)
        obtain ⟨v3, w3, hrun, k1, k2, k3⟩ := ha
        have HT3 := hid ((HT2.out.below ((Below.refl _ w2).alloc (Nat.le_refl _) (boxS st sx))).grow2 k1 k2 k3)
        obtain ⟨a3, c3, e3⟩ := own_slice k1
        obtain ⟨a5, c5, e5⟩ := own_slice HT2.out.left
        clear k1 k2 k3
        subst e3
        rw [e5] at hrun
        subst e5
        go_wp2_with (at_builtin; refine Lib.wpList_append_run _ rfl _ _ _ _ rfl _ _ rfl rfl _ _ hrun ?_)
        go_roundw
        case rel =>
          refine ⟨i + 1, by omega, by go_num, ?_⟩
          have f1 : ((l.take (i + 1)).filter fun s => p s.1) = (l.take i).filter fun s => p s.1 := by
            rw [HTk.out, List.filter_append, List.filter_cons, if_neg (by simp [HP.out])]; simp
          have f2 : ((l.take (i + 1)).filter fun s => !p s.1) = ((l.take i).filter fun s => !p s.1) ++ [(st, sx)] := by
            rw [HTk.out, List.filter_append, List.filter_cons, if_pos (by simp [HP.out])]; simp
          rw [f1, f2]
          have := HT3.out
          simp only [List.length_append, List.length_cons, List.length_nil] at this
          exact this
        case measure => simp [intOf]; omega
      · have HP := hid hp
        clear hp
        have ha := app_smp (w2.alloc (boxS st sx)) w.heap.size w2.heap.size u4 _ (st, sx) (heap_alloc_new w2 _) (HT2.out.out.alloc _) (by omega) (by simp; exact Nat.le_succ_of_le HT2.out.bel.size)
        obtain ⟨v3, w3, hrun, k1, k2, k3⟩ := ha
        have HT3 := hid ((HT2.out.below ((Below.refl _ w2).alloc (Nat.le_refl _) (boxS st sx))).grow1 k1 k2 k3)
        obtain ⟨a3, c3, e3⟩ := own_slice k1
        obtain ⟨a5, c5, e5⟩ := own_slice HT2.out.out
        clear k1 k2 k3
        subst e3
        rw [e5] at hrun
        subst e5
        go_wp2_with (at_builtin; refine Lib.wpList_append_run _ rfl _ _ _ _ rfl _ _ rfl rfl _ _ hrun ?_)
        go_roundw
        case rel =>
          refine ⟨i + 1, by omega, by go_num, ?_⟩
          have f1 : ((l.take (i + 1)).filter fun s => p s.1) = ((l.take i).filter fun s => p s.1) ++ [(st, sx)] := by
            rw [HTk.out, List.filter_append, List.filter_cons, if_pos (by simp [HP.out])]; simp
          have f2 : ((l.take (i + 1)).filter fun s => !p s.1) = (l.take i).filter fun s => !p s.1 := by
            rw [HTk.out, List.filter_append, List.filter_cons, if_neg (by simp [HP.out])]; simp
          rw [f1, f2]
          have := HT3.out
          simp only [List.length_append, List.length_cons, List.length_nil] at this
          exact this
        case measure => simp [intOf]; omega
    · have he : i = l.length := by omega
      subst he
      have h1 := HTw.out
      rw [List.take_length] at h1
      have HF := hid h1
      clear h1
      go_wp2_with fail
      go_ret2
      exact ⟨_, _, rfl, HF.out⟩

end Go.Proofs.YtdmnlmohfaafoadGreatDoor

