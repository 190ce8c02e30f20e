/- What a code.Reader's Labels tells. -/
import Derived.Test.YtemikjncannndadDoorCrNum
import Derived.Test.YtemikjncannndadDoorCxRight
namespace Go.Proofs.YtemikjncannndadDoor
open Go.RowKit

/-- Labels, read. -/
def rLs (S : List UInt8) : Option (List CD.Lb × List UInt8) := match CD.rN S with
  | none => none
  | some (k, r1) => if 0 ≤ k ∧ k ≤ 8 then (match CD.rL k.toNat r1 with
      | none => none
      | some (l, r2) => if lbK l then some (l, r2) else none) else none

theorem rLs_none1 {S : List UInt8} (h : CD.rN S = none) : rLs S = none := by unfold rLs; rw [h]

theorem rLs_none2 {S r1 : List UInt8} {k : Int} (h : CD.rN S = some (k, r1)) (hk : ¬ (0 ≤ k ∧ k ≤ 8)) : rLs S = none := by
  unfold rLs
  rw [h]
  dsimp only
  rw [if_neg hk]

theorem rLs_none3 {S r1 : List UInt8} {k : Nat} (h : CD.rN S = some ((k : Int), r1)) (h2 : CD.rL k r1 = none) : rLs S = none := by
  have e : ((k : Int)).toNat = k := by omega
  unfold rLs
  rw [h]
  dsimp only
  rw [e, h2]
  split <;> rfl

theorem rLs_none4 {S r1 r2 : List UInt8} {k : Nat} {l : List CD.Lb} (h : CD.rN S = some ((k : Int), r1)) (h2 : CD.rL k r1 = some (l, r2)) (h3 : lbK l = false) : rLs S = none := by
  have e : ((k : Int)).toNat = k := by omega
  unfold rLs
  rw [h]
  dsimp only
  rw [e, h2]
  dsimp only
  rw [h3]
  split <;> rfl

theorem rLs_ok {S r1 r2 : List UInt8} {k : Nat} {l : List CD.Lb} (hk : k ≤ 8) (h : CD.rN S = some ((k : Int), r1)) (h2 : CD.rL k r1 = some (l, r2)) (h3 : lbK l = true) : rLs S = some (l, r2) := by
  have e : ((k : Int)).toNat = k := by omega
  unfold rLs
  rw [h]
  dsimp only
  rw [if_pos (by omega), e, h2]
  dsimp only
  rw [if_pos h3]

/-- A Reader's block is of no other kind. -/
theorem rd_ne {w : World} {br g : Nat} {S : List UInt8} {bad : Bool} {c : Array Value} {e : TypeId} (ht : RdI w br S bad) (hg : w.heap[g]? = some (Obj.cells c e)) (hgb : g = br) (he : 90 ≠ e) : False := by
  subst hgb
  have ht' : w.heap[g]? = some (.cells #[.string (sb S), .bool bad] 90) := ht
  rw [ht'] at hg
  have := Option.some.inj hg
  simp only [Obj.cells.injEq] at this
  exact he this.2.1

/-- A text is taken, told by what it is. -/
theorem tT_is (S : List UInt8) (bad : Bool) : ∃ a R b, tT S bad = (a, R, b) ∧ R.length ≤ S.length ∧ a.length ≤ S.length ∧ ((b = false ∧ bad = false ∧ CD.rT S = some (a, R)) ∨ (b = true ∧ a = [] ∧ (bad = true ∨ CD.rT S = none))) := by
  cases bad with
  | true => exact ⟨_, _, _, tT_bad S, Nat.le_refl _, by simp, .inr ⟨rfl, rfl, .inl rfl⟩⟩
  | false =>
    cases hr : CD.rT S with
    | none =>
      obtain ⟨S', h1, h2⟩ := tT_none hr
      exact ⟨_, _, _, h1, h2, by simp, .inr ⟨rfl, rfl, .inr rfl⟩⟩
    | some p =>
      obtain ⟨t, r⟩ := p
      have h2 := CD.rT_len hr
      exact ⟨t, r, false, tT_some hr, by omega, by omega, .inl ⟨rfl, rfl, rfl⟩⟩

/-- A number from 0 to so much, told by what it is. -/
theorem tZ_is (S : List UInt8) (most : Nat) : ∃ (k : Nat) (R : List UInt8) (b : Bool), tZ S false most = ((k : Int), R, b) ∧ k ≤ most ∧ R.length ≤ S.length ∧ ((b = false ∧ CD.rN S = some ((k : Int), R)) ∨ (b = true ∧ k = 0 ∧ (CD.rN S = none ∨ ∃ n r, CD.rN S = some (n, r) ∧ ¬ (0 ≤ n ∧ n ≤ (most : Int))))) := by
  unfold tZ
  cases hr : CD.rN S with
  | none =>
    rw [tN_none hr, if_neg (by rintro ⟨h, _⟩; cases h)]
    exact ⟨0, S, true, rfl, by omega, Nat.le_refl _, .inr ⟨rfl, rfl, .inl rfl⟩⟩
  | some p =>
    obtain ⟨n, r⟩ := p
    have hl := rN_len hr
    rw [tN_some hr]
    by_cases h : 0 ≤ n ∧ n ≤ (most : Int)
    · obtain ⟨k, rfl⟩ : ∃ k : Nat, n = k := ⟨n.toNat, by omega⟩
      rw [if_pos ⟨rfl, h.1, h.2⟩]
      exact ⟨k, r, false, rfl, by omega, by omega, .inl ⟨rfl, rfl⟩⟩
    · rw [if_neg (fun h' => h h'.2)]
      exact ⟨0, r, true, rfl, by omega, by omega, .inr ⟨rfl, rfl, .inr ⟨n, r, rfl, h⟩⟩⟩

/-- What Labels tells. -/
def LabEnd (w : World) (br : Nat) (S : List UInt8) (e : Ending) (w' : World) : Prop :=
  But br w w' ∧ ((∃ l r v, rLs S = some (l, r) ∧ e = .returned v ∧ RdI w' br r false ∧ OwnLb w' w.heap.size v (toLab l) ∧ r.length ≤ S.length) ∨ (rLs S = none ∧ e = .returned (.slice none 0 0) ∧ ∃ S', RdI w' br S' true ∧ S'.length ≤ S.length))

set_option maxRecDepth 100000 in
set_option maxHeartbeats 800000 in
theorem plabels_any (br : Nat) (S : List UInt8) (w : World) (h : RdI w br S false) (hS : S.length ≤ 5000000) :
    Calls Tryd.prog 87 #[.pointer (some ⟨br, 0, none⟩)] w fun e w' => LabEnd w br S e w' := by
  have HC := psize_any br S false 8 w h (by omega) (by omega)
  obtain ⟨k, R, b, hZ, hk8, hRl, hst0⟩ := tZ_is S 8
  rw [hZ] at HC
  have HC := hid HC
  have hbr := heap_lt h
  have hst : (b = false ∧ CD.rN S = some ((k : Int), R)) ∨ (b = true ∧ k = 0 ∧ rLs S = none) := by
    rcases hst0 with h0 | ⟨h1, h2, h3⟩
    · exact .inl h0
    · refine .inr ⟨h1, h2, ?_⟩
      rcases h3 with h3 | ⟨n, r, h3, h4⟩
      · exact rLs_none1 h3
      · exact rLs_none2 h3 h4
  have HSt0 := hid hst
  obtain ⟨ii, hii, hz0, hz1, hz2⟩ := info_parts Tryd.infoLb
  have HI0 := hid hii
  have HZ0 := hid hz0
  have HZ1 := hid hz1
  have HZ2 := hid hz2
  clear h hst hst0 hZ hii hz0 hz1 hz2
  simp only at HC
  go_enter Tryd.func87, Tryd.ntmps87
  go_wp2_with fail
  refine HC.out.mono ?_
  rintro e w1 ⟨rfl, hI, hG⟩
  have HI1 := hid hI
  have HG1 := hid hG
  clear hI hG HC
  go_wp2_with fail
  go_loopw [3, 4, 7] (fun t3 _ t7 wr => ∃ (j : Nat) (Sj : List UInt8) (bj : Bool) (la : List CD.Lb) (laM : List LB.Lab), t7 = .int .i64 j ∧ RdI wr br Sj bj ∧ But br w wr ∧ Sj.length ≤ S.length ∧ OwnLb wr w.heap.size t3 laM ∧ laM.length = j ∧ j ≤ k ∧ ((bj = false ∧ laM = toLab la ∧ CD.rN S = some ((k : Int), R) ∧ CD.ContL k R la (k - j) Sj) ∨ (bj = true ∧ rLs S = none))) (fun _ _ t7 _ => k - (intOf t7).toNat)
  case atStart =>
    refine ⟨0, R, b, [], [], rfl, HI1.out, But.grown HG1.out, hRl, ⟨rfl, .inl ⟨rfl, rfl⟩⟩, rfl, by omega, ?_⟩
    rcases HSt0.out with ⟨h1, h2⟩ | ⟨h1, _, h2⟩
    · exact .inl ⟨h1, rfl, h2, CD.ContL.start _ _⟩
    · exact .inr ⟨h1, h2⟩
  case round =>
    obtain ⟨j, Sj, bj, la, laM, rfl, hIj, hBj, hSj, hOj, hlj, hjk, hstj⟩ := hrel
    have HIj := hid hIj
    have HBj := hid hBj
    have HOj := hid hOj
    have HStj := hid hstj
    have hszj := hBj.2.2.2.1
    clear hIj hBj hOj hstj HSt0 HI1 HG1
    by_cases hlt : j < k
    · have HC1 := ptxt_any br Sj bj wr HIj.out (by omega)
      obtain ⟨a1, S4, b4, hE4, hl4, _, hs4⟩ := tT_is Sj bj
      rw [hE4] at HC1
      have HC1 := hid HC1
      have HS4 := hid hs4
      clear hE4 hs4
      go_wp2_with fail
      refine HC1.out.mono ?_
      rintro e w4 ⟨rfl, hI4, hG4⟩
      dsimp only at hI4 ⊢
      have hO4 : OwnLb w4 w.heap.size u3 laM := row_kept HOj.out (fun g c hg => hG4.block g (heap_lt hg) (fun e => rd_ne HIj.out hg (Option.some.inj e) (by decide)))
      have HB4 := hid (HBj.out.trans (But.grown hG4))
      have HC2 := ptxt_any br S4 b4 w4 hI4 (by omega)
      obtain ⟨a2, S5, b5, hE5, hl5, _, hs5⟩ := tT_is S4 b4
      rw [hE5] at HC2
      have HC2 := hid HC2
      have HS5 := hid hs5
      have HI4 := hid hI4
      have HO4 := hid hO4
      clear hI4 hG4 hE5 hs5 hO4 HC1
      go_wp2_with fail
      refine HC2.out.mono ?_
      rintro e w5 ⟨rfl, hI5, hG5⟩
      dsimp only at hI5 ⊢
      have hO5 : OwnLb w5 w.heap.size u3 laM := row_kept HO4.out (fun g c hg => hG5.block g (heap_lt hg) (fun e => rd_ne HI4.out hg (Option.some.inj e) (by decide)))
      have HB5 := hid (HB4.out.trans (But.grown hG5))
      have HI5 := hid hI5
      have HO5 := hid hO5
      have hsz5 := HB5.out.2.2.2.1
      obtain ⟨lva, lvc, hlvv⟩ := own_slice hO5
      rw [hlj] at hlvv
      clear hI5 hG5 hO5 HC2
      subst hlvv
      go_wp2_with (at_builtin; refine wpList_append_own _ rfl (.tmp 11) (.tmp 16) 96 rfl w.heap.size 103 ii (.agg #[.string ⟨#[]⟩, .string ⟨#[]⟩]) 2 32 Tryd.underlying96 HI0.out HZ0.out HZ1.out HZ2.out rfl (by decide) (.slice lva j lvc) laM.length (lv laM) rfl (World.ownsRow.alloc HO5.out _) ⟨w5.heap.size, 0, none⟩ 1 1 [.string (sb a1), .string (sb a2)] rfl rfl (two_news w5 _ _ 103) (by intro u hu; simp at hu; rcases hu with rfl | rfl <;> rfl) (by unfold maxLen; omega) (by omega) (by simp; omega) ?_)
      intro v7 w7 ho7 hg7 _
      have hO7 : OwnLb w7 w.heap.size v7 (laM ++ [(sb a1, sb a2)]) := by
        show World.ownsRow _ _ _ _ _ _ _
        rw [List.length_append, lv_append, hlj]
        exact ho7
      have hrow7 : ∀ g, (Value.slice lva j lvc).ownBlock = some g → w.heap.size ≤ g := fun g hg => (World.ownsRow.lt HO5.out g hg).1
      have hb5 : Below w5.heap.size w5 (w5.alloc (.cells #[.string (sb a1), .string (sb a2)] 103)) := (Below.refl _ w5).alloc (Nat.le_refl _) _
      have hI7 : RdI w7 br S5 b5 := (hg7.block br (by have := hb5.size; omega) (fun e => by have := hrow7 br e.symm; omega)).trans ((hb5.block br (by omega)).trans HI5.out)
      have hB7 : But br w w7 := (HB5.out.trans (But.below hb5)).own hg7 hrow7
      have HQ : Hid (RdI w7 br S5 b5 ∧ But br w w7 ∧ OwnLb w7 w.heap.size v7 (laM ++ [(sb a1, sb a2)])) := ⟨hI7, hB7, hO7⟩
      have HSt2 : Hid ((b5 = false ∧ laM ++ [(sb a1, sb a2)] = toLab (la ++ [(a1, a2)]) ∧ CD.rN S = some ((k : Int), R) ∧ CD.ContL k R (la ++ [(a1, a2)]) (k - (j + 1)) S5) ∨ (b5 = true ∧ rLs S = none)) := by
        have hm : k - j = (k - (j + 1)) + 1 := by omega
        rcases HStj.out with ⟨h1, h2, h3, h4⟩ | ⟨h1, h2⟩
        · rw [hm] at h4
          rcases HS5.out with ⟨h5, h6, h7⟩ | ⟨h5, _, h6⟩
          · refine .inl ⟨h5, by rw [h2]; simp [toLab], h3, ?_⟩
            rcases HS4.out with ⟨_, _, h8⟩ | ⟨h8, _⟩
            · exact h4.next h8 h7
            · rw [h6] at h8; cases h8
          · refine .inr ⟨h5, rLs_none3 h3 (h4.fail ?_)⟩
            rcases HS4.out with ⟨h8, _, h9⟩ | ⟨_, _, h9⟩
            · rcases h6 with h6 | h6
              · rw [h8] at h6; cases h6
              · exact .inr ⟨_, _, h9, h6⟩
            · rcases h9 with h9 | h9
              · rw [h1] at h9; cases h9
              · exact .inl h9
        · refine .inr ⟨?_, h2⟩
          rcases HS5.out with ⟨_, h6, _⟩ | ⟨h5, _⟩
          · rcases HS4.out with ⟨_, h8, _⟩ | ⟨h8, _⟩
            · rw [h1] at h8; cases h8
            · rw [h6] at h8; cases h8
          · exact h5
      obtain ⟨a7, c7, hv7⟩ := own_slice hO7
      have hv8 : v7 = .slice a7 (j + 1) c7 := by rw [hv7, List.length_append, hlj]; rfl
      have hS5 : S5.length ≤ S.length := by omega
      clear hv7 ho7 hg7 hO7 hrow7 hb5 hI7 hB7 HO5 HI5 HB5 HS5 HS4 HStj
      subst hv8
      go_wp2_with fail
      go_roundw
      case rel => exact ⟨j + 1, S5, b5, la ++ [(a1, a2)], laM ++ [(sb a1, sb a2)], by go_num, HQ.out.1, HQ.out.2.1, hS5, HQ.out.2.2, by rw [List.length_append, hlj]; rfl, by omega, HSt2.out⟩
      case measure => simp [intOf]; omega
    · have hk0 : k - j = 0 := by omega
      have HK0 := hid hk0
      clear hk0 hlj
      have HC1 := hid (bad_any br Sj bj wr HIj.out)
      obtain ⟨lva, lvc, hlvv⟩ := own_slice HOj.out
      go_wp2_with fail
      refine HC1.out.mono ?_
      rintro e w4 ⟨rfl, rfl⟩
      clear HC1
      cases bj with
      | true =>
        have HNo : Hid (rLs S = none) := by
          rcases HStj.out with ⟨h1, _⟩ | ⟨_, h1⟩
          · cases h1
          · exact h1
        clear HStj
        go_wp2_with fail
        go_ret
        exact ⟨HBj.out, .inr ⟨HNo.out, rfl, Sj, HIj.out, hSj⟩⟩
      | false =>
        obtain ⟨h2, h3, h4⟩ : laM = toLab la ∧ CD.rN S = some ((k : Int), R) ∧ CD.rL k R = some (la, Sj) := by
          rcases HStj.out with ⟨_, h2, h3, h4⟩ | ⟨h1, _⟩
          · rw [HK0.out] at h4
            exact ⟨h2, h3, h4.done⟩
          · cases h1
        obtain ⟨lo, lc, hv, hLR⟩ := LRow.of_own HOj.out
        have HC2 := hid (lright_any lo laM lc w4 hLR)
        have hrk : LB.right laM = lbK la := by rw [h2]; rfl
        have H2 := hid h2
        have H3 := hid h3
        have H4 := hid h4
        rw [hrk] at HC2
        obtain ⟨c0, c1, f0, f1⟩ := HIj.out.c
        clear h2 h3 h4 HStj hlvv hLR hrk
        subst hv
        go_wp2_with fail
        refine HC2.out.mono ?_
        rintro e w5 ⟨rfl, hb5⟩
        have HI5 := hid (HIj.out.below hb5)
        have HB5 := hid (HBj.out.trans (But.below (bt := br) hb5))
        have HO5 := hid (row_kept HOj.out (fun g c hg => hb5.block g (heap_lt hg)))
        obtain ⟨d0, d1, g0, g1⟩ := HI5.out.c
        clear hb5 HC2
        cases hq : lbK la with
        | true =>
          have HR := hid (rLs_ok hk8 H3.out H4.out hq)
          clear hq
          go_wp2_with fail
          go_ret
          refine ⟨HB5.out, .inl ⟨la, Sj, _, HR.out, rfl, HI5.out, ?_, hSj⟩⟩
          rw [← H2.out]
          exact HO5.out
        | false =>
          have HR := hid (rLs_none4 H3.out H4.out hq)
          have HQ : Hid (RdI (w5.setCell ⟨br, 1, none⟩ (.bool true)) br Sj true) := HI5.out.s1 true
          clear hq
          go_wp2_with fail
          go_ret
          exact ⟨HB5.out.trans (But.grown (tgrown _ _ _ _)), .inr ⟨HR.out, rfl, Sj, HQ.out, hSj⟩⟩

end Go.Proofs.YtemikjncannndadDoor
