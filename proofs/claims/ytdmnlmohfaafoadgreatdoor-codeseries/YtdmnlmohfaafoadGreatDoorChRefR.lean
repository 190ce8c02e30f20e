/- What the document's ReadChunk answers. -/
import Derived.Test.YtdmnlmohfaafoadGreatDoorBitRefG
import Derived.Test.YtdmnlmohfaafoadGreatDoorChRefW
import Derived.Test.YtdmnlmohfaafoadGreatDoorChRead
import Derived.Test.YtdmnlmohfaafoadGreatDoorChTxt
import Derived.Laws.StructEq
namespace Go.Proofs.YtdmnlmohfaafoadGreatDoor
open Go.RowKit

/-- What the document's ReadChunk tells. -/
def RReadEnd (w : World) (e : Ending) (w' : World) : Option (List CL.Smp) → Prop
  | none => e = .returned (.tuple #[.slice none 0 0, .int .i64 3]) ∧ Below w.heap.size w w'
  | some l => ∃ v, e = .returned (.tuple #[v, .int .i64 0]) ∧ w'.ownsRow w.heap.size 52 2 v l.length (sv l) ∧ Below w.heap.size w w'

/-- A part of a row of one's own, from a sample on. -/
theorem srow_drop {w : World} {base g n cap : Nat} {l : List CL.Smp} (h : w.ownsRow base 52 2 (.slice (some ⟨g, 0, none⟩) n cap) l.length (sv l)) (hn : n = l.length) (a : Nat) (ha : a ≤ l.length) : SRow w (some ⟨g, a * 2, none⟩) (l.drop a) := by
  subst hn
  intro i hi
  have hi' : a + i < l.length := by rw [List.length_drop] at hi; omega
  refine ⟨g, a * 2, rfl, ?_, ?_, (h.lt g rfl).2⟩
  · rw [show a * 2 + i * 2 = (a + i) * 2 by omega, h.cellAt _ (by omega), at_drop]; exact (sv_get l _ hi').1
  · rw [show a * 2 + i * 2 + 1 = (a + i) * 2 + 1 by omega, h.cellAt _ (by omega), at_drop]; exact (sv_get l _ hi').2

theorem getL_len (b : List Bool) (u : Nat) (r : List Bool) (h : BL.getL b = some (u, r)) : r.length ≤ b.length := by
  have := (CL.getL_inv b u r h).1
  rw [this, List.length_append]; omega

theorem own_form {w : World} {base n : Nat} {v : Value} {xs : List Value} (h : w.ownsRow base 52 2 v n xs) (hn : 0 < n) : ∃ g cap, v = .slice (some ⟨g, 0, none⟩) n cap ∧ n ≤ cap ∧ cap ≤ maxLen := by
  obtain ⟨_, hcase⟩ := h
  rcases hcase with ⟨_, h0⟩ | ⟨g, cap, cur, h, _, _, h1, h2, _⟩
  · omega
  · exact ⟨g, cap, h, h1, h2⟩

theorem nxt_zero (d v : Int) (h1 : -9223372036854775808 ≤ d) (h2 : d ≤ 9223372036854775807) (h3 : -9223372036854775808 ≤ v) (h4 : v ≤ 9223372036854775807) (l : List CL.Smp) (hl : l.length = 0) : CL.nxt l d v = (d, v) := by
  unfold CL.nxt CL.ahead CL.stp
  rw [hl]
  simp only [if_true, show (0 : Nat) < 2 by omega]
  unfold CL.W
  rw [Prod.mk.injEq]
  constructor <;> omega
theorem nxt_one (d v : Int) (l : List CL.Smp) (hl : l.length = 1) : CL.nxt l d v = (wrap64 (d + (CL.at' l (l.length - 1)).1), wrap64 (v + (CL.at' l (l.length - 1)).2)) := by
  unfold CL.nxt CL.ahead CL.stp
  rw [W_wrap64, W_wrap64, if_neg (by omega), if_pos (by omega)]
  unfold CL.W
  rw [Prod.mk.injEq]
  constructor <;> omega
theorem nxt_two (d v : Int) (l : List CL.Smp) (hl : 2 ≤ l.length) : CL.nxt l d v = (wrap64 (wrap64 (d + (CL.at' l (l.length - 1)).1) + wrap64 ((CL.at' l (l.length - 1)).1 - (CL.at' l (l.length - 2)).1)), wrap64 (v + (CL.at' l (l.length - 1)).2)) := by
  unfold CL.nxt CL.ahead CL.stp
  simp only [W_wrap64]
  rw [if_neg (by omega), if_neg (by omega)]
  unfold CL.W
  rw [Prod.mk.injEq]
  constructor <;> omega

theorem ba_ne (a b : ByteArray) (h : a ≠ b) : (a.toList == b.toList) = false := by
  rw [beq_eq_false_iff_ne]
  intro e
  apply h
  rw [ByteArray.toList_eq, ByteArray.toList_eq] at e
  obtain ⟨⟨x⟩⟩ := a
  obtain ⟨⟨y⟩⟩ := b
  simp at e
  rw [e]

theorem BoxS.frozen {X : Nat} {w : World} {s : CL.Smp} (h : BoxS X w s) : w.frozen? ⟨X, 0, none⟩ = false ∧ w.frozen? ⟨X, 1, none⟩ = false := by
  unfold BoxS at h
  constructor <;> simp only [World.frozen?, h] <;> rfl

/-- What a store into a sample of one's own leaves. -/
theorem box_set {X base n b0 : Nat} {w w0 : World} {a b : Int} {v : Value} {xs : List Value} (hx : BoxS X w (a, b)) (ho : w.ownsRow base 52 2 v n xs) (hne : v.ownBlock ≠ some X) (hb : Below b0 w0 w) (hX : b0 ≤ X) (c : Int) :
    (BoxS X (w.setCell ⟨X, 0, none⟩ (.int .i64 c)).drew (c, b) ∧ (w.setCell ⟨X, 0, none⟩ (.int .i64 c)).drew.ownsRow base 52 2 v n xs ∧ Below b0 w0 (w.setCell ⟨X, 0, none⟩ (.int .i64 c)).drew) ∧
    (BoxS X (w.setCell ⟨X, 1, none⟩ (.int .i64 c)).drew (a, c) ∧ (w.setCell ⟨X, 1, none⟩ (.int .i64 c)).drew.ownsRow base 52 2 v n xs ∧ Below b0 w0 (w.setCell ⟨X, 1, none⟩ (.int .i64 c)).drew) := by
  refine ⟨⟨heap_setCell_same _ _ 0 _ _ _ hx, ?_, (hb.setCell (p := ⟨X, 0, none⟩) hX _).drew⟩, ⟨heap_setCell_same _ _ 1 _ _ _ hx, ?_, (hb.setCell (p := ⟨X, 1, none⟩) hX _).drew⟩⟩
  · exact ownsRow_kept_all' ho fun k hk => heap_setCell_other _ _ k _ (fun e => hne (by rw [hk, e]))
  · exact ownsRow_kept_all' ho fun k hk => heap_setCell_other _ _ k _ (fun e => hne (by rw [hk, e]))

set_option maxRecDepth 100000 in
set_option maxHeartbeats 3200000 in
theorem rread_any (s : ByteArray) (w : World) (hs : s.size ≤ 2000) :
    Calls Tryz.prog 74 #[.string s] w fun e w' => RReadEnd w e w' (CL.readL (bitsS s)) := by
  obtain ⟨i, hi, hi'⟩ := Option.map_eq_some_iff.1 Tryz.info52
  simp only [Prod.mk.injEq] at hi'
  obtain ⟨hz0, hz1, hz2⟩ := hi'
  have HI0 := hid hi
  have HZ0 := hid hz0
  have HZ1 := hid hz1
  have HZ2 := hid hz2
  clear hi hz0 hz1 hz2
  have hbl : (bitsS s).length ≤ 16000 := by rw [bitsS_length]; omega
  have HRW := hid (fun (l : List CL.Smp) (h : CL.right l = true) (hR : ∀ s ∈ l, CL.Rs s) (e : strOf (BL.pk (CL.chB l)) = s) => (show CL.readL (bitsS s) = some l by rw [← e]; exact tx_read_of_write l h hR))
  have HWR := hid (tx_write_read s)
  generalize hP : CL.readL (bitsS s) = P at *
  have HP := hid hP
  clear hP
  rcases hg : BL.getL (bitsS s) with _ | ⟨u, r⟩
  · have HPn : Hid (P = none) := by show _ = _; rw [← HP.out]; exact none_of_get _ hg
    have HG := hid (fun w1 => rget_any (bitsS s) w1 (by omega))
    rw [hg] at HG
    clear hg
    go_enter Tryz.func74, Tryz.ntmps74
    go_wp2_with fail
    refine (of_any s _ (by omega)).mono ?_
    rintro e w1 ⟨rfl, hb1⟩
    have HB1 := hid hb1
    have hs1 := hb1.size
    clear hb1
    go_wp2_with fail
    refine Calls.mono (HG.out w1) ?_
    rintro e w2 ⟨rfl, hb2⟩
    have HB2 := hid (HB1.out.trans (hb2.mono hs1))
    clear hb2
    go_wp2_with fail
    go_ret2
    rw [HPn.out]
    exact ⟨rfl, HB2.out⟩
  · have hur := CL.zag_range u (CL.getL_inv _ _ _ hg).2
    have hrl := getL_len _ _ _ hg
    have HG := hid (fun w1 => rget_any (bitsS s) w1 (by omega))
    rw [hg] at HG
    have HGu := hid hg
    clear hg
    generalize hzu : BL.zag u = z at *
    have HZu := hid hzu
    clear hzu
    by_cases hz : 0 ≤ z ∧ z ≤ 2000
    · obtain ⟨n, rfl⟩ := Int.eq_ofNat_of_zero_le hz.1
      have HJ0 : Hid (JJ P n [] r) := by
        show JJ _ _ _ _
        rw [← HP.out]; exact JJ.start _ u r n HGu.out HZu.out
      have hd0 : decide ((0 : Int) ≤ (n : Int) ∧ (n : Int) ≤ 2000) = true := decide_eq_true hz
      have hn : n ≤ 2000 := by omega
      clear hz
      go_enter Tryz.func74, Tryz.ntmps74
      go_wp2_with fail
      refine (of_any s _ (by omega)).mono ?_
      rintro e w1 ⟨rfl, hb1⟩
      have HB1 := hid hb1
      have hs1 := hb1.size
      clear hb1
      go_wp2_with fail
      refine Calls.mono (HG.out w1) ?_
      rintro e w2 ⟨rfl, hb2⟩
      rw [HZu.out]
      have HB2 := hid (HB1.out.trans (hb2.mono hs1))
      clear hb2
      go_wp2_with fail
      refine (rin_any _ _ _ _).mono ?_
      rintro e w3 ⟨rfl, rfl⟩
      rw [hd0]
      go_wp2_with fail
      go_loopw [5, 7, 31] (fun tb tl ti wr => ∃ (l : List CL.Smp) (b : List Bool), l.length ≤ n ∧ ti = .int .i64 l.length ∧ tb = .string (ltS b) ∧ b.length ≤ 16000 ∧ JJ P n l b ∧ (∀ x ∈ l, CL.Rs x) ∧ wr.ownsRow w.heap.size 52 2 tl l.length (sv l) ∧ Below w.heap.size w wr) (fun _ _ ti _ => n - (intOf ti).toNat)
      case atStart => exact ⟨[], r, by simp, rfl, rfl, by omega, HJ0.out, by simp, World.ownsRow_nil _ _ _ _, HB2.out⟩
      case round =>
        obtain ⟨l, b, hk, rfl, rfl, hb, hj, hrs, hown, hbel⟩ := hrel
        have HJ := hid hj
        have HRs := hid hrs
        have HO := hid hown
        have HB := hid hbel
        have hsz := hbel.size
        clear hj hrs hown hbel
        by_cases hlt : l.length < n
        · have HG1 := hid (fun w1 => rget_any b w1 (by omega))
          rcases hg1 : BL.getL b with _ | ⟨u1, r1⟩
          · have HPn := hid (HJ.out.none1 hlt hg1)
            rw [hg1] at HG1
            clear hg1
            go_wp2_with fail
            refine Calls.mono (HG1.out _) ?_
            rintro e w4 ⟨rfl, hb4⟩
            have HB4 := hid (HB.out.trans (hb4.mono hsz))
            clear hb4
            go_wp2_with fail
            go_ret2
            rw [HPn.out]
            exact ⟨rfl, HB4.out⟩
          · rw [hg1] at HG1
            have hur1 := CL.zag_range u1 (CL.getL_inv _ _ _ hg1).2
            have hrl1 := getL_len _ _ _ hg1
            have HGu1 := hid hg1
            clear hg1
            by_cases hrng : -8796093022208 ≤ BL.zag u1 ∧ BL.zag u1 ≤ 8796093022208
            · have hd1 : decide (-8796093022208 ≤ BL.zag u1 ∧ BL.zag u1 ≤ 8796093022208) = true := decide_eq_true hrng
              have HD1 := hid hd1
              clear hd1 hrng
              have HG2 := hid (fun w1 => rget_any r1 w1 (by omega))
              rcases hg2 : BL.getL r1 with _ | ⟨u2, r2⟩
              · have HPn := hid (HJ.out.none2 hlt HGu1.out hg2)
                rw [hg2] at HG2
                clear hg2
                generalize hzu1 : BL.zag u1 = z1 at *
                have HZu1 := hid hzu1
                clear hzu1
                go_wp2_with fail
                refine Calls.mono (HG1.out _) ?_
                rintro e w4 ⟨rfl, hb4⟩
                rw [HZu1.out]
                have HB4 := hid (HB.out.trans (hb4.mono hsz))
                have hs4 := HB4.out.size
                have HO4 := hid (ownsRow_kept_all' HO.out (w' := w4) fun k hk => hb4.block k (HO.out.lt k hk).2)
                clear hb4
                go_wp2_with fail
                refine (rin_any _ _ _ _).mono ?_
                rintro e w4b ⟨rfl, rfl⟩
                rw [HD1.out]
                go_wp2_with fail
                refine Calls.mono (HG2.out _) ?_
                rintro e w5 ⟨rfl, hb5⟩
                have HB5 := hid (HB4.out.trans (hb5.mono hs4))
                have hs5 := HB5.out.size
                have HO5 := hid (ownsRow_kept_all' HO4.out (w' := w5) fun k hk => hb5.block k (HO4.out.lt k hk).2)
                clear hb5
                go_wp2_with fail
                go_ret2
                rw [HPn.out]
                exact ⟨rfl, HB5.out⟩
              · rw [hg2] at HG2
                have hur2 := CL.zag_range u2 (CL.getL_inv _ _ _ hg2).2
                have hrl2 := getL_len _ _ _ hg2
                have HJn := hid (HJ.out.next hlt HGu1.out hg2)
                clear hg2
                generalize hzu1 : BL.zag u1 = z1 at *
                have HZu1 := hid hzu1
                clear hzu1
                generalize hzu2 : BL.zag u2 = z2 at *
                have HZu2 := hid hzu2
                clear hzu2
                have HRn : Hid (∀ x ∈ l ++ [CL.nxt l z1 z2], CL.Rs x) := by
                  intro x hx
                  rcases List.mem_append.1 hx with hx | hx
                  · exact HRs.out x hx
                  · rw [List.mem_singleton] at hx; rw [hx]; exact ⟨CL.W_range _, CL.W_range _⟩
                by_cases h0 : l.length = 0
                · have hnx := nxt_zero z1 z2 hur1.1 hur1.2 hur2.1 hur2.2 l h0
                  rw [hnx] at HJn HRn
                  clear hnx
                  have hgt : ¬ (0 : Int) < (l.length : Int) := by omega
                  have hgt1 : ¬ (1 : Int) < (l.length : Int) := by omega
                  have hl01 : (l.length : Int) ≤ 0 := by omega
                  have hl02 : l.length ≤ 0 := by omega
                  clear h0
                  go_wp2_with fail
                  refine Calls.mono (HG1.out _) ?_
                  rintro e w4 ⟨rfl, hb4⟩
                  rw [HZu1.out]
                  have HB4 := hid (HB.out.trans (hb4.mono hsz))
                  have hs4 := HB4.out.size
                  have HO4 := hid (ownsRow_kept_all' HO.out (w' := w4) fun k hk => hb4.block k (HO.out.lt k hk).2)
                  clear hb4
                  go_wp2_with fail
                  refine (rin_any _ _ _ _).mono ?_
                  rintro e w4b ⟨rfl, rfl⟩
                  rw [HD1.out]
                  go_wp2_with fail
                  refine Calls.mono (HG2.out _) ?_
                  rintro e w5 ⟨rfl, hb5⟩
                  have HB5 := hid (HB4.out.trans (hb5.mono hs4))
                  have hs5 := HB5.out.size
                  have HO5 := hid (ownsRow_kept_all' HO4.out (w' := w5) fun k hk => hb5.block k (HO4.out.lt k hk).2)
                  clear hb5
                  rw [HZu2.out]
                  go_wp2_with (at_builtin; refine wpList_append_own _ rfl (.tmp 100) (.tmp 102) 53 rfl w.heap.size 52 i (.agg #[.int .i64 0, .int .i64 0]) 2 16 Tryz.underlying53 HI0.out HZ0.out HZ1.out HZ2.out rfl (by decide) _ l.length (sv l) rfl ((HO5.out.alloc _).alloc _) ⟨w5.heap.size + 1, 0, none⟩ 1 1 [.int .i64 z1, .int .i64 z2] rfl rfl (two_news' _ _ (by simp) _ _ _) (two_i64 _ _) (by unfold maxLen; omega) (by omega) (by simp; omega) ?_)
                  intro v7 w7 hown7 hgrow _
                  have HB7 := hid (((HB5.out.alloc hs5 _).alloc (by simp; omega) _).grown hgrow (by simp; omega) (fun j hj => (HO5.out.lt j hj).1))
                  obtain ⟨g, cap7, hv7, hc7, hm7⟩ := own_form hown7 (by omega)
                  subst hv7
                  have HO7 : Hid (w7.ownsRow w.heap.size 52 2 (.slice (some ⟨g, 0, none⟩) (l.length + 1) cap7) (l ++ [(z1, z2)]).length (sv (l ++ [(z1, z2)]))) := by
                    show World.ownsRow _ _ _ _ _ _ _
                    rw [List.length_append, sv_append]; exact hown7
                  have hs7 := HB7.out.size
                  clear hown7 hgrow
                  obtain ⟨LOv, hLO⟩ : ∃ a, (max ((l.length : Int) - 1) 0).toNat = a := ⟨_, rfl⟩
                  have hLOl : LOv ≤ l.length := by omega
                  have HLO := hid hLO
                  clear hLO
                  have HSd := hid (srow_drop HO7.out (by simp) LOv (by go_size))
                  have hdl : ((l ++ [(z1, z2)]).drop LOv).length = l.length + 1 - LOv := by rw [List.length_drop, List.length_append]; rfl
                  rcases hrt : CL.right ((l ++ [(z1, z2)]).drop LOv) with _ | _
                  · have HPn := hid (HJn.out.sub LOv hrt)
                    have HRt := hid hrt
                    clear hrt
                    have HRA := hid (rsamples_any _ _ (cap7 - LOv) w7 HSd.out (by go_size))
                    rw [HRt.out, hdl] at HRA
                    go_wp2_with fail
                    rw [HLO.out]
                    refine Calls.mono HRA.out ?_
                    rintro e w8 ⟨rfl, hb8⟩
                    have HB8 := hid (HB7.out.trans (hb8.mono hs7))
                    clear hb8
                    go_wp2_with fail
                    go_ret2
                    rw [HPn.out]
                    exact ⟨rfl, HB8.out⟩
                  · have HRt := hid hrt
                    clear hrt
                    have HRA := hid (rsamples_any _ _ (cap7 - LOv) w7 HSd.out (by go_size))
                    rw [HRt.out, hdl] at HRA
                    go_wp2_with fail
                    rw [HLO.out]
                    refine Calls.mono HRA.out ?_
                    rintro e w8 ⟨rfl, hb8⟩
                    have HB8 := hid (HB7.out.trans (hb8.mono hs7))
                    have HO8 := hid (ownsRow_kept_all' HO7.out (w' := w8) fun k hk => hb8.block k (HO7.out.lt k hk).2)
                    clear hb8
                    go_wp2_with fail
                    go_roundw
                    case rel =>
                      refine ⟨l ++ [(z1, z2)], r2, by rw [List.length_append]; exact hlt, ?_, rfl, by omega, HJn.out, HRn.out, ?_, HB8.out⟩
                      · rw [List.length_append]; go_num
                      · have h8 := HO8.out
                        rw [List.length_append] at h8 ⊢
                        exact h8
                    case measure => simp [intOf]; omega
                · have hlp : 0 < l.length := by omega
                  by_cases h1 : l.length = 1
                  · have hnx := nxt_one z1 z2 l h1
                    rw [hnx] at HJn HRn
                    clear hnx
                    have hgt1 : ¬ (1 : Int) < (l.length : Int) := by omega
                    clear h1 h0
                    obtain ⟨g0, cap0, hu7, _, _⟩ := own_form HO.out (by omega)
                    subst hu7
                    have hgt : (0 : Int) < (l.length : Int) := by omega
                    have hix : ((l.length : Int) - 1).toNat = l.length - 1 := by omega
                    have hi1 : 0 ≤ (l.length : Int) - 1 ∧ (l.length : Int) - 1 < (l.length : Int) := by omega
                    have hone : (1 : Int) ≤ (l.length : Int) := by omega
                    have hwq : IntKind.i64.wrap ((l.length : Int) - 1) = (l.length : Int) - 1 := by rw [IntKind.wrap_i64]; omega
                    go_wp2_with fail
                    refine Calls.mono (HG1.out _) ?_
                    rintro e w4 ⟨rfl, hb4⟩
                    rw [HZu1.out]
                    have HB4 := hid (HB.out.trans (hb4.mono hsz))
                    have hs4 := HB4.out.size
                    have HO4 := hid (ownsRow_kept_all' HO.out (w' := w4) fun k hk => hb4.block k (HO.out.lt k hk).2)
                    clear hb4
                    go_wp2_with fail
                    refine (rin_any _ _ _ _).mono ?_
                    rintro e w4b ⟨rfl, rfl⟩
                    rw [HD1.out]
                    go_wp2_with fail
                    refine Calls.mono (HG2.out _) ?_
                    rintro e w5 ⟨rfl, hb5⟩
                    have HB5 := hid (HB4.out.trans (hb5.mono hs4))
                    have hs5 := HB5.out.size
                    have HO5 := hid (ownsRow_kept_all' HO4.out (w' := w5) fun k hk => hb5.block k (HO4.out.lt k hk).2)
                    clear hb5
                    rw [HZu2.out]
                    have hg0 : w.heap.size ≤ g0 ∧ g0 < w5.heap.size := HO5.out.lt g0 rfl
                    have hnX : (Value.slice (some ⟨g0, 0, none⟩) l.length cap0).ownBlock ≠ some w5.heap.size := by
                      show some g0 ≠ some w5.heap.size
                      simp; omega
                    have hx6 : BoxS w5.heap.size (w5.alloc (boxS z1 z2)) (z1, z2) := BoxS.new w5 (z1, z2)
                    have HX6 := hid hx6
                    have HO6 := hid (HO5.out.alloc (boxS z1 z2))
                    have HB6 := hid (HB5.out.alloc hs5 (boxS z1 z2))
                    obtain ⟨d0, d1⟩ := hx6.cells
                    obtain ⟨f0, f1⟩ := hx6.frozen
                    have p0 := HO6.out.cellAt ((l.length - 1) * 2) (by omega)
                    rw [(sv_get l (l.length - 1) (by omega)).1] at p0
                    clear hx6
                    go_wp2_with fail
                    generalize w5.alloc (.cells #[.int .i64 z1, .int .i64 z2] 52) = w6 at *
                    refine wp_region_still_tail 10 (by kernel_rfl) (by kernel_rfl) ?_
                    iterate 10 still_step
                    refine wpStill_nil ?_
                    obtain ⟨⟨hx7, ho7, hb7⟩, _⟩ := box_set HX6.out HO6.out hnX HB6.out hs5 (wrap64 (z1 + (CL.at' l (l.length - 1)).1))
                    have HX7 := hid hx7
                    have HO7a := hid ho7
                    have HB7a := hid hb7
                    obtain ⟨d0, d1⟩ := hx7.cells
                    obtain ⟨f0, f1⟩ := hx7.frozen
                    have p1 := HO7a.out.cellAt ((l.length - 1) * 2 + 1) (by omega)
                    rw [(sv_get l (l.length - 1) (by omega)).2] at p1
                    clear hx7 ho7 hb7
                    go_wp2_with fail
                    generalize (w6.setCell ⟨w5.heap.size, 0, none⟩ (.int .i64 (wrap64 (z1 + (CL.at' l (l.length - 1)).1)))).drew = w7a at *
                    refine wp_region_still_tail 10 (by kernel_rfl) (by kernel_rfl) ?_
                    iterate 10 still_step
                    refine wpStill_nil ?_
                    obtain ⟨_, ⟨hx8, ho8, hb8⟩⟩ := box_set HX7.out HO7a.out hnX HB7a.out hs5 (wrap64 (z2 + (CL.at' l (l.length - 1)).2))
                    have HX8 := hid hx8
                    have HO8a := hid ho8
                    have HB8a := hid hb8
                    clear hx8 ho8 hb8
                    have hs8a : w.heap.size ≤ w7a.heap.size := HB7a.out.size
                    go_wp2_with (at_builtin; refine wpList_append_own _ rfl (.tmp 100) (.tmp 102) 53 rfl w.heap.size 52 i (.agg #[.int .i64 0, .int .i64 0]) 2 16 Tryz.underlying53 HI0.out HZ0.out HZ1.out HZ2.out rfl (by decide) _ l.length (sv l) rfl (HO8a.out.alloc _) ⟨w7a.heap.size, 0, none⟩ 1 1 [.int .i64 (wrap64 (z1 + (CL.at' l (l.length - 1)).1)), .int .i64 (wrap64 (z2 + (CL.at' l (l.length - 1)).2))] rfl rfl (two_news' _ _ (by simp) _ _ _) (two_i64 _ _) (by unfold maxLen; omega) (by omega) (by simp; omega) ?_)
                    intro v7 w7 hown7 hgrow _
                    have HB7 := hid ((HB8a.out.alloc HB8a.out.size _).grown hgrow (by simp; omega) (fun j hj => (HO8a.out.lt j hj).1))
                    obtain ⟨g, cap7, hv7, hc7, hm7⟩ := own_form hown7 (by omega)
                    subst hv7
                    have HO7 : Hid (w7.ownsRow w.heap.size 52 2 (.slice (some ⟨g, 0, none⟩) (l.length + 1) cap7) (l ++ [(wrap64 (z1 + (CL.at' l (l.length - 1)).1), wrap64 (z2 + (CL.at' l (l.length - 1)).2))]).length (sv (l ++ [(wrap64 (z1 + (CL.at' l (l.length - 1)).1), wrap64 (z2 + (CL.at' l (l.length - 1)).2))]))) := by
                      show World.ownsRow _ _ _ _ _ _ _
                      rw [List.length_append, sv_append]; exact hown7
                    have hs7 := HB7.out.size
                    clear hown7 hgrow
                    obtain ⟨LOv, hLO⟩ : ∃ a, (max ((l.length : Int) - 1) 0).toNat = a := ⟨_, rfl⟩
                    have hLOl : LOv ≤ l.length := by omega
                    have HLO := hid hLO
                    clear hLO
                    have HSd := hid (srow_drop HO7.out (by simp) LOv (by go_size))
                    have hdl : ((l ++ [(wrap64 (z1 + (CL.at' l (l.length - 1)).1), wrap64 (z2 + (CL.at' l (l.length - 1)).2))]).drop LOv).length = l.length + 1 - LOv := by rw [List.length_drop, List.length_append]; rfl
                    rcases hrt : CL.right ((l ++ [(wrap64 (z1 + (CL.at' l (l.length - 1)).1), wrap64 (z2 + (CL.at' l (l.length - 1)).2))]).drop LOv) with _ | _
                    · have HPn := hid (HJn.out.sub LOv hrt)
                      have HRt := hid hrt
                      clear hrt
                      have HRA := hid (rsamples_any _ _ (cap7 - LOv) w7 HSd.out (by go_size))
                      rw [HRt.out, hdl] at HRA
                      go_wp2_with fail
                      rw [HLO.out]
                      refine Calls.mono HRA.out ?_
                      rintro e w8 ⟨rfl, hb8⟩
                      have HB8 := hid (HB7.out.trans (hb8.mono hs7))
                      clear hb8
                      go_wp2_with fail
                      go_ret2
                      rw [HPn.out]
                      exact ⟨rfl, HB8.out⟩
                    · have HRt := hid hrt
                      clear hrt
                      have HRA := hid (rsamples_any _ _ (cap7 - LOv) w7 HSd.out (by go_size))
                      rw [HRt.out, hdl] at HRA
                      go_wp2_with fail
                      rw [HLO.out]
                      refine Calls.mono HRA.out ?_
                      rintro e w8 ⟨rfl, hb8⟩
                      have HB8 := hid (HB7.out.trans (hb8.mono hs7))
                      have HO8 := hid (ownsRow_kept_all' HO7.out (w' := w8) fun k hk => hb8.block k (HO7.out.lt k hk).2)
                      clear hb8
                      go_wp2_with fail
                      go_roundw
                      case rel =>
                        refine ⟨l ++ [(wrap64 (z1 + (CL.at' l (l.length - 1)).1), wrap64 (z2 + (CL.at' l (l.length - 1)).2))], r2, by rw [List.length_append]; exact hlt, ?_, rfl, by omega, HJn.out, HRn.out, ?_, HB8.out⟩
                        · rw [List.length_append]; go_num
                        · have h8 := HO8.out
                          rw [List.length_append] at h8 ⊢
                          exact h8
                      case measure => simp [intOf]; omega
                  · have hnx := nxt_two z1 z2 l (by omega)
                    rw [hnx] at HJn HRn
                    clear hnx
                    have hgt1 : (1 : Int) < (l.length : Int) := by omega
                    have hl2a : 2 ≤ l.length := by omega
                    have hix2 : ((l.length : Int) - 2).toNat = l.length - 2 := by omega
                    have htwo : (2 : Int) ≤ (l.length : Int) := by omega
                    have hwq2 : IntKind.i64.wrap ((l.length : Int) - 2) = (l.length : Int) - 2 := by rw [IntKind.wrap_i64]; omega
                    have hi2 : 0 ≤ (l.length : Int) - 2 ∧ (l.length : Int) - 2 < (l.length : Int) := by omega
                    clear h1 h0
                    obtain ⟨g0, cap0, hu7, _, _⟩ := own_form HO.out (by omega)
                    subst hu7
                    have hgt : (0 : Int) < (l.length : Int) := by omega
                    have hix : ((l.length : Int) - 1).toNat = l.length - 1 := by omega
                    have hi1 : 0 ≤ (l.length : Int) - 1 ∧ (l.length : Int) - 1 < (l.length : Int) := by omega
                    have hone : (1 : Int) ≤ (l.length : Int) := by omega
                    have hwq : IntKind.i64.wrap ((l.length : Int) - 1) = (l.length : Int) - 1 := by rw [IntKind.wrap_i64]; omega
                    go_wp2_with fail
                    refine Calls.mono (HG1.out _) ?_
                    rintro e w4 ⟨rfl, hb4⟩
                    rw [HZu1.out]
                    have HB4 := hid (HB.out.trans (hb4.mono hsz))
                    have hs4 := HB4.out.size
                    have HO4 := hid (ownsRow_kept_all' HO.out (w' := w4) fun k hk => hb4.block k (HO.out.lt k hk).2)
                    clear hb4
                    go_wp2_with fail
                    refine (rin_any _ _ _ _).mono ?_
                    rintro e w4b ⟨rfl, rfl⟩
                    rw [HD1.out]
                    go_wp2_with fail
                    refine Calls.mono (HG2.out _) ?_
                    rintro e w5 ⟨rfl, hb5⟩
                    have HB5 := hid (HB4.out.trans (hb5.mono hs4))
                    have hs5 := HB5.out.size
                    have HO5 := hid (ownsRow_kept_all' HO4.out (w' := w5) fun k hk => hb5.block k (HO4.out.lt k hk).2)
                    clear hb5
                    rw [HZu2.out]
                    have hg0 : w.heap.size ≤ g0 ∧ g0 < w5.heap.size := HO5.out.lt g0 rfl
                    have hnX : (Value.slice (some ⟨g0, 0, none⟩) l.length cap0).ownBlock ≠ some w5.heap.size := by
                      show some g0 ≠ some w5.heap.size
                      simp; omega
                    have hx6 : BoxS w5.heap.size (w5.alloc (boxS z1 z2)) (z1, z2) := BoxS.new w5 (z1, z2)
                    have HX6 := hid hx6
                    have HO6 := hid (HO5.out.alloc (boxS z1 z2))
                    have HB6 := hid (HB5.out.alloc hs5 (boxS z1 z2))
                    obtain ⟨d0, d1⟩ := hx6.cells
                    obtain ⟨f0, f1⟩ := hx6.frozen
                    have p0 := HO6.out.cellAt ((l.length - 1) * 2) (by omega)
                    rw [(sv_get l (l.length - 1) (by omega)).1] at p0
                    clear hx6
                    go_wp2_with fail
                    generalize w5.alloc (.cells #[.int .i64 z1, .int .i64 z2] 52) = w6 at *
                    refine wp_region_still_tail 10 (by kernel_rfl) (by kernel_rfl) ?_
                    iterate 10 still_step
                    refine wpStill_nil ?_
                    obtain ⟨⟨hx7, ho7, hb7⟩, _⟩ := box_set HX6.out HO6.out hnX HB6.out hs5 (wrap64 (z1 + (CL.at' l (l.length - 1)).1))
                    have HX7 := hid hx7
                    have HO7a := hid ho7
                    have HB7a := hid hb7
                    obtain ⟨d0, d1⟩ := hx7.cells
                    obtain ⟨f0, f1⟩ := hx7.frozen
                    have p1 := HO7a.out.cellAt ((l.length - 1) * 2 + 1) (by omega)
                    rw [(sv_get l (l.length - 1) (by omega)).2] at p1
                    clear hx7 ho7 hb7
                    go_wp2_with fail
                    generalize (w6.setCell ⟨w5.heap.size, 0, none⟩ (.int .i64 (wrap64 (z1 + (CL.at' l (l.length - 1)).1)))).drew = w7a at *
                    refine wp_region_still_tail 10 (by kernel_rfl) (by kernel_rfl) ?_
                    iterate 10 still_step
                    refine wpStill_nil ?_
                    obtain ⟨_, ⟨hx8, ho8, hb8⟩⟩ := box_set HX7.out HO7a.out hnX HB7a.out hs5 (wrap64 (z2 + (CL.at' l (l.length - 1)).2))
                    have HX8 := hid hx8
                    have HO8a := hid ho8
                    have HB8a := hid hb8
                    obtain ⟨d0, d1⟩ := hx8.cells
                    obtain ⟨f0, f1⟩ := hx8.frozen
                    have p2 := HO8a.out.cellAt ((l.length - 1) * 2) (by omega)
                    rw [(sv_get l (l.length - 1) (by omega)).1] at p2
                    have p3 := HO8a.out.cellAt ((l.length - 2) * 2) (by omega)
                    rw [(sv_get l (l.length - 2) (by omega)).1] at p3
                    clear hx8 ho8 hb8
                    go_wp2_with fail
                    generalize (w7a.setCell ⟨w5.heap.size, 1, none⟩ (.int .i64 (wrap64 (z2 + (CL.at' l (l.length - 1)).2)))).drew = w8a at *
                    refine wp_region_still_tail 17 (by kernel_rfl) (by kernel_rfl) ?_
                    iterate 17 still_step
                    refine wpStill_nil ?_
                    obtain ⟨⟨hx9, ho9, hb9⟩, _⟩ := box_set HX8.out HO8a.out hnX HB8a.out hs5 (wrap64 (wrap64 (z1 + (CL.at' l (l.length - 1)).1) + wrap64 ((CL.at' l (l.length - 1)).1 - (CL.at' l (l.length - 2)).1)))
                    have HO9a := hid ho9
                    have HB9a := hid hb9
                    have hs9a : w.heap.size ≤ w8a.heap.size := HB8a.out.size
                    clear hx9 ho9 hb9
                    go_wp2_with (at_builtin; refine wpList_append_own _ rfl (.tmp 100) (.tmp 102) 53 rfl w.heap.size 52 i (.agg #[.int .i64 0, .int .i64 0]) 2 16 Tryz.underlying53 HI0.out HZ0.out HZ1.out HZ2.out rfl (by decide) _ l.length (sv l) rfl (HO9a.out.alloc _) ⟨w8a.heap.size, 0, none⟩ 1 1 [.int .i64 (wrap64 (wrap64 (z1 + (CL.at' l (l.length - 1)).1) + wrap64 ((CL.at' l (l.length - 1)).1 - (CL.at' l (l.length - 2)).1))), .int .i64 (wrap64 (z2 + (CL.at' l (l.length - 1)).2))] rfl rfl (two_news' _ _ (by simp) _ _ _) (two_i64 _ _) (by unfold maxLen; omega) (by omega) (by simp; omega) ?_)
                    intro v7 w7 hown7 hgrow _
                    have HB7 := hid ((HB9a.out.alloc HB9a.out.size _).grown hgrow (by simp; omega) (fun j hj => (HO9a.out.lt j hj).1))
                    obtain ⟨g, cap7, hv7, hc7, hm7⟩ := own_form hown7 (by omega)
                    subst hv7
                    have HO7 : Hid (w7.ownsRow w.heap.size 52 2 (.slice (some ⟨g, 0, none⟩) (l.length + 1) cap7) (l ++ [(wrap64 (wrap64 (z1 + (CL.at' l (l.length - 1)).1) + wrap64 ((CL.at' l (l.length - 1)).1 - (CL.at' l (l.length - 2)).1)), wrap64 (z2 + (CL.at' l (l.length - 1)).2))]).length (sv (l ++ [(wrap64 (wrap64 (z1 + (CL.at' l (l.length - 1)).1) + wrap64 ((CL.at' l (l.length - 1)).1 - (CL.at' l (l.length - 2)).1)), wrap64 (z2 + (CL.at' l (l.length - 1)).2))]))) := by
                      show World.ownsRow _ _ _ _ _ _ _
                      rw [List.length_append, sv_append]; exact hown7
                    have hs7 := HB7.out.size
                    clear hown7 hgrow
                    obtain ⟨LOv, hLO⟩ : ∃ a, (max ((l.length : Int) - 1) 0).toNat = a := ⟨_, rfl⟩
                    have hLOl : LOv ≤ l.length := by omega
                    have HLO := hid hLO
                    clear hLO
                    have HSd := hid (srow_drop HO7.out (by simp) LOv (by go_size))
                    have hdl : ((l ++ [(wrap64 (wrap64 (z1 + (CL.at' l (l.length - 1)).1) + wrap64 ((CL.at' l (l.length - 1)).1 - (CL.at' l (l.length - 2)).1)), wrap64 (z2 + (CL.at' l (l.length - 1)).2))]).drop LOv).length = l.length + 1 - LOv := by rw [List.length_drop, List.length_append]; rfl
                    rcases hrt : CL.right ((l ++ [(wrap64 (wrap64 (z1 + (CL.at' l (l.length - 1)).1) + wrap64 ((CL.at' l (l.length - 1)).1 - (CL.at' l (l.length - 2)).1)), wrap64 (z2 + (CL.at' l (l.length - 1)).2))]).drop LOv) with _ | _
                    · have HPn := hid (HJn.out.sub LOv hrt)
                      have HRt := hid hrt
                      clear hrt
                      have HRA := hid (rsamples_any _ _ (cap7 - LOv) w7 HSd.out (by go_size))
                      rw [HRt.out, hdl] at HRA
                      go_wp2_with fail
                      rw [HLO.out]
                      refine Calls.mono HRA.out ?_
                      rintro e w8 ⟨rfl, hb8⟩
                      have HB8 := hid (HB7.out.trans (hb8.mono hs7))
                      clear hb8
                      go_wp2_with fail
                      go_ret2
                      rw [HPn.out]
                      exact ⟨rfl, HB8.out⟩
                    · have HRt := hid hrt
                      clear hrt
                      have HRA := hid (rsamples_any _ _ (cap7 - LOv) w7 HSd.out (by go_size))
                      rw [HRt.out, hdl] at HRA
                      go_wp2_with fail
                      rw [HLO.out]
                      refine Calls.mono HRA.out ?_
                      rintro e w8 ⟨rfl, hb8⟩
                      have HB8 := hid (HB7.out.trans (hb8.mono hs7))
                      have HO8 := hid (ownsRow_kept_all' HO7.out (w' := w8) fun k hk => hb8.block k (HO7.out.lt k hk).2)
                      clear hb8
                      go_wp2_with fail
                      go_roundw
                      case rel =>
                        refine ⟨l ++ [(wrap64 (wrap64 (z1 + (CL.at' l (l.length - 1)).1) + wrap64 ((CL.at' l (l.length - 1)).1 - (CL.at' l (l.length - 2)).1)), wrap64 (z2 + (CL.at' l (l.length - 1)).2))], r2, by rw [List.length_append]; exact hlt, ?_, rfl, by omega, HJn.out, HRn.out, ?_, HB8.out⟩
                        · rw [List.length_append]; go_num
                        · have h8 := HO8.out
                          rw [List.length_append] at h8 ⊢
                          exact h8
                      case measure => simp [intOf]; omega
            · have HPn := hid (HJ.out.range hlt HGu1.out hrng)
              have HD1 : Hid (decide (-8796093022208 ≤ BL.zag u1 ∧ BL.zag u1 ≤ 8796093022208) = false) := decide_eq_false hrng
              clear hrng
              generalize hzu1 : BL.zag u1 = z1 at *
              have HZu1 := hid hzu1
              clear hzu1
              go_wp2_with fail
              refine Calls.mono (HG1.out _) ?_
              rintro e w4 ⟨rfl, hb4⟩
              rw [HZu1.out]
              have HB4 := hid (HB.out.trans (hb4.mono hsz))
              have hs4 := HB4.out.size
              have HO4 := hid (ownsRow_kept_all' HO.out (w' := w4) fun k hk => hb4.block k (HO.out.lt k hk).2)
              clear hb4
              go_wp2_with fail
              refine (rin_any _ _ _ _).mono ?_
              rintro e w4b ⟨rfl, rfl⟩
              rw [HD1.out]
              go_wp2_with fail
              go_ret2
              rw [HPn.out]
              exact ⟨rfl, HB4.out⟩
        · have he : l.length = n := by omega
          subst he
          rcases hrt : CL.right l with _ | _
          · have HPn : Hid (P = none) := by
              show _ = _
              rcases hPP : P with _ | L
              · rfl
              · have := (HJ.out.whole L hPP).2
                rw [hrt] at this; cases this
            have HRt := hid hrt
            clear hrt
            obtain ⟨ao, cap, hv, hS⟩ := SRow.of_own HO.out
            subst hv
            have HS := hid hS
            clear hS
            go_wp2_with fail
            refine (rwrite_bad ao l cap _ HS.out (by omega) HRt.out).mono ?_
            rintro e w4 ⟨rfl, hb4⟩
            have HB4 := hid (HB.out.trans (hb4.mono hsz))
            clear hb4
            go_wp2_with fail
            go_ret2
            rw [HPn.out]
            exact ⟨rfl, HB4.out⟩
          · have HRt := hid hrt
            clear hrt
            obtain ⟨ao, cap, hv, hS⟩ := SRow.of_own HO.out
            subst hv
            have HS := hid hS
            clear hS
            by_cases hst : strOf (BL.pk (CL.chB l)) = s
            · have HPs := hid (HRW.out l HRt.out HRs.out hst)
              have HST := hid hst
              clear hst
              go_wp2_with fail
              refine (rwrite_ok ao l cap _ HS.out HRs.out HRt.out).mono ?_
              rintro e w4 ⟨rfl, hb4⟩
              rw [HST.out]
              have HB4 := hid (HB.out.trans (hb4.mono hsz))
              have HO4 := hid (ownsRow_kept_all' HO.out (w' := w4) fun k hk => hb4.block k (HO.out.lt k hk).2)
              clear hb4
              go_wp2_with fail
              go_ret2
              rw [HPs.out]
              exact ⟨_, rfl, HO4.out, HB4.out⟩
            · have HPn : Hid (P = none) := by
                show _ = _
                rcases hPP : P with _ | L
                · rfl
                · have h1 := HWR.out L hPP
                  have h2 := (HJ.out.whole L hPP).1
                  subst h2
                  exact absurd h1 hst
              go_wp2_with fail
              refine (rwrite_ok ao l cap _ HS.out HRs.out HRt.out).mono ?_
              rintro e w4 ⟨rfl, hb4⟩
              have HB4 := hid (HB.out.trans (hb4.mono hsz))
              clear hb4
              generalize strOf (BL.pk (CL.chB l)) = st at *
              have hq3 := ba_ne st s hst
              have hq1 : (st == s) = false := (beq_toListBytes st s).trans hq3
              have hq2 : (st != s) = true := by simp [bne, hq1]
              go_wp2_with fail
              go_ret2
              rw [HPn.out]
              exact ⟨rfl, HB4.out⟩
    · have HPn : Hid (P = none) := by show _ = _; rw [← HP.out]; exact none_of_count _ u r HGu.out (by rw [HZu.out]; exact hz)
      have HD0 : Hid (decide ((0 : Int) ≤ z ∧ z ≤ 2000) = false) := decide_eq_false hz
      go_enter Tryz.func74, Tryz.ntmps74
      go_wp2_with fail
      refine (of_any s _ (by omega)).mono ?_
      rintro e w1 ⟨rfl, hb1⟩
      have HB1 := hid hb1
      have hs1 := hb1.size
      clear hb1
      go_wp2_with fail
      refine Calls.mono (HG.out w1) ?_
      rintro e w2 ⟨rfl, hb2⟩
      rw [HZu.out]
      have HB2 := hid (HB1.out.trans (hb2.mono hs1))
      clear hb2
      go_wp2_with fail
      refine (rin_any _ _ _ _).mono ?_
      rintro e w3 ⟨rfl, rfl⟩
      rw [HD0.out]
      go_wp2_with fail
      go_ret2
      rw [HPn.out]
      exact ⟨rfl, HB2.out⟩

end Go.Proofs.YtdmnlmohfaafoadGreatDoor
