/- raingaugelaw.BitsRead, walked: the numbers that bits are, read one behind the other, are the document's. -/
import Derived.Test.YtdmnlmohfaafoaaDoorBitRefG
import Derived.Test.YtdmnlmohfaafoaaDoorBitBare
namespace Go.Proofs.YtdmnlmohfaafoaaDoor
open Go.RowKit

theorem RInv.kept {R : Nat} {w w' : World} {s : ByteArray} {p : Nat} (h : RInv R w s p) (hb : Below w.heap.size w w') : RInv R w' s p := by
  obtain ⟨h0, h1, h2, h3, h4⟩ := h
  exact ⟨(hb.cell h3).trans h0, (hb.cell h3).trans h1, (hb.frozen h3).trans h2, Nat.lt_of_lt_of_le h3 hb.size, h4⟩

theorem ErrT.only {R : Nat} {w w' : World} (h : ErrT w) (hb : Only R w w') (hB : 2 < R) : ErrT w' :=
  (World.cell?_of_block (w := w) (a := ⟨2, 0, none⟩) (hb.block _ (by show 2 ≠ R; omega))).trans h

set_option maxHeartbeats 400000 in
theorem read_long (s : ByteArray) (ao : Option Addr) (len cap : Nat) (w : World) (h : 120 < s.size ∨ 40 < len) :
    Calls Tryd.prog 4 #[.string s, .slice ao len cap] w fun e w' => e = .returned (.bool true) ∧ w' = w := by
  by_cases h1 : 120 < s.size
  · have h' : (120 : Int) < (s.size : Int) := by omega
    go_enter Tryd.func4, Tryd.ntmps4
    go_wp2
    go_ret
    exact ⟨rfl, rfl⟩
  · have h' : ¬ (120 : Int) < (s.size : Int) := by omega
    have h2 : (40 : Int) < (len : Int) := by omega
    clear h
    go_enter Tryd.func4, Tryd.ntmps4
    go_wp2
    go_ret
    exact ⟨rfl, rfl⟩

set_option maxRecDepth 100000 in
set_option maxHeartbeats 3200000 in
theorem read_any (s : ByteArray) (ao : Option Addr) (len cap : Nat) (ks : Nat → Int) (w : World) (hs : s.size ≤ 120) (hlen : len ≤ 40) (hW : Wids w) (hE : ErrT w)
    (hc : ∀ i, i < len → ∃ b off, ao = some ⟨b, off, none⟩ ∧ w.cell? ⟨b, off + i, none⟩ = some (.int .i64 (ks i)) ∧ b < w.heap.size)
    (hk : ∀ i, i < len → -9223372036854775808 ≤ ks i ∧ ks i ≤ 9223372036854775807) :
    Calls Tryd.prog 4 #[.string s, .slice ao len cap] w fun e w' => e = .returned (.bool true) ∧ Below w.heap.size w w' := by
  have hG2 := hE.lt
  have hG : 0 < w.heap.size := World.block_lt_of_cell? _ _ (hW 0 (by omega))
  have h1' : ¬ (120 : Int) < (s.size : Int) := by omega
  have h2' : ¬ (40 : Int) < (len : Int) := by omega
  have HW := hid hW
  have HE := hid hE
  have HC := hid hc
  have HK := hid hk
  have HBL := hid (bitsS_length s)
  clear hW hE hc hk
  go_enter Tryd.func4, Tryd.ntmps4
  go_wp2_with fail
  refine (from_any s _).mono ?_
  rintro e w1 ⟨rfl, rfl⟩
  go_wp2_with fail
  refine (of_any s _ (by omega)).mono ?_
  rintro e w2 ⟨rfl, hb2⟩
  have HRI := hid ((RInv.new s w).kept hb2)
  have hB2 := ((Below.refl w.heap.size w).alloc (Nat.le_refl _) (.cells #[.string s, .int .i64 0] 79)).trans (hb2.mono (by simp))
  have HB2 := hid hB2
  have HW2 := hid (HW.out.below hB2 hG)
  have HE2 := hid (HE.out.below hB2 hG2)
  clear hb2 hB2
  go_wp2_with fail
  go_loopw [6, 7] (fun tb ti wr => ∃ k p : Nat, k ≤ len ∧ ti = .int .i64 k ∧ tb = .string (ltS ((bitsS s).drop p)) ∧ RInv w.heap.size wr s p ∧ Below w.heap.size w wr ∧ Wids wr ∧ ErrT wr) (fun _ ti _ => len - (intOf ti).toNat)
  case atStart => exact ⟨0, 0, by omega, rfl, rfl, HRI.out, HB2.out, HW2.out, HE2.out⟩
  case round =>
    obtain ⟨k, p, hk, rfl, rfl, hri, hbel, hwid, herr⟩ := hrel
    have HR0 := hid hri
    have HB0 := hid hbel
    have HW0 := hid hwid
    have HE0 := hid herr
    have hsz := hbel.size
    have hpl := hri.2.2.2.2
    clear hri hbel hwid herr HRI HB2 HW2 HE2
    by_cases hlt : k < len
    · obtain ⟨b, off, hao, hc0, hbs⟩ := HC.out k hlt
      obtain ⟨hk1, hk2⟩ := HK.out k hlt
      subst hao
      have hcell := (HB0.out.cell (p := ⟨b, off + k, none⟩) hbs).trans hc0
      generalize ks k = K at *
      clear hc0
      generalize hdr : (bitsS s).drop p = r at *
      have HDR := hid hdr
      have hrl : r.length ≤ 960 := by have := drop_len HR0.out hdr; omega
      have hln0 := drop_len HR0.out hdr
      have HLN := hid hln0
      clear hdr hln0
      by_cases hneg : K < 0
      · have HG := hid (rget_any r wr (by omega))
        rcases hgl : BL.getL r with _ | ⟨u, r2⟩
        · rw [hgl] at HG
          have HGL := hid hgl
          clear hgl
          go_wp2_with fail
          refine Calls.mono HG.out ?_
          rintro e w2 ⟨rfl, hb2⟩
          have HG2 := hid (get_any w.heap.size s p w2 (HR0.out.kept hb2) (by omega) (HW0.out.below hb2 (by omega)) hG)
          have HE2 := hid (HE0.out.below hb2 (by omega))
          have HB2 := hid (HB0.out.trans (hb2.mono hsz))
          rw [HDR.out, HGL.out] at HG2
          clear hb2
          go_wp2_with fail
          refine Calls.mono HG2.out ?_
          rintro e w3 ⟨rfl, p3, hri3, ho3⟩
          have HB3 := hid (HB2.out.trans (ho3.below (Nat.le_refl _)))
          have HE3 := hid (HE2.out.only ho3 hG2)
          clear hri3 ho3
          go_wp2_with fail
          refine (bare_errno 3 3 _ HE3.out).mono ?_
          rintro e w4 ⟨rfl, hb4⟩
          have HB4 := hid (HB3.out.trans (hb4.mono HB3.out.size))
          clear hb4
          go_wp2_with fail
          go_ret
          exact ⟨rfl, HB4.out⟩
        · rw [hgl] at HG
          have HGL := hid hgl
          clear hgl
          go_wp2_with fail
          refine Calls.mono HG.out ?_
          rintro e w2 ⟨rfl, hb2⟩
          have HG2 := hid (get_any w.heap.size s p w2 (HR0.out.kept hb2) (by omega) (HW0.out.below hb2 (by omega)) hG)
          have HE2 := hid (HE0.out.below hb2 (by omega))
          have HW2 := hid (HW0.out.below hb2 (by omega))
          have HB2 := hid (HB0.out.trans (hb2.mono hsz))
          rw [HDR.out, HGL.out] at HG2
          clear hb2
          go_wp2_with fail
          refine Calls.mono HG2.out ?_
          rintro e w3 ⟨rfl, p3, hri3, ho3, hdr3⟩
          have HB9 := hid (HB2.out.trans (ho3.below (Nat.le_refl _)))
          have HE9 := hid (HE2.out.only ho3 hG2)
          have HW9 := hid (HW2.out.only ho3 hG)
          have HRI9 := hid hri3
          have HDR9 := hid hdr3
          clear hri3 ho3 hdr3
          have hln := drop_len HRI9.out HDR9.out
          have hne9 : ((8 * (s.size : Int) - (p3 : Int)) != ((r2).length : Int)) = false := by rw [bne_eq_false_iff_eq]; omega
          have hs9 := ltS_size (r2)
          clear hln
          go_wp2_with fail
          refine (left_any w.heap.size s _ _ HRI9.out (by omega)).mono ?_
          rintro e w9 ⟨rfl, rfl⟩
          go_wp2_with fail
          go_roundw
          case rel => exact ⟨k + 1, _, by omega, by go_num, by rw [HDR9.out], HRI9.out.drew, HB9.out.drew, HW9.out, HE9.out⟩
          case measure => simp [intOf]; omega
      · by_cases hbig : 64 < K
        · go_wp2_with fail
          refine (rbits_range w.heap.size K _ (.inr hbig)).mono ?_
          rintro e w2 ⟨rfl, rfl⟩
          go_wp2_with fail
          refine (bare_errno 2 2 _ HE0.out).mono ?_
          rintro e w4 ⟨rfl, hb4⟩
          have HB9 := hid (HB0.out.trans (hb4.mono hsz))
          have HE9 := hid (HE0.out.below hb4 (by omega))
          have HW9 := hid (HW0.out.below hb4 (by omega))
          have HRI9 := hid (HR0.out.kept hb4)
          have HDR9 := HDR
          clear hb4
          have hln := drop_len HRI9.out HDR9.out
          have hne9 : ((8 * (s.size : Int) - (p : Int)) != ((r).length : Int)) = false := by rw [bne_eq_false_iff_eq]; omega
          have hs9 := ltS_size (r)
          clear hln
          go_wp2_with fail
          refine (left_any w.heap.size s _ _ HRI9.out (by omega)).mono ?_
          rintro e w9 ⟨rfl, rfl⟩
          go_wp2_with fail
          go_roundw
          case rel => exact ⟨k + 1, _, by omega, by go_num, by rw [HDR9.out], HRI9.out.drew, HB9.out.drew, HW9.out, HE9.out⟩
          case measure => simp [intOf]; omega
        · obtain ⟨q, rfl⟩ := Int.eq_ofNat_of_zero_le (show 0 ≤ K by omega)
          have hsr := ltS_size r
          by_cases hfew : r.length < q
          · have hfi : (r.length : Int) < (q : Int) := by omega
            go_wp2_with fail
            refine (rbits_few w.heap.size s p q _ HR0.out (by omega) (by omega) (by have := HLN.out; omega)).mono ?_
            rintro e w2 ⟨rfl, rfl⟩
            go_wp2_with fail
            refine (bare_errno 3 3 _ (show ErrT wr.drew from HE0.out)).mono ?_
            rintro e w4 ⟨rfl, hb4⟩
            have HB9 := hid (HB0.out.drew.trans (hb4.mono hsz))
            have HE9 := hid ((show ErrT wr.drew from HE0.out).below hb4 (by show _ < wr.heap.size; omega))
            have HW9 := hid ((show Wids wr.drew from HW0.out).below hb4 (by show _ < wr.heap.size; omega))
            have HRI9 := hid (HR0.out.drew.kept hb4)
            have HDR9 := HDR
            clear hb4 hsr
            have hln := drop_len HRI9.out HDR9.out
            have hne9 : ((8 * (s.size : Int) - (p : Int)) != ((r).length : Int)) = false := by rw [bne_eq_false_iff_eq]; omega
            have hs9 := ltS_size (r)
            clear hln
            go_wp2_with fail
            refine (left_any w.heap.size s _ _ HRI9.out (by omega)).mono ?_
            rintro e w9 ⟨rfl, rfl⟩
            go_wp2_with fail
            go_roundw
            case rel => exact ⟨k + 1, _, by omega, by go_num, by rw [HDR9.out], HRI9.out.drew, HB9.out.drew, HW9.out, HE9.out⟩
            case measure => simp [intOf]; omega
          · have hfi : (q : Int) ≤ (r.length : Int) := by omega
            have hx0 := ltS_front r q
            have hx1 := ltS_rest r q
            rw [hsr] at hx1
            have htl : (r.take q).length ≤ 64 := by rw [List.length_take]; omega
            go_wp2_with fail
            refine (rbits_any w.heap.size s p q _ HR0.out (by omega) (by omega) (by have := HLN.out; omega)).mono ?_
            rintro e w2 ⟨rfl, hri2, ho2⟩
            rw [HDR.out]
            have HB9 := hid (HB0.out.trans (ho2.below (Nat.le_refl _)))
            have HE9 := hid (HE0.out.only ho2 hG2)
            have HW9 := hid (HW0.out.only ho2 hG)
            have HRI9 := hid hri2
            have HDR9 : Hid ((bitsS s).drop (p + q) = r.drop q) := by show _ = _; rw [← List.drop_drop, HDR.out]
            clear hri2 ho2
            go_wp2_with fail
            refine (value_any (r.take q) _ htl).mono ?_
            rintro e w3 ⟨rfl, rfl⟩
            generalize p + q = p9 at *
            generalize r.drop q = r9 at *
            have hln := drop_len HRI9.out HDR9.out
            have hne9 : ((8 * (s.size : Int) - (p9 : Int)) != ((r9).length : Int)) = false := by rw [bne_eq_false_iff_eq]; omega
            have hs9 := ltS_size r9
            clear hln
            go_wp2_with fail
            refine (left_any w.heap.size s _ _ HRI9.out (by omega)).mono ?_
            rintro e w9 ⟨rfl, rfl⟩
            go_wp2_with fail
            go_roundw
            case rel => exact ⟨k + 1, _, by omega, by go_num, by rw [HDR9.out], HRI9.out.drew, HB9.out.drew, HW9.out, HE9.out⟩
            case measure => simp [intOf]; omega
    · go_wp2
      go_ret
      exact ⟨rfl, HB0.out⟩

end Go.Proofs.YtdmnlmohfaafoaaDoor
