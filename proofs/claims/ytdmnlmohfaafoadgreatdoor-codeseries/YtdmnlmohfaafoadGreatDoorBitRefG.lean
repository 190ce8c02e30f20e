/- What the document's own answer says of bits: Value and Get. -/
import Derived.Test.YtdmnlmohfaafoadGreatDoorBitRefP
import Derived.Test.YtdmnlmohfaafoadGreatDoorBitOf
import Derived.Test.YtdmnlmohfaafoadGreatDoorBitGet
namespace Go.Proofs.YtdmnlmohfaafoadGreatDoor
open Go.RowKit

theorem lt_at2 (bs : List Bool) (j : Nat) (h : j < bs.length) (hh : j < (ltS bs).size) : ((ltS bs)[j]'hh).toNat = 48 + (bs[j]).toNat := by
  show ((lt bs).toArray[j]'(by simp [lt_length]; exact h)).toNat = _
  simp only [List.getElem_toArray, lt, List.getElem_map]
  cases bs[j] <;> rfl

theorem val_take_succ (l : List Bool) (j : Nat) (h : j < l.length) : BL.val (l.take (j + 1)) = BL.val (l.take j) * 2 + (l[j]).toNat := by
  rw [List.take_succ_eq_append_getElem h, BL.val_append]
  simp [BL.val]

set_option maxRecDepth 100000 in
set_option maxHeartbeats 800000 in
theorem value_any (l : List Bool) (w : World) (hl : l.length ≤ 64) :
    Calls Tryz.prog 136 #[.string (ltS l)] w fun e w' => e = .returned (.int .u64 (BL.val l)) ∧ w' = w := by
  have hsz := ltS_size l
  have HSZ := hid hsz
  go_enter Tryz.func136, Tryz.ntmps136
  go_wp2
  go_loop [3, 7] (fun tu tj => ∃ j v : Nat, j ≤ l.length ∧ tj = .int .i64 j ∧ v = BL.val (l.take j) ∧ tu = .int .u64 v) (fun _ tj => l.length - (intOf tj).toNat)
  case atStart => exact ⟨0, 0, by omega, rfl, by simp [BL.val], rfl⟩
  case round =>
    obtain ⟨j, v, hj, rfl, hv, rfl⟩ := hrel
    have HV := hid hv
    by_cases hlt : j < l.length
    · have hvl : v * 2 + 1 < 18446744073709551616 := by
        have h1 := BL.val_lt (l.take j)
        rw [← hv] at h1
        have h2 : (l.take j).length ≤ j := List.length_take_le _ _
        have h3 : 2 ^ (l.take j).length ≤ 2 ^ 63 := Nat.pow_le_pow_right (by omega) (by omega)
        omega
      have hbx := lt_at2 l j hlt
      have HT := hid (val_take_succ l j hlt)
      have hjs : j < (ltS l).size := by rw [HSZ.out]; exact hlt
      have hbt : (l[j]).toNat ≤ 1 := by cases l[j] <;> simp
      generalize (l[j]).toNat = bt at *
      clear hv hsz
      go_wp2
      go_round
      case rel =>
        refine ⟨j + 1, v * 2 + bt, by omega, by go_num, by rw [HT.out, HV.out], ?_⟩
        rw [show (v : Int) * 2 + (48 + (bt : Int) - 48) = ((v * 2 + bt : Nat) : Int) by omega]
      case measure => simp [intOf]; omega
    · have he : j = l.length := by omega
      subst he
      clear hv
      go_wp2
      go_ret
      refine ⟨ret_int ?_, rfl⟩
      rw [HV.out, List.take_of_length_le (Nat.le_refl _)]

theorem ltS_extract (l : List Bool) (i j : Nat) : (ltS l).extract i j = ltS ((l.take j).drop i) := by
  apply ByteArray.ext
  rw [ByteArray.data_extract]
  unfold ltS lt
  apply Array.ext'
  simp [List.drop_take]

theorem ltS_rest (l : List Bool) (i : Nat) : (ltS l).extract i (ltS l).size = ltS (l.drop i) := by
  rw [ltS_extract, ltS_size, List.take_of_length_le (Nat.le_refl _)]

theorem ltS_front (l : List Bool) (j : Nat) : (ltS l).extract 0 j = ltS (l.take j) := by
  rw [ltS_extract, List.drop_zero]

theorem zig_zag (u : Nat) : BL.zig (BL.zag u) = u := by unfold BL.zig BL.zag; split <;> split <;> omega
theorem zag_range (u : Nat) (hu : u < 18446744073709551616) : -9223372036854775808 ≤ BL.zag u ∧ BL.zag u ≤ 9223372036854775807 := by unfold BL.zag; split <;> omega

theorem put_len_iff (u a : Nat) (ha : a ≤ 6) : ((BL.putL u).length : Int) = (a : Int) + (BL.wid a : Int) + min 1 (6 - (a : Int)) ↔ BL.nar u = a := by
  rw [BL.putL_length]
  have hn := BL.nar_le u
  have h1 : BL.nar u = 0 ∨ BL.nar u = 1 ∨ BL.nar u = 2 ∨ BL.nar u = 3 ∨ BL.nar u = 4 ∨ BL.nar u = 5 ∨ BL.nar u = 6 := by omega
  have h2 : a = 0 ∨ a = 1 ∨ a = 2 ∨ a = 3 ∨ a = 4 ∨ a = 5 ∨ a = 6 := by omega
  rcases h1 with h1 | h1 | h1 | h1 | h1 | h1 | h1 <;> rcases h2 with rfl | rfl | rfl | rfl | rfl | rfl | rfl <;> rw [h1] <;> decide

theorem getL_of (l : List Bool) (i : Nat) (r : List Bool) (h : BL.plc 6 l = some (i, r)) : BL.getL l = if r.length < BL.wid i then none else if BL.nar (BL.val (r.take (BL.wid i))) = i then some (BL.val (r.take (BL.wid i)), r.drop (BL.wid i)) else none := by
  unfold BL.getL; rw [h]

theorem val_take_lt (r : List Bool) (i : Nat) : BL.val (r.take (BL.wid i)) < 18446744073709551616 := by
  have h1 := BL.val_lt (r.take (BL.wid i))
  have h2 : (r.take (BL.wid i)).length ≤ BL.wid i := List.length_take_le _ _
  have hw := BL.wid_le i
  have h3 : 2 ^ (r.take (BL.wid i)).length ≤ 2 ^ 64 := Nat.pow_le_pow_right (by omega) (by omega)
  omega

/-- What the document's Get tells. -/
def RGetEnd (w : World) (e : Ending) (w' : World) : Option (Nat × List Bool) → Prop
  | none => e = .returned (.tuple #[.int .i64 0, .string ⟨#[]⟩, .bool false]) ∧ Below w.heap.size w w'
  | some (u, r) => e = .returned (.tuple #[.int .i64 (BL.zag u), .string (ltS r), .bool true]) ∧ Below w.heap.size w w'

set_option maxRecDepth 100000 in
set_option maxHeartbeats 1600000 in
theorem rget_any (l : List Bool) (w : World) (hl : l.length ≤ 16000) :
    Calls Tryz.prog 107 #[.string (ltS l)] w fun e w' => RGetEnd w e w' (BL.getL l) := by
  generalize hG : BL.getL l = G
  have HG := hid hG
  clear hG
  go_enter Tryz.func107, Tryz.ntmps107
  go_wp2
  go_loopw [0, 5] (fun tb ti wr => wr = w ∧ ∃ (a : Nat) (r : List Bool), a ≤ 6 ∧ ti = .int .i64 a ∧ tb = .string (ltS r) ∧ r.length ≤ 16000 ∧ BL.plc 6 l = (BL.plc (6 - a) r).map fun x => (x.1 + a, x.2)) (fun _ ti _ => 6 - (intOf ti).toNat)
  case atStart => exact ⟨rfl, 0, l, by omega, rfl, rfl, hl, by simp⟩
  case round =>
    obtain ⟨rfl, a, r, ha, rfl, rfl, hrl, hrel⟩ := hrel
    have HR := hid hrel
    clear hrel
    by_cases h6 : a < 6
    · obtain ⟨k, hk⟩ : ∃ k, 6 - a = k + 1 := ⟨5 - a, by omega⟩
      have HK := hid hk
      clear hk
      rcases r with _ | ⟨b, r⟩
      · have hz : (((ltS []).size : Int) == 0) = true := rfl
        go_wp2
        go_ret3
        have := HR.out
        rw [HK.out] at this
        have e : BL.plc (k + 1) [] = none := rfl
        rw [e] at this
        have hg := HG.out
        unfold BL.getL at hg
        rw [this] at hg
        simp only [Option.map_none] at hg
        rw [← hg]
        exact ⟨rfl, Below.refl _ _⟩
      · have hz : (((ltS (b :: r)).size : Int) == 0) = false := by rw [ltS_size, beq_eq_false_iff_ne]; simp; omega
        have hjs : 0 < (ltS (b :: r)).size := by rw [ltS_size]; simp
        have hbx := lt_at2 (b :: r) 0 (by simp)
        cases b
        · have HP : Hid (BL.plc 6 l = some (a, r)) := by
            show _ = _
            rw [HR.out, HK.out, plc_false]; simp
          have hx := ltS_rest (false :: r) 1
          rw [List.drop_one, List.tail_cons] at hx
          simp only [List.length_cons] at hrl
          have HGE := hid (HG.out.symm.trans (getL_of l a r HP.out))
          have hsz := ltS_size r
          have hwl := BL.wid_le a
          have hx0 := ltS_front r (BL.wid a)
          have hx1 := ltS_rest r (BL.wid a)
          rw [hsz] at hx1
          by_cases hfew : r.length < BL.wid a
          · have hfi : ((r.length : Nat) : Int) < (BL.wid a : Int) := by omega
            go_wp2_with fail
            refine (size_any a _ (by omega)).mono ?_
            rintro e w2 ⟨rfl, rfl⟩
            go_wp2_with fail
            go_ret3
            have := HGE.out
            rw [if_pos hfew] at this
            rw [this]
            exact ⟨rfl, Below.refl _ _⟩
          · have hfi : (BL.wid a : Int) ≤ ((r.length : Nat) : Int) := by omega
            have hvl := val_take_lt r a
            have htl : (r.take (BL.wid a)).length ≤ 64 := by rw [List.length_take]; omega
            obtain ⟨hz1, hz2⟩ := zag_range _ hvl
            have HZZ := hid (zig_zag (BL.val (r.take (BL.wid a))))
            have HLI := hid (put_len_iff (BL.val (r.take (BL.wid a))) a (by omega))
            have hps := ltS_size (BL.putL (BL.val (r.take (BL.wid a))))
            have hpb := (BL.putL_bounds (BL.val (r.take (BL.wid a)))).2.1
            go_wp2_with fail
            refine (size_any a _ (by omega)).mono ?_
            rintro e w2 ⟨rfl, rfl⟩
            go_wp2_with fail
            refine (value_any (r.take (BL.wid a)) _ htl).mono ?_
            rintro e w2 ⟨rfl, rfl⟩
            generalize hu : BL.val (r.take (BL.wid a)) = u at *
            have HU := hid hu
            clear hu
            go_wp2_with fail
            refine (rzag_any u _ hvl).mono ?_
            rintro e w2 ⟨rfl, rfl⟩
            go_wp2_with fail
            refine (rput_any [] (BL.zag u) _ (by simp) hz1 hz2).mono ?_
            rintro e w3 ⟨rfl, hb3⟩
            rw [HZZ.out, List.nil_append]
            have HB3 := hid hb3
            clear hb3
            by_cases hn : BL.nar u = a
            · have hne : (((BL.putL u).length : Int) != (a : Int) + (BL.wid a : Int) + min 1 (6 - (a : Int))) = false := by rw [bne_eq_false_iff_eq]; exact HLI.out.2 hn
              have HN := hid hn
              clear hn
              go_wp2_with fail
              refine wp_region_still_lit (by kernel_rfl) (by kernel_rfl) ?_
              iterate 7 still_step
              refine wpStill_nil ?_
              go_wp2
              go_ret3
              have hge := HGE.out
              rw [if_neg hfew, if_pos HN.out] at hge
              rw [hge]
              exact ⟨rfl, HB3.out.drew⟩
            · have hne : (((BL.putL u).length : Int) != (a : Int) + (BL.wid a : Int) + min 1 (6 - (a : Int))) = true := by rw [bne_iff_ne]; exact fun h => hn (HLI.out.1 h)
              have HN := hid hn
              clear hn
              go_wp2_with fail
              go_ret3
              have hge := HGE.out
              rw [if_neg hfew, if_neg HN.out] at hge
              rw [hge]
              exact ⟨rfl, HB3.out⟩
        · have hx := ltS_rest (true :: r) 1
          rw [List.drop_one, List.tail_cons] at hx
          simp only [List.length_cons] at hrl
          go_wp2_with fail
          go_roundw
          case rel =>
            refine ⟨trivial, a + 1, r, by omega, by go_num, rfl, by omega, ?_⟩
            have hk := HK.out
            rw [HR.out, hk, plc_true, show 6 - (a + 1) = k by omega, Option.map_map]
            congr 1
            funext x
            simp [Nat.add_assoc, Nat.add_comm 1 a]
          case measure => simp [intOf]; omega
    · have he : a = 6 := by omega
      subst he
      have HP : Hid (BL.plc 6 l = some (6, r)) := by
        show _ = _
        rw [HR.out]
        have e : BL.plc (6 - 6) r = some (0, r) := by unfold BL.plc; rfl
        rw [e]; rfl
      have HGE := hid (HG.out.symm.trans (getL_of l 6 r HP.out))
      have hsz := ltS_size r
      have hwl := BL.wid_le 6
      have hx0 := ltS_front r (BL.wid 6)
      have hx1 := ltS_rest r (BL.wid 6)
      rw [hsz] at hx1
      by_cases hfew : r.length < BL.wid 6
      · have hfi : ((r.length : Nat) : Int) < (BL.wid 6 : Int) := by omega
        go_wp2_with fail
        refine (size_any 6 _ (by omega)).mono ?_
        rintro e w2 ⟨rfl, rfl⟩
        go_wp2_with fail
        go_ret3
        have := HGE.out
        rw [if_pos hfew] at this
        rw [this]
        exact ⟨rfl, Below.refl _ _⟩
      · have hfi : (BL.wid 6 : Int) ≤ ((r.length : Nat) : Int) := by omega
        have hvl := val_take_lt r 6
        have htl : (r.take (BL.wid 6)).length ≤ 64 := by rw [List.length_take]; omega
        obtain ⟨hz1, hz2⟩ := zag_range _ hvl
        have HZZ := hid (zig_zag (BL.val (r.take (BL.wid 6))))
        have HLI := hid (put_len_iff (BL.val (r.take (BL.wid 6))) 6 (by omega))
        have hps := ltS_size (BL.putL (BL.val (r.take (BL.wid 6))))
        have hpb := (BL.putL_bounds (BL.val (r.take (BL.wid 6)))).2.1
        go_wp2_with fail
        refine (size_any 6 _ (by omega)).mono ?_
        rintro e w2 ⟨rfl, rfl⟩
        go_wp2_with fail
        refine (value_any (r.take (BL.wid 6)) _ htl).mono ?_
        rintro e w2 ⟨rfl, rfl⟩
        generalize hu : BL.val (r.take (BL.wid 6)) = u at *
        have HU := hid hu
        clear hu
        go_wp2_with fail
        refine (rzag_any u _ hvl).mono ?_
        rintro e w2 ⟨rfl, rfl⟩
        go_wp2_with fail
        refine (rput_any [] (BL.zag u) _ (by simp) hz1 hz2).mono ?_
        rintro e w3 ⟨rfl, hb3⟩
        rw [HZZ.out, List.nil_append]
        have HB3 := hid hb3
        clear hb3
        by_cases hn : BL.nar u = 6
        · have hne : (((BL.putL u).length : Int) != (6 : Int) + (BL.wid 6 : Int) + min 1 0) = false := by rw [bne_eq_false_iff_eq]; exact HLI.out.2 hn
          have HN := hid hn
          clear hn
          go_wp2_with fail
          refine wp_region_still_lit (by kernel_rfl) (by kernel_rfl) ?_
          iterate 7 still_step
          refine wpStill_nil ?_
          go_wp2
          go_ret3
          have hge := HGE.out
          rw [if_neg hfew, if_pos HN.out] at hge
          rw [hge]
          exact ⟨rfl, HB3.out.drew⟩
        · have hne : (((BL.putL u).length : Int) != (6 : Int) + (BL.wid 6 : Int) + min 1 0) = true := by rw [bne_iff_ne]; exact fun h => hn (HLI.out.1 h)
          have HN := hid hn
          clear hn
          go_wp2_with fail
          go_ret3
          have hge := HGE.out
          rw [if_neg hfew, if_neg HN.out] at hge
          rw [hge]
          exact ⟨rfl, HB3.out⟩

end Go.Proofs.YtdmnlmohfaafoadGreatDoor
