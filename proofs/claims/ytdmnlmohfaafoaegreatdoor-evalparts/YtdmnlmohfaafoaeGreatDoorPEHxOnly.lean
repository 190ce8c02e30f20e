/- What label.Only answers. (made by mkev.py) -/
import Derived.Test.YtdmnlmohfaafoaeGreatDoorPEAqOk
import Derived.Laws.AppendOwnNone
import Derived.OwnWalk
namespace Go.Proofs.YtdmnlmohfaafoaeGreatDoor
open Go.RowKit

set_option maxRecDepth 100000 in
theorem index_any (ao : Option Addr) (ns : List ByteArray) (cap : Nat) (x : ByteArray) (w : World) (hN : NRow w ao ns) (hl : ns.length ≤ 1000) :
    Calls Tryz.prog 206 #[.slice ao ns.length cap, .string x] w fun e w' => ∃ n : Int, e = .returned (.int .i64 n) ∧ decide (0 ≤ n) = LB.hasN ns x ∧ w' = w := by
  generalize hB : LB.hasN ns x = B
  have HB := hid hB
  have HN := hid hN
  clear hB hN
  go_enter Tryz.func206, Tryz.ntmps206
  go_wp2
  go_loopw [8] (fun ti wr => ∃ i : Nat, i ≤ ns.length ∧ ti = .int .i64 i ∧ wr = w ∧ ∀ j, j < i → LB.an ns j ≠ x) (fun ti _ => ns.length - (intOf ti).toNat)
  case atStart => exact ⟨0, by omega, rfl, rfl, by omega⟩
  case round =>
    obtain ⟨i, hi, rfl, rfl, hok⟩ := hrel
    have HO := hid hok
    clear hok
    by_cases hlt : i < ns.length
    · obtain ⟨b, off, hao, hc0, hbs⟩ := HN.out i hlt
      subst hao
      have HT : Hid (LB.an ns i = x → B = true) := fun h => by rw [← HB.out]; exact LB.hasN_hit ns x i hlt h
      have HF : Hid (LB.an ns i ≠ x → ∀ j, j < i + 1 → LB.an ns j ≠ x) := fun h j hj => by
        by_cases he : j = i
        · subst he; exact h
        · exact HO.out j (by omega)
      generalize LB.an ns i = y at *
      by_cases hy : y = x
      · have hq : (x.toList == y.toList) = true := by rw [LB.beq_eq]; exact decide_eq_true hy.symm
        have HE := hid (HT.out hy)
        clear HT HF hy
        go_wp2
        go_ret
        exact ⟨i, rfl, by rw [HE.out]; exact decide_eq_true (by omega), rfl⟩
      · have hq : (x.toList == y.toList) = false := by rw [LB.beq_eq]; exact decide_eq_false (fun h => hy h.symm)
        have HE := hid (HF.out hy)
        clear HT HF hy
        go_wp2
        go_roundw
        case rel => exact ⟨i + 1, by omega, by go_num, by trivial, HE.out⟩
        case measure => simp [intOf]; omega
    · have he : i = ns.length := by omega
      have HE : Hid (B = false) := by
        show _ = _
        rw [← HB.out]
        exact LB.hasN_none ns x (fun j hj => HO.out j (by omega))
      subst he
      go_wp2
      go_ret
      exact ⟨-1, rfl, by rw [HE.out]; rfl, rfl⟩

theorem contains_any (ao : Option Addr) (ns : List ByteArray) (cap : Nat) (x : ByteArray) (w : World) (hN : NRow w ao ns) (hl : ns.length ≤ 1000) :
    Calls Tryz.prog 199 #[.slice ao ns.length cap, .string x] w fun e w' => e = .returned (.bool (LB.hasN ns x)) ∧ w' = w := by
  have HC := hid (index_any ao ns cap x w hN hl)
  clear hN
  generalize LB.hasN ns x = B at *
  go_enter Tryz.func199, Tryz.ntmps199
  go_wp2_with fail
  refine HC.out.mono ?_
  rintro e w2 ⟨n, rfl, hn, rfl⟩
  have HN := hid hn
  clear hn HC
  go_wp2_with fail
  go_ret
  exact ⟨ret_bool HN.out, rfl⟩

theorem Tryz.info105 : (Tryz.prog.info? 105).map (fun i => (i.zero, i.size, i.bytes)) = some (some (.agg #[.string ⟨#[]⟩, .string ⟨#[]⟩]), 2, 32) := by kernel_rfl

theorem two_newsO (w : World) (n : Nat) (hn : n = w.heap.size) (a b : Value) (T : TypeId) : ∀ j u, [a, b][j]? = some u → (w.alloc (.cells #[a, b] T)).cell? ((⟨n, 0, none⟩ : Addr).add j) = some u := by
  subst hn
  intro j u hj
  match j, hj with
  | 0, hj => simp at hj; subst hj; simp [Addr.add]
  | 1, hj => simp at hj; subst hj; simp [Addr.add]

theorem two_str (a b : ByteArray) : ∀ u ∈ [Value.string a, Value.string b], u.oneCell' = true := by
  intro u hu
  simp at hu
  rcases hu with rfl | rfl <;> rfl

theorem own_snoc {w : World} {base : Nat} {v : Value} {K : List LB.Lab} {N V : ByteArray} (h : w.ownsRow base 105 2 v (K.length + 1) (lv K ++ [.string N, .string V])) :
    w.ownsRow base 105 2 v (K ++ [(N, V)]).length (lv (K ++ [(N, V)])) := by
  rw [lv_append, List.length_append]
  exact h

theorem only_len (l : List LB.Lab) (ns : List ByteArray) (i : Nat) : (LB.only (l.take i) ns).length ≤ l.length :=
  Nat.le_trans (List.length_filter_le _ _) (by rw [List.length_take]; omega)

set_option maxRecDepth 100000 in
set_option maxHeartbeats 800000 in
theorem only_any (ao no : Option Addr) (l : List LB.Lab) (ns : List ByteArray) (cl cn : Nat) (w : World) (hL : LRow w ao l) (hN : NRow w no ns) (hl : l.length ≤ 1000) (hn : ns.length ≤ 1000) :
    Calls Tryz.prog 179 #[.slice ao l.length cl, .slice no ns.length cn] w fun e w' => ∃ v, e = .returned v ∧ w'.ownsRow w.heap.size 105 2 v (LB.only l ns).length (lv (LB.only l ns)) ∧ Below w.heap.size w w' := by
  have HL := hid hL
  have HN := hid hN
  clear hL hN
  obtain ⟨ii, hii, hi'⟩ := Option.map_eq_some_iff.1 Tryz.info105
  simp only [Prod.mk.injEq] at hi'
  obtain ⟨hz0, hz1, hz2⟩ := hi'
  have HI0 := hid hii
  have HZ0 := hid hz0
  have HZ1 := hid hz1
  have HZ2 := hid hz2
  clear hii hz0 hz1 hz2
  go_enter Tryz.func179, Tryz.ntmps179
  go_wp2_with fail
  go_loopw [5, 10] (fun v ti wr => ∃ i : Nat, i ≤ l.length ∧ ti = .int .i64 i ∧ wr.ownsRow w.heap.size 105 2 v (LB.only (l.take i) ns).length (lv (LB.only (l.take i) ns)) ∧ Below w.heap.size w wr) (fun _ ti _ => l.length - (intOf ti).toNat)
  case atStart => exact ⟨0, by omega, rfl, ⟨rfl, .inl ⟨rfl, rfl⟩⟩, Below.refl _ _⟩
  case round =>
    obtain ⟨i, hi, rfl, hown, hbel⟩ := hrel
    have HO := hid hown
    have HBl := hid hbel
    have hsz := hbel.size
    clear hown hbel
    by_cases hlt : i < l.length
    · obtain ⟨b, off, hao, hc0, hc1, hbs⟩ := HL.out i hlt
      subst hao
      have hcell0 := (HBl.out.cell (p := ⟨b, off + i * 2, none⟩) hbs).trans hc0
      have hcell1 := (HBl.out.cell (p := ⟨b, off + i * 2 + 1, none⟩) hbs).trans hc1
      clear hc0 hc1
      have HIn := hid (LB.only_in l ns i hlt)
      have HOut := hid (LB.only_out l ns i hlt)
      have hol := only_len l ns i
      generalize LB.at' l i = p at *
      obtain ⟨N, V⟩ := p
      simp only at hcell0 hcell1
      have hb1 : Below w.heap.size w (wr.alloc (.cells #[.string N, .string V] 105)) := HBl.out.alloc hsz _
      have HC := hid (contains_any no ns cn N (wr.alloc (.cells #[.string N, .string V] 105)) (HN.out.below hb1) hn)
      have HB1 := hid hb1
      clear hb1
      go_wp2_with fail
      refine HC.out.mono ?_
      rintro e w1 ⟨rfl, rfl⟩
      clear HC
      generalize hK : LB.only (l.take i) ns = K at *
      cases hh : LB.hasN ns N with
      | true =>
        have HK := hid (HIn.out hh)
        clear HIn HOut hK
        go_wp2_with (at_builtin; refine wpList_append_own _ rfl (.tmp 18) (.tmp 20) 53 rfl w.heap.size 105 ii (.agg #[.string ⟨#[]⟩, .string ⟨#[]⟩]) 2 32 Tryz.underlying53 HI0.out HZ0.out HZ1.out HZ2.out rfl (by decide) _ K.length (lv K) rfl ((HO.out.alloc _).alloc _) ⟨wr.heap.size + 1, 0, none⟩ 1 1 [.string N, .string V] rfl rfl (two_newsO _ _ (by simp) _ _ _) (two_str _ _) (by unfold maxLen; omega) (by omega) (by simp; omega) ?_)
        intro v' w7 hown7 hgrow7 _
        have HO7 := hid (own_snoc (N := N) (V := V) hown7)
        have HB7 := hid ((HB1.out.alloc (by simp; omega) (.cells #[.string N, .string V] 105)).grown hgrow7 (by simp; omega) (fun j hj => (HO.out.lt j hj).1))
        clear hown7 hgrow7
        go_wp2_with fail
        go_roundw
        case rel => exact ⟨i + 1, by omega, by go_num, by rw [HK.out]; exact HO7.out, HB7.out⟩
        case measure => simp [intOf]; omega
      | false =>
        have HK := hid (HOut.out hh)
        clear HIn HOut hK
        go_wp2_with fail
        go_roundw
        case rel => exact ⟨i + 1, by omega, by go_num, by rw [HK.out]; exact HO.out.alloc _, HB1.out⟩
        case measure => simp [intOf]; omega
    · have he : i = l.length := by omega
      subst he
      have HTK : Hid (l.take l.length = l) := List.take_of_length_le (Nat.le_refl _)
      go_wp2_with fail
      go_ret
      refine ⟨_, rfl, ?_, HBl.out⟩
      have := HO.out
      rw [HTK.out] at this
      exact this

end Go.Proofs.YtdmnlmohfaafoaeGreatDoor

