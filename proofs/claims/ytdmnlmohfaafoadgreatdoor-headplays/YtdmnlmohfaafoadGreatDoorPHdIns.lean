/- slices.Insert of one series into a row of one's own. -/
import Derived.Test.YtdmnlmohfaafoadGreatDoorPHdRow
import Derived.Deep.RegionLaw
import Derived.Laws.AppendOwnNone
import Derived.OwnWalk
namespace Go.Proofs.YtdmnlmohfaafoadGreatDoor
open Go.RowKit

theorem Tryz.uSrs : Tryz.prog.underlying 22 = some (.slice 55) := by kernel_rfl
theorem Tryz.uInt3 : Tryz.prog.underlying 3 = some (.int .i64) := by kernel_rfl
theorem Tryz.szSr : (Tryz.prog.info? 55).map (·.size) = some 2 := by kernel_rfl

theorem sr_info : ∃ i, Tryz.prog.info? 55 = some i ∧ i.zero = some (.agg #[.slice none 0 0, .slice none 0 0]) ∧ i.size = 2 ∧ i.bytes = 48 := by
  have h := Tryz.infoSr
  cases hq : Tryz.prog.info? 55 with
  | none => rw [hq] at h; cases h
  | some i =>
    rw [hq] at h
    simp only [Option.map_some, Option.some.injEq, Prod.mk.injEq] at h
    exact ⟨i, rfl, h⟩

/-- Two cells in a block of their own. -/
theorem two_cells {w : World} {B : Nat} {a b : Value} {T : TypeId} (h : w.heap[B]? = some (.cells #[a, b] T)) : ∀ j u, [a, b][j]? = some u → w.cell? ((⟨B, 0, none⟩ : Addr).add j) = some u := by
  intro j u hj
  match j with
  | 0 => rw [Addr.add_lit]; simp only [List.getElem?_cons_zero, Option.some.injEq] at hj; subst hj; simp [World.cell?, h]
  | 1 => rw [Addr.add_lit]; simp only [List.getElem?_cons_succ, List.getElem?_cons_zero, Option.some.injEq] at hj; subst hj; simp [World.cell?, h]
  | j + 2 => simp at hj

/-- What a row holds behind an insertion. -/
abbrev insV (xs : List Value) (i : Nat) (a b : Value) : List Value := xs.take (i * 2) ++ [a, b] ++ xs.drop (i * 2)

theorem insV_length (xs : List Value) (i n : Nat) (a b : Value) (h : xs.length = n * 2) : (insV xs i a b).length = (n + 1) * 2 := by
  unfold insV
  simp only [List.length_append, List.length_take, List.length_drop, List.length_cons, List.length_nil]
  omega

abbrev insF : Nat := 83

/-- At the end. -/
theorem ins_end (base n B vc : Nat) (v a b : Value) (xs : List Value) (w : World) (hown : w.ownsRow base 55 2 v n xs) (hB : w.heap[B]? = some (.cells #[a, b] 55)) (ha : a.oneCell' = true) (hb : b.oneCell' = true) (hn : n ≤ 1000000) (hbase : base ≤ w.heap.size) :
    Calls Tryz.prog insF #[v, .int .i64 n, .slice (some ⟨B, 0, none⟩) 1 vc] w fun e w' => ∃ v', e = .returned v' ∧ w'.ownsRow base 55 2 v' (n + 1) (xs ++ [a, b]) ∧ w.grownBy w' v.ownBlock ∧ (v'.ownBlock = v.ownBlock ∨ v'.ownBlock = some w.heap.size) := by
  obtain ⟨i, hi, hz, hs, hby⟩ := sr_info
  have key : ∀ ty, ∃ v' w', (Builtin.append_ #[22, 22] ty #[v, .slice (some ⟨B, 0, none⟩) 1 vc]).run Tryz.prog w = .ok v' w' ∧ w'.ownsRow base 55 2 v' (n + 1) (xs ++ [a, b]) ∧ w'.ownsRow base 55 2 v n xs ∧ w.grownBy w' v.ownBlock ∧ (v'.ownBlock = v.ownBlock ∨ v'.ownBlock = some w.heap.size) := fun ty =>
    append_both (P := Tryz.prog) w base 22 ty 55 i _ 2 48 Tryz.uSrs hi hz hs hby rfl (by omega) v n xs hown ⟨B, 0, none⟩ 1 vc [a, b] (by omega) rfl (two_cells hB) (fun u hu => by
      rcases List.mem_cons.1 hu with rfl | hu
      · exact ha
      · rcases List.mem_cons.1 hu with rfl | hu
        · exact hb
        · cases hu) (by unfold maxLen; omega) (by omega) hbase
  obtain ⟨v', w', hrun, hown', hold', hgr, hbl⟩ := key 22
  have HP := hid (And.intro hown' (And.intro hgr hbl))
  obtain ⟨ao, cap, rfl⟩ := own_slice hown
  have hcap : n ≤ cap := by
    rcases hown.2 with ⟨h0, h1⟩ | ⟨g, cap', cur, h0, _, _, h3, _⟩
    · omega
    · cases h0; exact h3
  obtain ⟨A, hA⟩ : ∃ A, (if cap = n then ao else Option.map (fun x => x.add (n * 2)) ao) = A := ⟨_, rfl⟩
  clear hown hB key hi hz hs hby hown' hold' hgr hbl
  go_enter Tryz.func83, Tryz.ntmps83
  go_wp2_with (at_builtin; refine Lib.wpList_append_run _ rfl _ _ _ _ rfl _ _ rfl rfl _ _ hrun ?_)
  go_ret
  exact ⟨v', rfl, HP.out.1, HP.out.2.1, HP.out.2.2⟩

theorem shape_of {w : World} {B : Nat} {c : Array Value} {T : TypeId} (h : w.heap[B]? = some (.cells c T)) : w.shape? B = some (T, c.size) := by simp [World.shape?, h]
theorem frozen_of {w : World} {B : Nat} {c : Array Value} {T : TypeId} (h : w.heap[B]? = some (.cells c T)) (j : Nat) : w.frozen? ⟨B, j, none⟩ = false := by simp [World.frozen?, h]

theorem ov_apart (w : World) (B g o vc lb cb : Nat) (a b : Value) (cur : Array Value) (hB : w.heap[B]? = some (.cells #[a, b] 55)) (hg : w.heap[g]? = some (.cells cur 55)) (hne : B ≠ g) (hc : cur.size ≠ 0) :
    (callFunc 117 #[.slice (some ⟨B, 0, none⟩) 1 vc, .slice (some ⟨g, o, none⟩) lb cb]).run Tryz.prog w = .ok (.value (.bool false)) w := by
  rw [run_callFunc_extern Tryz.func117 (by kernel_rfl) (by kernel_rfl) (by kernel_rfl) (e := Extern.SlicesOverlaps.overlaps #[22, 22] #[4]) (by kernel_rfl),
    Lib.run_overlaps_apart w 22 4 55 Tryz.uSrs 2 (fun w => by kernel_rfl) ⟨B, 0, none⟩ ⟨g, o, none⟩ 1 vc lb cb hne 55 55 _ _ (shape_of hB) (shape_of hg) hc (frozen_of hB 0) (frozen_of hB _)]
  rfl

theorem one_two {a b : Value} (ha : a.oneCell' = true) (hb : b.oneCell' = true) : ∀ u ∈ [a, b], u.oneCell' = true := fun u hu => by
  rcases List.mem_cons.1 hu with rfl | hu
  · exact ha
  · rcases List.mem_cons.1 hu with rfl | hu
    · exact hb
    · cases hu

/-- The cells of a row behind both copies, where there is room. -/
theorem shift_cells (cl xs : List Value) (i n : Nat) (a b : Value) (hi : i < n) (hx : xs.length = n * 2) (ht : cl.take (n * 2) = xs) (hc : (n + 1) * 2 ≤ cl.length) :
    (((cl.take ((i + 1) * 2) ++ xs.drop (i * 2) ++ cl.drop ((i + 1) * 2 + (xs.drop (i * 2)).length)).take (i * 2) ++ [a, b] ++ (cl.take ((i + 1) * 2) ++ xs.drop (i * 2) ++ cl.drop ((i + 1) * 2 + (xs.drop (i * 2)).length)).drop (i * 2 + 2))).take ((n + 1) * 2) = insV xs i a b := by
  have e1 : (cl.take ((i + 1) * 2) ++ xs.drop (i * 2) ++ cl.drop ((i + 1) * 2 + (xs.drop (i * 2)).length)).take (i * 2) = xs.take (i * 2) := by
    rw [List.append_assoc, List.take_append_of_le_length (by rw [List.length_take]; omega), List.take_take, ← ht, List.take_take]
    congr 1
    omega
  have e2 : (cl.take ((i + 1) * 2) ++ xs.drop (i * 2) ++ cl.drop ((i + 1) * 2 + (xs.drop (i * 2)).length)).drop (i * 2 + 2) = xs.drop (i * 2) ++ cl.drop ((i + 1) * 2 + (xs.drop (i * 2)).length) := by
    rw [List.append_assoc, List.drop_append_of_le_length (by rw [List.length_take]; omega), List.drop_eq_nil_of_le (by rw [List.length_take]; omega), List.nil_append]
  rw [e1, e2, ← List.append_assoc, List.take_append_of_le_length (Nat.le_of_eq (insV_length xs i n a b hx).symm), List.take_of_length_le (Nat.le_of_eq (insV_length xs i n a b hx))]

set_option maxRecDepth 100000 in
set_option maxHeartbeats 4000000 in
/-- Ahead of the end, and there is room. -/
theorem ins_shift (base n i B vc g cap : Nat) (a b : Value) (xs : List Value) (cur : Array Value) (w : World) (hi : i < n) (hroom : n + 1 ≤ cap) (hx : xs.length = n * 2) (hbg : base ≤ g) (hg : w.heap[g]? = some (.cells cur 55)) (hcm : cap ≤ maxLen) (hcs : cur.size = cap * 2) (ht : cur.toList.take (n * 2) = xs)
    (hB : w.heap[B]? = some (.cells #[a, b] 55)) (hne : B ≠ g) (ha : a.oneCell' = true) (hb : b.oneCell' = true) (h1x : ∀ u ∈ xs, u.oneCell' = true) (hn : n ≤ 1000000) :
    Calls Tryz.prog insF #[.slice (some ⟨g, 0, none⟩) n cap, .int .i64 i, .slice (some ⟨B, 0, none⟩) 1 vc] w fun e w' => ∃ v', e = .returned v' ∧ w'.ownsRow base 55 2 v' (n + 1) (insV xs i a b) ∧ w.grownBy w' (some g) ∧ v'.ownBlock = some g := by
  have hcell : ∀ j u, xs[j]? = some u → w.cell? ⟨g, j, none⟩ = some u := fun j u hj => by
    rw [← ht, List.getElem?_take] at hj
    split at hj
    · simp [World.cell?, hg]; simpa using hj
    · cases hj
  have hdl : (xs.drop (i * 2)).length = (n - i) * 2 := by rw [List.length_drop, hx]; omega
  obtain ⟨c1, hc1⟩ : ∃ c1 : Array Value, c1 = (cur.toList.take ((i + 1) * 2) ++ xs.drop (i * 2) ++ cur.toList.drop ((i + 1) * 2 + (xs.drop (i * 2)).length)).toArray := ⟨_, rfl⟩
  have hc1s : c1.size = cur.size := by
    rw [hc1]
    simp only [List.size_toArray, List.length_append, List.length_take, List.length_drop, Array.length_toList] at hdl ⊢
    omega
  obtain ⟨c2, hc2⟩ : ∃ c2 : Array Value, c2 = (c1.toList.take (i * 2) ++ [a, b] ++ c1.toList.drop (i * 2 + [a, b].length)).toArray := ⟨_, rfl⟩
  have hc2s : c2.size = cur.size := by
    rw [hc2]
    simp only [List.size_toArray, List.length_append, List.length_take, List.length_drop, Array.length_toList, List.length_cons, List.length_nil]
    omega
  have hfin : c2.toList.take ((n + 1) * 2) = insV xs i a b := by
    rw [hc2, hc1]
    exact shift_cells cur.toList xs i n a b hi hx ht (by rw [Array.length_toList]; omega)
  have hcp1 : ∀ (W : World), W.heap = w.heap → ∀ ty dc sc, (Builtin.copy_ #[22, 22] ty #[.slice (some ⟨g, (i + 1) * 2, none⟩) (n - i) dc, .slice (some ⟨g, i * 2, none⟩) (n + 1 - i) sc]).run Tryz.prog W = .ok (goInt ((n - i : Nat) : Int)) (W.setRow g c1) := fun W hW ty dc sc => by
    have h := run_copy_many (P := Tryz.prog) W 22 22 ty 55 g ((i + 1) * 2) (n - i) dc ⟨g, i * 2, none⟩ (n + 1 - i) sc 2 cur 55 (xs.drop (i * 2)) Tryz.uSrs Tryz.szSr (by rw [hW]; exact hg) (by rw [hdl]; simp only [Nat.min_def]; split <;> omega)
      (fun j v hj => by
        rw [Addr.add_lit]
        have : W.cell? ⟨g, i * 2 + j, none⟩ = w.cell? ⟨g, i * 2 + j, none⟩ := by simp [World.cell?, hW]
        rw [this]
        exact hcell _ v (by rwa [List.getElem?_drop] at hj)) (by rw [hdl]; omega) (fun v hv => h1x v (List.mem_of_mem_drop hv))
    have e : Nat.min (n + 1 - i) (n - i) = n - i := by simp only [Nat.min_def]; split <;> omega
    rw [e, ← hc1] at h
    exact h
  have hcp2 : ∀ (W : World), W.heap = (w.setRow g c1).heap → ∀ ty dc, (Builtin.copy_ #[22, 22] ty #[.slice (some ⟨g, i * 2, none⟩) (n + 1 - i) dc, .slice (some ⟨B, 0, none⟩) 1 vc]).run Tryz.prog W = .ok (goInt 1) (W.setRow g c2) := fun W hW ty dc => by
    have hB1 : W.heap[B]? = some (.cells #[a, b] 55) := by rw [hW, setRow_other _ _ _ _ hne]; exact hB
    have h := run_copy_many (P := Tryz.prog) W 22 22 ty 55 g (i * 2) (n + 1 - i) dc ⟨B, 0, none⟩ 1 vc 2 c1 55 [a, b] Tryz.uSrs Tryz.szSr (by rw [hW]; exact setRow_heap w g cur c1 _ _ hg) (by
        have : Nat.min 1 (n + 1 - i) = 1 := by simp only [Nat.min_def]; split <;> omega
        rw [this]; rfl)
      (two_cells hB1) (by simp only [List.length_cons, List.length_nil]; omega) (one_two ha hb)
    have e : Nat.min 1 (n + 1 - i) = 1 := by simp only [Nat.min_def]; split <;> omega
    rw [e, ← hc2] at h
    exact h
  have hov : ∀ o lb cb, (callFunc 117 #[.slice (some ⟨B, 0, none⟩) 1 vc, .slice (some ⟨g, o, none⟩) lb cb]).run Tryz.prog w = .ok (.value (.bool false)) w := fun o lb cb => ov_apart w B g o vc lb cb a b cur hB hg hne (by omega)
  have hz2 : ¬ ((i : Int) = (n : Int)) := by omega
  have hw1 : IntKind.i64.wrap ((i : Int) + 1) = (i : Int) + 1 := by rw [IntKind.wrap_i64]; omega
  have hw2 : IntKind.i64.wrap ((n : Int) + 1) = (n : Int) + 1 := by rw [IntKind.wrap_i64]; omega
  have hin : i ≤ n := by omega
  have htn : ((i : Int) + 1).toNat = i + 1 := by omega
  have hb2 : ¬ (cap = i + 1) := by omega
  have hb3 : (i : Int) ≤ (n : Int) + 1 := by omega
  have hb4 : ¬ (cap = i) := by omega
  have hb1 : (0 : Int) ≤ (i : Int) + 1 := by omega
  have hcap63 : cap ≤ 9223372036854775807 := by unfold maxLen at hcm; omega
  have HG := hid hg
  have HE := hid (And.intro hcm (And.intro hcs (And.intro hc2s hfin)))
  clear hcell hdl hc1 hc1s hc2 hc2s hfin hg hB ht hcs h1x hcm
  go_enter Tryz.func83, Tryz.ntmps83
  go_wp2_with (simp only [hov])
  have hcpA := hcp1 w.drew rfl 3 (cap - (i + 1)) (cap - i)
  clear hcp1
  go_region
  have hcpB := hcp2 (w.drew.setRow g c1) rfl 3 (cap - i)
  clear hcp2
  go_wp2_with fail
  go_ret
  obtain ⟨h1, h2, h3, h4⟩ := HE.out
  refine ⟨.slice (some ⟨g, 0, none⟩) (n + 1) cap, rfl, ⟨insV_length xs i n a b hx, .inr ⟨g, cap, c2, rfl, hbg, setRow_heap _ g c1 c2 _ _ (setRow_heap w.drew g cur c1 _ _ HG.out), hroom, h1, by rw [h3, h2], h4⟩⟩, ⟨rfl, rfl, rfl, by simp, fun k hk hne => ?_⟩, rfl⟩
  have hkg : k ≠ g := fun e => hne (by rw [e])
  rw [setRow_other _ _ _ _ hkg, setRow_other _ _ _ _ hkg]
  rfl

/-- The cells of a new row behind both copies. -/
theorem grow_cells (xs z : List Value) (i n : Nat) (a b : Value) (hi : i < n) (hx : xs.length = n * 2) (_hz : (n + 1 - i) * 2 ≤ z.length) :
    ((((xs.take (i * 2) ++ z).take (i * 2) ++ [a, b] ++ (xs.take (i * 2) ++ z).drop (i * 2 + 2)).take ((i + 1) * 2) ++ xs.drop (i * 2) ++ ((xs.take (i * 2) ++ z).take (i * 2) ++ [a, b] ++ (xs.take (i * 2) ++ z).drop (i * 2 + 2)).drop ((i + 1) * 2 + (xs.drop (i * 2)).length))).take ((n + 1) * 2) = insV xs i a b := by
  have e0 : (xs.take (i * 2)).length = i * 2 := by rw [List.length_take]; omega
  have e1 : (xs.take (i * 2) ++ z).take (i * 2) = xs.take (i * 2) := by
    rw [List.take_append_of_le_length (by omega), List.take_take, Nat.min_self]
  have e2 : (xs.take (i * 2) ++ [a, b] ++ (xs.take (i * 2) ++ z).drop (i * 2 + 2)).take ((i + 1) * 2) = xs.take (i * 2) ++ [a, b] :=
    list_take_three _ _ _ _ (by rw [e0]; simp only [List.length_cons, List.length_nil]; omega)
  rw [e1, e2, List.take_append_of_le_length (Nat.le_of_eq (insV_length xs i n a b hx).symm), List.take_of_length_le (Nat.le_of_eq (insV_length xs i n a b hx))]

set_option maxRecDepth 100000 in
set_option maxHeartbeats 4000000 in
/-- Ahead of the end, and there is no room. -/
theorem ins_grow (base n i B vc g cap : Nat) (a b : Value) (xs : List Value) (cur : Array Value) (w : World) (hi : i < n) (hnc : n ≤ cap) (hroom : cap < n + 1) (hx : xs.length = n * 2) (hbase : base ≤ w.heap.size) (hg : w.heap[g]? = some (.cells cur 55)) (ht : cur.toList.take (n * 2) = xs)
    (hB : w.heap[B]? = some (.cells #[a, b] 55)) (ha : a.oneCell' = true) (hb : b.oneCell' = true) (h1x : ∀ u ∈ xs, u.oneCell' = true) (hn : n ≤ 1000000) :
    Calls Tryz.prog insF #[.slice (some ⟨g, 0, none⟩) n cap, .int .i64 i, .slice (some ⟨B, 0, none⟩) 1 vc] w fun e w' => ∃ v', e = .returned v' ∧ w'.ownsRow base 55 2 v' (n + 1) (insV xs i a b) ∧ Below w.heap.size w w' ∧ v'.ownBlock = some w.heap.size := by
  obtain ⟨i0, hi0, hz0, hzs, hzb⟩ := sr_info
  have hcell : ∀ j u, xs[j]? = some u → w.cell? ⟨g, j, none⟩ = some u := fun j u hj => by
    rw [← ht, List.getElem?_take] at hj
    split at hj
    · simp [World.cell?, hg]; simpa using hj
    · cases hj
  have hdl : (xs.drop (i * 2)).length = (n - i) * 2 := by rw [List.length_drop, hx]; omega
  have htl : (xs.take (i * 2)).length = i * 2 := by rw [List.length_take, hx]; omega
  obtain ⟨G, hG⟩ : ∃ G, G = grownCap w (n + 1) cap 55 := ⟨_, rfl⟩
  have hGn : n + 1 ≤ G := by rw [hG]; exact grownCap_ge w _ _ _
  have hGm : G ≤ maxLen := by rw [hG]; exact grownCap_le_maxLen w _ _ _ (by unfold maxLen; omega)
  obtain ⟨zs, hzs'⟩ : ∃ zs : List Value, zs = (Builtin.zeroCells (Value.agg #[.slice none 0 0, .slice none 0 0]).cells (n + 1 - i)).toList ++ (Builtin.zeroCells (Value.agg #[.slice none 0 0, .slice none 0 0]).cells (G - (n + 1))).toList := ⟨_, rfl⟩
  have hzl : zs.length = (G - i) * 2 := by
    rw [hzs', List.length_append, Array.length_toList, Array.length_toList, size_zeroCells, size_zeroCells]
    show (n + 1 - i) * 2 + (G - (n + 1)) * 2 = _
    omega
  obtain ⟨c0, hc0⟩ : ∃ c0 : Array Value, c0 = (xs.take (i * 2) ++ zs).toArray := ⟨_, rfl⟩
  have hc0s : c0.size = G * 2 := by rw [hc0, List.size_toArray, List.length_append, htl, hzl]; omega
  have hrz : (Builtin.append_ #[22, 3] 22 #[.slice (some ⟨g, 0, none⟩) i cap, .int .i64 ((n : Int) + 1 - (i : Int))]).run Tryz.prog w = .ok (.slice (some ⟨w.heap.size, 0, none⟩) (n + 1) G) (w.drew.alloc (.cells c0 55)) := by
    have hold : (Builtin.firstCells i0.size i (.slice (some ⟨g, 0, none⟩) i cap)).run Tryz.prog w.drew = .ok (xs.take (i * 2)).toArray w.drew := by
      rw [hzs]
      exact run_firstCells_some w.drew 2 i ⟨g, 0, none⟩ i cap (xs.take (i * 2)) htl (fun j v hj => by
        rw [Addr.add_lit]
        rw [List.getElem?_take] at hj
        split at hj
        · rw [Nat.zero_add]; exact hcell j v hj
        · cases hj)
    have hkk : (n : Int) + 1 - (i : Int) = ((n + 1 - i : Nat) : Int) := by omega
    have hik : i + (n + 1 - i) = n + 1 := by omega
    have h := Lib.run_append_grow_zeros (P := Tryz.prog) w 22 3 22 55 i0 _ .i64 .i64 Tryz.uSrs Tryz.uInt3 hi0 hz0 (some ⟨g, 0, none⟩) i cap (xs.take (i * 2)) hold (n + 1 - i) (by omega) (by omega) (by omega) (by omega) (by rw [hzb]; omega) (by rw [hzb, hik]; exact growslice_fits hroom (by omega))
    rw [hik, ← hG] at h
    rw [hkk, h, hc0, hzs']
    congr 4
    apply Array.ext'
    simp
  obtain ⟨c1, hc1⟩ : ∃ c1 : Array Value, c1 = (c0.toList.take (i * 2) ++ [a, b] ++ c0.toList.drop (i * 2 + [a, b].length)).toArray := ⟨_, rfl⟩
  have hc1s : c1.size = G * 2 := by
    rw [hc1]
    simp only [List.size_toArray, List.length_append, List.length_take, List.length_drop, Array.length_toList, List.length_cons, List.length_nil]
    omega
  obtain ⟨c2, hc2⟩ : ∃ c2 : Array Value, c2 = (c1.toList.take ((i + 1) * 2) ++ xs.drop (i * 2) ++ c1.toList.drop ((i + 1) * 2 + (xs.drop (i * 2)).length)).toArray := ⟨_, rfl⟩
  have hc2s : c2.size = G * 2 := by
    rw [hc2]
    simp only [List.size_toArray, List.length_append, List.length_take, Array.length_toList, hdl]
    rw [List.length_drop, Array.length_toList]
    omega
  have hfin : c2.toList.take ((n + 1) * 2) = insV xs i a b := by
    rw [hc2, hc1, hc0]
    exact grow_cells xs zs i n a b hi hx (by omega)
  obtain ⟨W1, hW1⟩ : ∃ W1, W1 = w.drew.alloc (.cells c0 55) := ⟨_, rfl⟩
  have hN1 : W1.heap[w.heap.size]? = some (.cells c0 55) := by rw [hW1]; exact heap_alloc_new w.drew _
  have hO1 : ∀ k, k < w.heap.size → W1.heap[k]? = w.heap[k]? := fun k hk => by rw [hW1]; exact Below.heap_alloc w.drew _ k hk
  have hcp1 : ∀ ty dc, (Builtin.copy_ #[22, 22] ty #[.slice (some ⟨w.heap.size, i * 2, none⟩) (n + 1 - i) dc, .slice (some ⟨B, 0, none⟩) 1 vc]).run Tryz.prog W1 = .ok (goInt 1) (W1.setRow w.heap.size c1) := fun ty dc => by
    have hB1 : W1.heap[B]? = some (.cells #[a, b] 55) := (hO1 B (heap_lt hB)).trans hB
    have h := run_copy_many (P := Tryz.prog) W1 22 22 ty 55 w.heap.size (i * 2) (n + 1 - i) dc ⟨B, 0, none⟩ 1 vc 2 c0 55 [a, b] Tryz.uSrs Tryz.szSr hN1 (by
        have : Nat.min 1 (n + 1 - i) = 1 := by simp only [Nat.min_def]; split <;> omega
        rw [this]; rfl)
      (two_cells hB1) (by simp only [List.length_cons, List.length_nil]; omega) (one_two ha hb)
    have e : Nat.min 1 (n + 1 - i) = 1 := by simp only [Nat.min_def]; split <;> omega
    rw [e, ← hc1] at h
    exact h
  have hcp2 : ∀ (W : World), W.heap = (W1.setRow w.heap.size c1).heap → ∀ ty dc sc, (Builtin.copy_ #[22, 22] ty #[.slice (some ⟨w.heap.size, (i + 1) * 2, none⟩) (n - i) dc, .slice (some ⟨g, i * 2, none⟩) (n - i) sc]).run Tryz.prog W = .ok (goInt ((n - i : Nat) : Int)) (W.setRow w.heap.size c2) := fun W hW ty dc sc => by
    have hgw := heap_lt hg
    have h := run_copy_many (P := Tryz.prog) W 22 22 ty 55 w.heap.size ((i + 1) * 2) (n - i) dc ⟨g, i * 2, none⟩ (n - i) sc 2 c1 55 (xs.drop (i * 2)) Tryz.uSrs Tryz.szSr (by rw [hW]; exact setRow_heap W1 _ c0 c1 _ _ hN1) (by rw [hdl]; simp only [Nat.min_def]; split <;> omega)
      (fun j v hj => by
        rw [Addr.add_lit]
        have : W.cell? ⟨g, i * 2 + j, none⟩ = w.cell? ⟨g, i * 2 + j, none⟩ := World.cell?_of_block (a := ⟨g, i * 2 + j, none⟩) (by
          show W.heap[g]? = w.heap[g]?
          rw [hW, setRow_other _ _ _ _ (by omega)]
          exact hO1 g hgw)
        rw [this]
        exact hcell _ v (by rwa [List.getElem?_drop] at hj)) (by rw [hdl]; omega) (fun v hv => h1x v (List.mem_of_mem_drop hv))
    have e : Nat.min (n - i) (n - i) = n - i := by simp only [Nat.min_def]; split <;> omega
    rw [e, ← hc2] at h
    exact h
  have hz2 : ¬ ((i : Int) = (n : Int)) := by omega
  have hw1 : IntKind.i64.wrap ((i : Int) + 1) = (i : Int) + 1 := by rw [IntKind.wrap_i64]; omega
  have hw2 : IntKind.i64.wrap ((n : Int) + 1) = (n : Int) + 1 := by rw [IntKind.wrap_i64]; omega
  have hw3 : IntKind.i64.wrap ((n : Int) + 1 - i) = (n : Int) + 1 - i := by rw [IntKind.wrap_i64]; omega
  have hin : i ≤ n := by omega
  have htn : ((i : Int) + 1).toNat = i + 1 := by omega
  have hb2 : ¬ (G = i + 1) := by omega
  have hb3 : (i : Int) ≤ (n : Int) + 1 := by omega
  have hb4 : ¬ (cap = i) := by omega
  have hb5 : ¬ (G = i) := by omega
  have hb1 : (0 : Int) ≤ (i : Int) + 1 := by omega
  have hc3 : (cap : Int) < (n : Int) + 1 := by omega
  have hic : (i : Int) ≤ (cap : Int) := by omega
  have HE := hid (And.intro hGm (And.intro hc2s (And.intro hfin hGn)))
  have HN := hid (And.intro hN1 hO1)
  have HW := hid hW1
  rw [← hW1] at hrz
  have hcap63 : G ≤ 9223372036854775807 := by unfold maxLen at hGm; omega
  clear hcell hdl htl hG hzs' hzl hc0 hc0s hc1 hc1s hc2 hc2s hfin hg hB ht h1x hN1 hO1 hW1 hi0 hz0 hzs hzb hGm
  go_enter Tryz.func83, Tryz.ntmps83
  go_wp2_with (first
    | (at_builtin; refine Lib.wpList_append_run _ rfl _ _ _ _ rfl _ _ rfl rfl _ _ hrz ?_)
    | (at_builtin; refine wpList_copy_eqn _ rfl _ _ 22 22 rfl _ _ rfl rfl (hcp1 _ _) ?_))
  have hcpB := hcp2 (W1.setRow w.heap.size c1).drew rfl 3 (G - (i + 1)) (cap - i)
  clear hcp2 hcp1 hrz
  go_region
  go_wp2_with fail
  go_ret
  obtain ⟨h1, h2, h3, h4⟩ := HE.out
  obtain ⟨k1, k2⟩ := HN.out
  have hW := HW.out
  refine ⟨.slice (some ⟨w.heap.size, 0, none⟩) (n + 1) G, rfl, ⟨insV_length xs i n a b hx, .inr ⟨w.heap.size, G, c2, rfl, hbase, setRow_heap _ _ c1 c2 _ _ (setRow_heap W1 _ c0 c1 _ _ k1), h4, h1, h2, h3⟩⟩, ⟨?_, ?_, ?_, ?_, fun k hk => ?_⟩, rfl⟩
  · rw [hW]; rfl
  · rw [hW]; rfl
  · rw [hW]; rfl
  · simp [hW]
  · rw [setRow_other _ _ _ _ (by omega)]
    show (W1.setRow w.heap.size c1).heap[k]? = _
    rw [setRow_other _ _ _ _ (by omega)]
    exact k2 k hk

/-- One series into a row of one's own. -/
theorem ins_any (base n i B vc : Nat) (v a b : Value) (xs : List Value) (w : World) (hown : w.ownsRow base 55 2 v n xs) (hi : i ≤ n) (hB : w.heap[B]? = some (.cells #[a, b] 55)) (hne : v.ownBlock ≠ some B) (ha : a.oneCell' = true) (hb : b.oneCell' = true) (h1x : ∀ u ∈ xs, u.oneCell' = true) (hn : n ≤ 1000000) (hbase : base ≤ w.heap.size) :
    Calls Tryz.prog insF #[v, .int .i64 i, .slice (some ⟨B, 0, none⟩) 1 vc] w fun e w' => ∃ v', e = .returned v' ∧ w'.ownsRow base 55 2 v' (n + 1) (insV xs i a b) ∧ w.grownBy w' v.ownBlock ∧ (v'.ownBlock = v.ownBlock ∨ v'.ownBlock = some w.heap.size) := by
  by_cases hin : i = n
  · subst hin
    have e : insV xs i a b = xs ++ [a, b] := by
      unfold insV
      rw [← hown.1, List.take_length, List.drop_length, List.append_nil]
    rw [e]
    exact ins_end base i B vc v a b xs w hown hB ha hb hn hbase
  · rcases hown.2 with ⟨rfl, h0⟩ | ⟨g, cap, cur, rfl, h2, hc, h3, h4, h5, h6⟩
    · omega
    · by_cases hroom : n + 1 ≤ cap
      · refine (ins_shift base n i B vc g cap a b xs cur w (by omega) hroom hown.1 h2 hc h4 h5 h6 hB (fun e => hne (by rw [e]; rfl)) ha hb h1x hn).mono ?_
        rintro e w' ⟨v', k1, k2, k3, k4⟩
        exact ⟨v', k1, k2, k3, .inl k4⟩
      · refine (ins_grow base n i B vc g cap a b xs cur w (by omega) h3 (by omega) hown.1 hbase hc h6 hB ha hb h1x hn).mono ?_
        rintro e w' ⟨v', k1, k2, k3, k4⟩
        exact ⟨v', k1, k2, ⟨k3.os, k3.tape, k3.output, k3.size, fun k hk _ => k3.block k hk⟩, .inr k4⟩

end Go.Proofs.YtdmnlmohfaafoadGreatDoor

