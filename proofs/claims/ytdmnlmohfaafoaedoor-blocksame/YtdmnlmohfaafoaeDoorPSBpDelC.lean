/- slices.DeleteFunc at samples of one's own. -/
import Derived.Test.YtdmnlmohfaafoaeDoorPSBmMemC
import Derived.Laws.OwnMore
import Derived.Laws.CopyRow
import Derived.Shelf.Abstract
namespace Go.Proofs.YtdmnlmohfaafoaeDoor
open Go.RowKit Go.Shelf

/-- On the way: the first i are what stays of the first j; from j on all is as it was. -/
structure DelI (p : CL.Smp → Bool) (l R : List CL.Smp) (i j : Nat) : Prop where
  len : R.length = l.length
  lt : i < j
  le : j ≤ l.length
  front : R.take i = (l.take j).filter fun s => !p s
  rest : R.drop j = l.drop j

theorem smp_at {l : List CL.Smp} {i : Nat} (h : i < l.length) : CL.at' l i = l[i] := by
  unfold CL.at'; rw [List.getD_eq_getElem?_getD, List.getElem?_eq_getElem h]; rfl

theorem smp_mem {l : List CL.Smp} {i : Nat} (h : i < l.length) : CL.at' l i ∈ l := by rw [smp_at h]; exact List.getElem_mem h

theorem filter_first {p : CL.Smp → Bool} {l : List CL.Smp} {k : Nat} (hk : k ≤ l.length) (h : ∀ j, j < k → p (CL.at' l j) = false) : (l.take k).filter (fun s => !p s) = l.take k := by
  rw [List.filter_eq_self]
  intro s hs
  obtain ⟨j, hj, rfl⟩ := List.mem_iff_getElem.1 hs
  rw [List.length_take] at hj
  have := h j (by omega)
  rw [smp_at (by omega)] at this
  rw [List.getElem_take, this]
  rfl

theorem DelI.start {p : CL.Smp → Bool} {l : List CL.Smp} {k : Nat} (hk : k < l.length) (hp : p (CL.at' l k) = true) (h : ∀ j, j < k → p (CL.at' l j) = false) : DelI p l l k (k + 1) :=
  ⟨rfl, Nat.lt_succ_self k, hk, by rw [take_smp l k hk, List.filter_append, filter_first (by omega) h]; simp [hp], rfl⟩

theorem DelI.at {p : CL.Smp → Bool} {l R : List CL.Smp} {i j : Nat} (h : DelI p l R i j) : CL.at' R j = CL.at' l j := by
  have h1 := congrArg (fun x : List CL.Smp => x[0]?) h.rest
  simp only [List.getElem?_drop, Nat.add_zero] at h1
  unfold CL.at'
  rw [List.getD_eq_getElem?_getD, List.getD_eq_getElem?_getD, h1]

theorem DelI.rest' {p : CL.Smp → Bool} {l R : List CL.Smp} {i j : Nat} (h : DelI p l R i j) : R.drop (j + 1) = l.drop (j + 1) := by
  have h1 := congrArg (List.drop 1) h.rest
  rwa [List.drop_drop, List.drop_drop] at h1

theorem DelI.skip {p : CL.Smp → Bool} {l R : List CL.Smp} {i j : Nat} (h : DelI p l R i j) (hj : j < l.length) (hp : p (CL.at' l j) = true) : DelI p l R i (j + 1) :=
  ⟨h.len, by have := h.lt; omega, hj, by rw [take_smp l j hj, List.filter_append, h.front]; simp [hp], h.rest'⟩

theorem DelI.put {p : CL.Smp → Bool} {l R : List CL.Smp} {i j : Nat} (h : DelI p l R i j) (hj : j < l.length) (hp : p (CL.at' l j) = false) : DelI p l (R.set i (CL.at' l j)) (i + 1) (j + 1) := by
  have hlt := h.lt
  have hlen := h.len
  refine ⟨by rw [List.length_set]; exact h.len, by omega, hj, ?_, ?_⟩
  · rw [take_smp l j hj, List.filter_append, ← h.front]
    have e1 : (R.set i (CL.at' l j)).take (i + 1) = R.take i ++ [CL.at' l j] := by
      rw [List.take_set, take_smp R i (by omega), List.set_append_right _ _ (by rw [List.length_take]; omega), List.length_take, Nat.min_eq_left (by omega), Nat.sub_self]
      rfl
    rw [e1]
    simp [hp]
  · rw [← h.rest']
    apply List.ext_getElem?
    intro k
    rw [List.getElem?_drop, List.getElem?_drop, List.getElem?_set_ne (by omega)]

theorem DelI.fin {p : CL.Smp → Bool} {l R : List CL.Smp} {i : Nat} (h : DelI p l R i l.length) : R.take i = l.filter (fun s => !p s) ∧ i = (l.filter fun s => !p s).length := by
  have h1 := h.front
  rw [List.take_length] at h1
  refine ⟨h1, ?_⟩
  rw [← h1, List.length_take]
  have := h.lt
  have := h.len
  omega

theorem sv_set : ∀ (R : List CL.Smp) (i : Nat) (s : CL.Smp), ((sv R).set (i * 2) (.int .i64 s.1)).set (i * 2 + 1) (.int .i64 s.2) = sv (R.set i s)
  | [], i, s => rfl
  | r :: R, 0, s => rfl
  | r :: R, i + 1, s => by
    have e : sv (r :: R) = .int .i64 r.1 :: .int .i64 r.2 :: sv R := rfl
    have e2 : sv ((r :: R).set (i + 1) s) = .int .i64 r.1 :: .int .i64 r.2 :: sv (R.set i s) := rfl
    rw [e, e2, ← sv_set R i s, show (i + 1) * 2 = i * 2 + 1 + 1 by omega]
    rfl

theorem sv_take : ∀ (R : List CL.Smp) (i : Nat), (sv R).take (i * 2) = sv (R.take i)
  | [], i => by simp [sv]
  | r :: R, 0 => rfl
  | r :: R, i + 1 => by
    have e : sv (r :: R) = .int .i64 r.1 :: .int .i64 r.2 :: sv R := rfl
    rw [e, show (i + 1) * 2 = i * 2 + 1 + 1 by omega]
    simp only [List.take_succ_cons]
    rw [sv_take R i]
    rfl

/-- clear of a slice of elements of many cells. -/
theorem run_clear_many {P : Program} (w : World) (t e ty : TypeId) (z : Value) (ht : P.underlying t = some (.slice e)) (hv : ∀ w, (zeroValue e).run P w = .ok z w) (g o n c : Nat) (hn : 0 < n) (cur : Array Value) (et : TypeId)
    (hg : w.heap[g]? = some (.cells cur et (0, 0))) (hfit : o + (Builtin.zeroCells z.cells n).toList.length ≤ cur.size) (h1 : ∀ u ∈ (Builtin.zeroCells z.cells n).toList, u.oneCell' = true) :
    (Builtin.clear_ #[t] ty #[.slice (some ⟨g, o, none⟩) n c]).run P w = .ok (.tuple #[]) (w.setRow g (cur.toList.take o ++ (Builtin.zeroCells z.cells n).toList ++ cur.toList.drop (o + (Builtin.zeroCells z.cells n).toList.length)).toArray) := by
  have hst := run_storeCells_at P g o et (Builtin.zeroCells z.cells n).toList 0 cur w hg (by simpa using hfit) h1
  simp only [Nat.add_zero] at hst
  obtain ⟨m, rfl⟩ : ∃ m, n = m + 1 := ⟨n - 1, by omega⟩
  generalize hz : (Builtin.zeroCells z.cells (m + 1)).toList = zs at *
  simp [Builtin.clear_, run_underlying ht, hv, hz, hst]

set_option maxRecDepth 100000 in
set_option maxHeartbeats 800000 in
theorem indexSmp_any (ao : Option Addr) (m : List CL.Smp) (cap g : Nat) (lb : Array Value) (P : CL.Smp → Bool) (w : World) (hM : SRow w ao m) (hl : m.length ≤ 1000000)
    (eg : ∀ args w, (callFunc g args).run Tryd.prog w = .ok (.enter g args) w)
    (hcall : ∀ W, Below w.heap.size w W → ∀ x ∈ m, Calls Tryd.prog g (#[.agg #[.int .i64 x.1, .int .i64 x.2]] ++ lb) W fun e w' => e = .returned (.bool (P x)) ∧ Below W.heap.size W w') :
    Calls Tryd.prog 89 #[.slice ao m.length cap, .func (.func g) #[] lb] w fun e w' => ∃ n : Int, e = .returned (.int .i64 n) ∧ ((n = -1 ∧ ∀ j, j < m.length → P (CL.at' m j) = false) ∨ ∃ k : Nat, n = (k : Int) ∧ k < m.length ∧ P (CL.at' m k) = true ∧ ∀ j, j < k → P (CL.at' m j) = false) ∧ Below w.heap.size w w' := by
  have HM := hid hM
  have HCL := hid hcall
  clear hM hcall
  go_enter Tryd.func89, Tryd.ntmps89
  go_wp2
  go_loopw [8] (fun ti wr => ∃ i : Nat, i ≤ m.length ∧ ti = .int .i64 i ∧ Below w.heap.size w wr ∧ ∀ j, j < i → P (CL.at' m j) = false) (fun ti _ => m.length - (intOf ti).toNat)
  case atStart => exact ⟨0, by omega, rfl, Below.refl _ _, by omega⟩
  case round =>
    obtain ⟨i, hi, rfl, hbel, hok⟩ := hrel
    have HO := hid hok
    have HBl := hid hbel
    have hsz := hbel.size
    clear hok hbel
    by_cases hlt : i < m.length
    · obtain ⟨b, off, hao, hc0, hc1, hbs⟩ := HM.out i hlt
      subst hao
      have hcell0 := (HBl.out.cell (p := ⟨b, off + i * 2, none⟩) hbs).trans hc0
      have hcell1 := (HBl.out.cell (p := ⟨b, off + i * 2 + 1, none⟩) hbs).trans hc1
      clear hc0 hc1
      have HC := hid (HCL.out wr HBl.out (CL.at' m i) (smp_mem hlt))
      have HN : Hid (P (CL.at' m i) = false → ∀ j, j < i + 1 → P (CL.at' m j) = false) := fun h j hj => by
        by_cases he : j = i
        · subst he; exact h
        · exact HO.out j (by omega)
      have HT : Hid (P (CL.at' m i) = true → (∃ k : Nat, (i : Int) = (k : Int) ∧ k < m.length ∧ P (CL.at' m k) = true ∧ ∀ j, j < k → P (CL.at' m j) = false)) := fun h => ⟨i, rfl, hlt, h, HO.out⟩
      generalize CL.at' m i = x at *
      go_wp2_with fail
      refine HC.out.mono ?_
      rintro e w2 ⟨rfl, hb2⟩
      have HB2 := hid (HBl.out.trans (hb2.mono hsz))
      clear hb2 HC
      cases hp : P x with
      | true =>
        have HE := hid (HT.out hp)
        clear HT HN
        go_wp2_with fail
        go_ret
        exact ⟨i, rfl, .inr HE.out, HB2.out⟩
      | false =>
        have HE := hid (HN.out hp)
        clear HT HN
        go_wp2_with fail
        go_roundw
        case rel => exact ⟨i + 1, by omega, by go_num, HB2.out, HE.out⟩
        case measure => simp [intOf]; omega
    · have he : i = m.length := by omega
      have HE := hid (he ▸ HO.out)
      subst he
      go_wp2
      go_ret
      exact ⟨-1, rfl, .inl ⟨rfl, HE.out⟩, HBl.out⟩

theorem zeros_smp (n : Nat) : (Builtin.zeroCells (Value.agg #[.int .i64 0, .int .i64 0]).cells n).toList.length = n * 2 ∧ ∀ u ∈ (Builtin.zeroCells (Value.agg #[.int .i64 0, .int .i64 0]).cells n).toList, u.oneCell' = true := by
  have e : (Value.agg #[.int .i64 0, .int .i64 0]).cells = #[.int .i64 0, .int .i64 0] := by kernel_rfl
  rw [e]
  refine ⟨by simp [Builtin.zeroCells], fun u hu => ?_⟩
  simp only [Builtin.zeroCells, Array.toList_map, List.mem_map] at hu
  obtain ⟨i, _, rfl⟩ := hu
  have h2 : i % 2 < 2 := Nat.mod_lt _ (by omega)
  show Value.oneCell' ((#[Value.int .i64 0, Value.int .i64 0] : Array Value)[i % 2]!) = true
  generalize i % 2 = k at *
  match k, h2 with
  | 0, _ => rfl
  | 1, _ => rfl

theorem zero_smp (w : World) : (zeroValue 42).run Tryd.prog w = .ok (.agg #[.int .i64 0, .int .i64 0]) w := by kernel_rfl

set_option maxRecDepth 100000 in
set_option maxHeartbeats 1600000 in
theorem delSmp_any (g0 cap base g : Nat) (lb : Array Value) (l : List CL.Smp) (p : CL.Smp → Bool) (w : World) (hown : OwnSm w base (.slice (some ⟨g0, 0, none⟩) l.length cap) l) (hn : 0 < l.length) (hl : l.length ≤ 1000000)
    (eg : ∀ args w, (callFunc g args).run Tryd.prog w = .ok (.enter g args) w)
    (hcall : ∀ W, But g0 w W → ∀ x ∈ l, Calls Tryd.prog g (#[.agg #[.int .i64 x.1, .int .i64 x.2]] ++ lb) W fun e w' => e = .returned (.bool (p x)) ∧ Below W.heap.size W w') :
    Calls Tryd.prog 53 #[.slice (some ⟨g0, 0, none⟩) l.length cap, .func (.func g) #[] lb] w fun e w' => e = .returned (.slice (some ⟨g0, 0, none⟩) (l.filter fun s => !p s).length cap) ∧ OwnSm w' base (.slice (some ⟨g0, 0, none⟩) (l.filter fun s => !p s).length cap) (l.filter fun s => !p s) ∧ But g0 w w' := by
  obtain ⟨ao, c', hao, hrow⟩ := SRow.of_own hown
  simp only [Value.slice.injEq, true_and] at hao
  obtain ⟨rfl, rfl⟩ := hao
  have HO := hid hown
  have HC := hid hcall
  have HI := hid (indexSmp_any (some ⟨g0, 0, none⟩) l cap g lb p w hrow hl eg (fun W hW => hcall W (But.below hW)))
  clear hown hcall hrow
  go_enter Tryd.func53, Tryd.ntmps53
  go_wp2_with fail
  refine HI.out.mono ?_
  rintro e w1 ⟨n, rfl, hk, hb1⟩
  have HB1 := hid hb1
  clear HI hb1
  rcases hk with ⟨rfl, hall⟩ | ⟨k, rfl, hk, hpk, hbef⟩
  · have HE : Hid (l.filter (fun s => !p s) = l) := by
      show _ = _
      have := filter_first (p := p) (Nat.le_refl l.length) hall
      rwa [List.take_length] at this
    clear hall
    go_wp2_with fail
    go_ret
    rw [HE.out]
    exact ⟨rfl, row_kept HO.out fun g _ hg => HB1.out.block g (heap_lt hg), But.below HB1.out⟩
  · have HD0 := hid (DelI.start hk hpk hbef)
    have HO1 : Hid (OwnSm w1 base (.slice (some ⟨g0, 0, none⟩) l.length cap) l) := row_kept HO.out fun g _ hg => HB1.out.block g (heap_lt hg)
    have hkn : ((k : Int) == -1) = false := by rw [beq_eq_false_iff_ne]; omega
    clear hpk hbef HO
    go_wp2_with fail
    go_loopw [5, 6] (fun t5 t6 wr => ∃ (i j : Nat) (R : List CL.Smp), t5 = .int .i64 i ∧ t6 = .int .i64 j ∧ DelI p l R i j ∧ OwnSm wr base (.slice (some ⟨g0, 0, none⟩) R.length cap) R ∧ But g0 w wr) (fun _ t6 _ => l.length - (intOf t6).toNat)
    case atStart => exact ⟨k, k + 1, l, rfl, by go_num, HD0.out, HO1.out, But.below HB1.out⟩
    case round =>
      clear HB1 HO1 HD0 hkn hk
      obtain ⟨i, j, R, rfl, rfl, hD, hOw, hBt⟩ := hrel
      have HD := hid hD
      have HOw := hid hOw
      have HBt := hid hBt
      have hij := hD.lt
      have hjl := hD.le
      have hRl1 : R.length ≤ l.length := by have := hD.len; omega
      have hRl2 : l.length ≤ R.length := by have := hD.len; omega
      clear hD hOw hBt
      by_cases hlt : j < l.length
      · obtain ⟨g1, g2⟩ := sv_get R j (by omega)
        have c0 := HOw.out.cells (g := g0) rfl _ _ g1
        have c1 := HOw.out.cells (g := g0) rfl _ _ g2
        rw [Addr.add_lit, Nat.zero_add] at c0 c1
        have HAt := hid (HD.out.at)
        rw [HD.out.at] at c0 c1
        have HSk := hid (fun h => HD.out.skip hlt h)
        have HPt := hid (fun h => HD.out.put hlt h)
        have hmem := smp_mem hlt
        have HCj := hid (fun W (hW : But g0 w W) => HC.out W hW (CL.at' l j) hmem)
        generalize CL.at' l j = x at *
        have hbx : Below wr.heap.size wr (wr.alloc (.cells #[.int .i64 x.1, .int .i64 x.2] 42)) := (Below.refl _ wr).alloc (Nat.le_refl _) _
        have HB1 := hid (HBt.out.trans (But.below hbx))
        have HX1 := hid (heap_alloc_new wr (.cells #[.int .i64 x.1, .int .i64 x.2] 42))
        have HO1 : Hid (OwnSm (wr.alloc (.cells #[.int .i64 x.1, .int .i64 x.2] 42)) base (.slice (some ⟨g0, 0, none⟩) R.length cap) R) := row_kept HOw.out fun g _ hg => hbx.block g (heap_lt hg)
        have hgx : g0 < wr.heap.size := World.block_lt_of_cell? _ _ c0
        have hjl' : 0 ≤ (j : Int) ∧ (j : Int) < (l.length : Int) := by omega
        clear hbx HBt HOw g1 g2 HAt
        go_wp2_with fail
        generalize wr.alloc (.cells #[.int .i64 x.1, .int .i64 x.2] 42) = w2 at *
        generalize wr.heap.size = bx at *
        refine (HCj.out w2 HB1.out).mono ?_
        rintro e w3 ⟨rfl, hb3⟩
        have HB3 := hid (HB1.out.trans (But.below hb3))
        have HX3 := hid ((hb3.block _ (heap_lt HX1.out)).trans HX1.out)
        have HO3 : Hid (OwnSm w3 base (.slice (some ⟨g0, 0, none⟩) R.length cap) R) := row_kept HO1.out fun g _ hg => hb3.block g (heap_lt hg)
        clear hb3 HB1 HX1 HO1 c0 c1 HCj
        cases hp : p x with
        | true =>
          have HN := hid (HSk.out hp)
          clear HSk HPt hp
          go_wp2_with fail
          go_roundw
          case rel => exact ⟨i, j + 1, R, rfl, by go_num, HN.out, HO3.out, HB3.out⟩
          case measure => simp [intOf]; omega
        | false =>
          have HN := hid (HPt.out hp)
          clear HSk HPt hp
          have x0 : w3.cell? ⟨bx, 0, none⟩ = some (.int .i64 x.1) := zcell' _ _ _ _ HX3.out 0 _ rfl
          have x1 : w3.cell? ⟨bx, 1, none⟩ = some (.int .i64 x.2) := zcell' _ _ _ _ HX3.out 1 _ rfl
          obtain ⟨g1, g2⟩ := sv_get R i (by omega)
          have c0 := HO3.out.cells (g := g0) rfl _ _ g1
          have c1 := HO3.out.cells (g := g0) rfl _ _ g2
          rw [Addr.add_lit, Nat.zero_add] at c0 c1
          have f0 := HO3.out.frozenAt (i * 2)
          have f1 := HO3.out.frozenAt (i * 2 + 1)
          have hil' : 0 ≤ (i : Int) ∧ (i : Int) < (l.length : Int) := by omega
          have s1 := HO3.out.stored (i * 2) (.int .i64 x.1)
          have s2 := s1.1.stored (i * 2 + 1) (.int .i64 x.2)
          have HO4 : Hid (OwnSm ((w3.setCell ⟨g0, i * 2, none⟩ (.int .i64 x.1)).setCell ⟨g0, i * 2 + 1, none⟩ (.int .i64 x.2)) base (.slice (some ⟨g0, 0, none⟩) (R.set i x).length cap) (R.set i x)) := by
            have := s2.1
            rw [sv_set] at this
            show World.ownsRow _ _ _ _ _ _ _
            rw [List.length_set]
            exact this
          have HB4 := hid (HB3.out.trans ((But.grown s1.2).trans (But.grown s2.2)))
          clear s1 s2 g1 g2
          go_wp2_with fail
          go_roundw
          case rel => exact ⟨i + 1, j + 1, R.set i x, by go_num, by go_num, HN.out, HO4.out, HB4.out⟩
          case measure => simp [intOf]; omega
      · have he : j = l.length := by omega
        have hil : i < l.length := by omega
        obtain ⟨hfr, hfl⟩ := (he ▸ HD.out : DelI p l R i l.length).fin
        rcases HOw.out.2 with ⟨h', _⟩ | ⟨g', cap', cur, e0, hbg, hg, hnc, hcm, hcs, htk⟩
        · cases h'
        simp only [Value.slice.injEq, Option.some.injEq, Addr.mk.injEq, and_true, true_and] at e0
        obtain ⟨rfl, rfl⟩ := e0
        obtain ⟨hz, hz1⟩ := zeros_smp (l.length - i)
        have hcl : ∀ ty, _ := fun ty => run_clear_many (P := Tryd.prog) wr 36 42 ty (.agg #[.int .i64 0, .int .i64 0]) Tryd.uSms zero_smp g0 (i * 2) (l.length - i) (cap - i) (by omega) cur 42 hg (by rw [hz, hcs]; omega) hz1
        generalize (Builtin.zeroCells (Value.agg #[.int .i64 0, .int .i64 0]).cells (l.length - i)).toList = zs at *
        generalize hC : (cur.toList.take (i * 2) ++ zs ++ cur.toList.drop (i * 2 + zs.length)).toArray = C at hcl
        have HE : Hid (OwnSm (wr.setRow g0 C) base (.slice (some ⟨g0, 0, none⟩) (l.filter fun s => !p s).length cap) (l.filter fun s => !p s) ∧ But g0 w (wr.setRow g0 C) ∧ (l.filter fun s => !p s).length = i) := by
          refine ⟨⟨sv_length _, .inr ⟨g0, cap, C, rfl, hbg, setRow_heap wr g0 cur C _ _ hg, by omega, hcm, ?_, ?_⟩⟩, HBt.out.trans ⟨rfl, rfl, rfl, by simp, fun k _ hk => setRow_other wr g0 k C hk⟩, hfl.symm⟩
          · rw [← hC, List.size_toArray]
            simp only [List.length_append, List.length_take, List.length_drop, Array.length_toList, hz, hcs]
            omega
          · rw [← hfl, ← hC]
            have h1 : (cur.toList.take (i * 2)).length = i * 2 := by rw [List.length_take, Array.length_toList, hcs]; omega
            rw [List.append_assoc, List.take_append_of_le_length (by omega), List.take_of_length_le (by omega)]
            have h2 := congrArg (List.take (i * 2)) htk
            rw [List.take_take, Nat.min_eq_left (by omega), sv_take, hfr] at h2
            exact h2
        have hci : ¬ cap = i := by omega
        have hii : 0 ≤ (i : Int) ∧ (i : Int) ≤ (l.length : Int) := by omega
        have hic : (i : Int) ≤ (cap : Int) := by omega
        have hi1 : (i : Int) < (l.length : Int) := by omega
        clear hfr hfl hg hnc hcs htk hz hz1 hC hcm hbg HOw HBt HD hRl1 hRl2 hij hjl hlt
        subst he
        go_wp2_with (simp only [hcl])
        go_ret
        obtain ⟨h1, h2, h3⟩ := HE.out
        exact ⟨by rw [h3]; rfl, h1, h2⟩

end Go.Proofs.YtdmnlmohfaafoaeDoor

