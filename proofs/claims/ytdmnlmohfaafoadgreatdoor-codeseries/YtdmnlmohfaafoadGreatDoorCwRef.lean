/- What the document's WriteSeries tells. -/
import Derived.Test.YtdmnlmohfaafoadGreatDoorCwAll
import Derived.Test.YtdmnlmohfaafoadGreatDoorCdRef
import Derived.Test.YtdmnlmohfaafoadGreatDoorCxRefL
import Derived.Test.YtdmnlmohfaafoadGreatDoorChRefW
import Derived.Test.YtdmnlmohfaafoadGreatDoorShelfB
import Derived.Deep.RegionWith
namespace Go.Proofs.YtdmnlmohfaafoadGreatDoor
open Go.RowKit

/-- A strings.Builder in block b, whose bytes are L. -/
def CBl (b : Nat) (w : World) (L : List UInt8) : Prop := Lib.IsBuilderF 77 5 b b (Lib.byteCells L) w

theorem CBl.at_kept {b : Nat} {p : Value} {bs : List Value} {w w' : World} (h : Lib.BuilderAtF 77 5 b b p bs w) (hb : Below w.heap.size w w') : Lib.BuilderAtF 77 5 b b p bs w' := by
  obtain ⟨h1, v, h2, h3, h4⟩ := h
  refine ⟨h1, v, (hb.block b (heap_lt h2)).trans h2, ?_, h4⟩
  have hg : w.grownBy w' none := ⟨hb.os, hb.tape, hb.output, hb.size, fun k hk _ => hb.block k hk⟩
  refine World.ownsRowF.kept h3 hg ?_
  cases v.ownBlock with
  | none => exact .inl rfl
  | some g => exact .inr (fun e => by cases e)

theorem CBl.kept {b : Nat} {w w' : World} {L : List UInt8} (h : CBl b w L) (hb : Below w.heap.size w w') : CBl b w' L := by
  rcases h with h | h
  · exact .inl (CBl.at_kept h hb)
  · exact .inr (CBl.at_kept h hb)

theorem CBl.lt {b : Nat} {w : World} {L : List UInt8} (h : CBl b w L) : b < w.heap.size := by
  rcases h with ⟨_, v, hb, _⟩ | ⟨_, v, hb, _⟩ <;> exact heap_lt hb

theorem bwrite_any (b : Nat) (s : ByteArray) (L : List UInt8) (w : World) (h : CBl b w L) (hlen : L.length + s.size ≤ 10000000000) :
    Calls Tryz.prog 26 #[.pointer (some ⟨b, 0, none⟩), .string s] w fun e w' => e = .returned (.tuple #[.int .i64 s.size, .nilIface]) ∧ CBl b w' (L ++ s.data.toList) ∧ Below b w w' ∧ Lib.OthersKept 5 (some b) w w' := by
  refine (Tryz.BuilderB_WriteString b b (Lib.byteCells L) s w h (by rw [Lib.byteCells_length]; omega) (Nat.le_of_lt h.lt)).mono ?_
  rintro e w' ⟨h1, h2, h3, h4⟩
  refine ⟨h1, .inr ?_, h3, h4⟩
  rw [bc_append]
  exact h2

theorem bstring_any (b : Nat) (L : List UInt8) (w : World) (h : CBl b w L) :
    Calls Tryz.prog 31 #[.pointer (some ⟨b, 0, none⟩)] w fun e w' => e = .returned (.string (sb L)) ∧ Below b w w' := by
  refine (Tryz.BuilderB_String b b L w h (Nat.le_of_lt h.lt)).mono ?_
  rintro e w' ⟨h1, _, h3, _⟩
  exact ⟨h1, h3⟩

/-- A block that is no row of bytes stays while a Builder writes. -/
theorem others_at {b k : Nat} {w w' : World} {c : Array Value} {t : TypeId} {fr : Nat × Nat} (h : Lib.OthersKept 5 (some b) w w') (hk : w.heap[k]? = some (.cells c t fr)) (hne : k ≠ b) (ht : t ≠ 5) : w'.heap[k]? = some (.cells c t fr) :=
  h k _ hk (fun e => hne (Option.some.inj e)) (fun c' fz e => by simp only [Obj.cells.injEq] at e; exact ht e.2.1)

theorem results_tmp_cell {P : Program} {fn : Func} {p u : Tmp} {ty : TypeId} (h : fn.results = #[.tmp u, .cell p ty]) (tmps : Array Value) (w : World) (g : Nat) (t : TypeId) (cs : Array Value) (fr : Nat × Nat) (d : TypeDesc)
    (hp : tmps.getD p undef = .pointer (some ⟨g, 0, none⟩)) (hg : w.heap[g]? = some (.cells cs t fr)) (hu : P.underlying ty = some d) (hd : (match d with | .struct _ | .array _ _ => true | _ => false) = true) (hi : (P.info? ty).map (·.size) = some cs.size) :
    (results fn tmps).run P w = .ok (.tuple #[tmps.getD u undef, .agg cs]) w := by
  have hp' : tmps[p]?.getD undef = .pointer (some ⟨g, 0, none⟩) := by simpa using hp
  simp [results, h, hp', asAddr, run_loadVar_row w g t ty cs fr d hg hu hd hi]

abbrev FineT (w : World) : Prop := w.cell? ⟨0, 0, none⟩ = some (.int .i64 0) ∧ w.cell? ⟨0, 1, none⟩ = some (.int .i64 (-1))

/-- What WriteSeries tells. -/
def RWEnd (w : World) (l : List Sr) (e : Ending) (w' : World) : Prop :=
  Below w.heap.size w w' ∧ (((∀ i, i < l.length → okS (atSr l i) = true) ∧ e = .returned (.tuple #[.string (sb (CD.wAll chE (l.map srOf))), .agg #[.int .i64 0, .int .i64 (-1)]])) ∨
    (∃ i, i < l.length ∧ (∀ j, j < i → okS (atSr l j) = true) ∧ okS (atSr l i) = false ∧ e = .returned (.tuple #[.string ⟨#[]⟩, .agg #[.int .i64 1, .int .i64 i]])))

/-- The document's chunk, whatever comes. -/
theorem rcwrite_any (ao : Option Addr) (l : List CL.Smp) (cap : Nat) (w : World) (hS : SRow w ao l) (hR : ∀ s ∈ l, CL.Rs s) (hl : l.length ≤ 2000) :
    Calls Tryz.prog 28 #[.slice ao l.length cap] w fun e w' => ∃ t ev, e = .returned (.tuple #[.string t, .int .i64 ev]) ∧ Below w.heap.size w w' ∧ ((CL.right l = true ∧ ev = 0 ∧ t = strOf (BL.pk (CL.chB l))) ∨ (CL.right l = false ∧ ev = 1)) := by
  cases hr : CL.right l with
  | true =>
    refine (rwrite_ok ao l cap w hS hR hr).mono ?_
    rintro e w' ⟨rfl, hb⟩
    exact ⟨_, _, rfl, hb, .inl ⟨rfl, rfl, rfl⟩⟩
  | false =>
    refine (rwrite_bad ao l cap w hS (by omega) hr).mono ?_
    rintro e w' ⟨rfl, hb⟩
    exact ⟨_, _, rfl, hb, .inr ⟨rfl, rfl⟩⟩

/-- A Builder and a Fault's cell, and all that was there. -/
structure BWr (w wr : World) (L : List UInt8) : Prop where
  bl : CBl (w.heap.size + 1) wr L
  ft : wr.heap[w.heap.size]? = some (.cells #[.int .i64 0, .int .i64 0] 26)
  below : Below w.heap.size w wr

theorem BWr.kept {w wr w' : World} {L : List UInt8} (h : BWr w wr L) (hb : Below wr.heap.size wr w') : BWr w w' L :=
  ⟨h.bl.kept hb, (hb.block _ (heap_lt h.ft)).trans h.ft, h.below.trans (hb.mono h.below.size)⟩

theorem BWr.wrote {w wr w' : World} {L L' : List UInt8} (h : BWr w wr L) (h1 : CBl (w.heap.size + 1) w' L') (hb : Below (w.heap.size + 1) wr w') : BWr w w' L' :=
  ⟨h1, (hb.block _ (by omega)).trans h.ft, h.below.trans (hb.mono (by omega))⟩

theorem BWr.new (w : World) : BWr w ((w.alloc (.cells #[.int .i64 0, .int .i64 0] 26)).alloc (.cells #[.pointer none, .slice none 0 0] 77)) [] := by
  have hs : (w.alloc (.cells #[.int .i64 0, .int .i64 0] 26)).heap.size = w.heap.size + 1 := by simp
  have hb1 := (Below.refl w.heap.size w).alloc (Nat.le_refl _) (.cells #[.int .i64 0, .int .i64 0] 26)
  refine ⟨?_, (Below.heap_alloc _ _ _ (by simp)).trans (heap_alloc_new w _), hb1.alloc hb1.size _⟩
  have := Lib.fresh_isBuilder 77 5 (w.alloc (.cells #[.int .i64 0, .int .i64 0] 26))
  rw [hs] at this
  exact Lib.IsBuilderF.of this

theorem sb_len (l : List UInt8) : (sb l).data.toList = l := sb_data l

set_option maxRecDepth 100000 in
set_option maxHeartbeats 3200000 in
theorem rwser_any (ao : Option Addr) (l : List Sr) (cap : Nat) (w : World) (hS : SrRow w ao l) (hsh : SrSh l) (hF : FineT w) :
    Calls Tryz.prog 6 #[.slice ao l.length cap] w fun e w' => RWEnd w l e w' := by
  have HS := hid hS
  have HSh := hid hsh
  have HFi := hid hF
  have hl := hsh.1
  have hG : 0 < w.heap.size := World.block_lt_of_cell? _ _ hF.1
  have HI0 := hid (BWr.new w)
  have HC0 := hid (reight_any (l.length : Int) ((w.alloc (.cells #[.int .i64 0, .int .i64 0] 26)).alloc (.cells #[.pointer none, .slice none 0 0] 77)) (by omega) (by omega))
  clear hS hsh hF
  go_enter Tryz.func6, Tryz.ntmps6
  go_wp2_with fail
  refine HC0.out.mono ?_
  rintro e w1 ⟨rfl, hb1⟩
  have hI1 := HI0.out.kept hb1
  have HI1 := hid hI1
  have HC1 := hid (bwrite_any (w.heap.size + 1) (sb (CD.wN l.length)) [] w1 hI1.bl (by rw [sb_size, CD.wN_length]; simp))
  clear hb1 hI1 HC0 HI0
  go_wp2_with fail
  refine HC1.out.mono ?_
  rintro e w2 ⟨rfl, hb2, hb3, _⟩
  have hI2 := HI1.out.wrote hb2 hb3
  rw [sb_data, List.nil_append] at hI2
  have HI2 := hid hI2
  clear hb2 hb3 hI2 HI1 HC1
  go_wp2_with fail
  go_loopw [5, 6, 7, 8, 10, 17] (fun _ _ _ _ _ ti wr => ∃ i : Nat, i ≤ l.length ∧ ti = .int .i64 i ∧ BWr w wr (CD.wN l.length ++ CD.wS chE ((l.map srOf).take i)) ∧ ∀ j, j < i → okS (atSr l j) = true) (fun _ _ _ _ _ ti _ => l.length - (intOf ti).toNat)
  case atStart => exact ⟨0, by omega, rfl, by simpa [CD.wS] using HI2.out, by omega⟩
  case round =>
    obtain ⟨i, hi, rfl, hI, hok⟩ := hrel
    have HOk := hid hok
    clear hok HI2
    by_cases hlt : i < l.length
    · obtain ⟨hs1, hs2, hs3, hs4⟩ := HSh.out.2 i hlt
      have HSt := hid (wS_step l i hlt)
      have hlen := wS_len l HSh.out i hi
      have hbel := hI.below
      obtain ⟨b, off, hao, hbs, lo, lc, so, sc, hc0, hc1, hLR, hSR⟩ := HS.out i hlt
      subst hao
      have hcell0 := (hbel.cell (p := ⟨b, off + i * 2, none⟩) hbs).trans hc0
      have hcell1 := (hbel.cell (p := ⟨b, off + i * 2 + 1, none⟩) hbs).trans hc1
      obtain ⟨q, hq⟩ : ∃ q, okS (atSr l i) = q := ⟨_, rfl⟩
      have HQ := hid hq
      unfold okS at hq
      have HNx : Hid (okS (atSr l i) = true → ∀ j, j < i + 1 → okS (atSr l j) = true) := fun h j hj => by
        by_cases he : j = i
        · subst he; exact h
        · exact HOk.out j (by omega)
      obtain ⟨M, hM⟩ : ∃ M, CD.wN l.length ++ CD.wS chE ((l.map srOf).take i) = M := ⟨_, rfl⟩
      have hMl : M.length ≤ 8 + 120000 * i := by
        rw [← hM, List.length_append, CD.wN_length]
        omega
      have h7 := chE_len (atSr l i).2 (by omega)
      have HCe : Hid (chE (atSr l i).2 = (strOf (BL.pk (CL.chB (atSr l i).2))).data.toList) := rfl
      generalize (atSr l i).1 = la at *
      generalize (atSr l i).2 = sm at *
      rw [hM] at hI
      have HM := hid hM
      have hbox : Below wr.heap.size wr (wr.alloc (.cells #[.slice lo la.length lc, .slice so sm.length sc] 55)) := (Below.refl _ wr).alloc (Nat.le_refl _) _
      have HIx := hid (hI.kept hbox)
      have HC2 := hid (rcwrite_any so sm sc _ (hSR.below HIx.out.below) hs4 hs3)
      have HX := hid (heap_alloc_new wr (.cells #[.slice lo la.length lc, .slice so sm.length sc] 55))
      have HLR := hid hLR
      have HS1 := hid hs1
      have hwr := heap_lt hI.ft
      have hbl := hI.bl.lt
      clear hM hbox hc0 hc1 hlen hbel hLR hSR hs1 hs4 hI
      go_wp2_with fail
      refine HC2.out.mono ?_
      rintro e w3 ⟨t, ev, rfl, hb3, hev⟩
      have hx3 := (hb3.block wr.heap.size (by simp)).trans HX.out
      have y0 : w3.cell? ⟨wr.heap.size, 0, none⟩ = some (.slice lo la.length lc) := by simp [World.cell?, hx3]
      have HX3 := hid hx3
      have HI3 := hid (HIx.out.kept hb3)
      have HC3 := hid (rlabels_any lo la lc w3 (HLR.out.below HI3.out.below) (by omega) HS1.out)
      have hsz3 : wr.heap.size < w3.heap.size := by have := hb3.size; simp at this; omega
      clear hb3 hx3 HC2
      have HEnd : Hid (q = false → ∀ W : World, BWr w W M → RWEnd w l (.returned (.tuple #[.string ⟨#[]⟩, .agg #[.int .i64 1, .int .i64 i]])) ((W.setCell ⟨w.heap.size, 0, none⟩ (.int .i64 1)).setCell ⟨w.heap.size, 1, none⟩ (.int .i64 i))) := fun hq W hW =>
        ⟨(hW.below.setCell (p := ⟨w.heap.size, 0, none⟩) (Nat.le_refl _) _).setCell (p := ⟨w.heap.size, 1, none⟩) (Nat.le_refl _) _, .inr ⟨i, hlt, HOk.out, by rw [HQ.out, hq], rfl⟩⟩
      rcases hev with ⟨hr, rfl, rfl⟩ | ⟨hr, rfl⟩
      · rw [hr] at hq
        have hq' : LB.right la = q := by simpa using hq
        rw [hq'] at HC3
        clear hq hq' hr
        go_wp2_with fail
        refine HC3.out.mono ?_
        rintro e w4 ⟨rfl, hb4⟩
        have HI4 := hid (HI3.out.kept hb4)
        have hx4 := (hb4.block wr.heap.size hsz3).trans HX3.out
        have z0 : w4.cell? ⟨wr.heap.size, 0, none⟩ = some (.slice lo la.length lc) := by simp [World.cell?, hx4]
        have HX4 := hid hx4
        clear hb4 hx4 HC3
        cases q with
        | false =>
          have hft := HI4.out.ft
          have f0 := zcell' _ w.heap.size _ _ hft 0 _ rfl
          have f1 := zcell' _ w.heap.size _ _ hft 1 _ rfl
          have g0 : w4.frozen? ⟨w.heap.size, 0, none⟩ = false := by simp [World.frozen?, hft]
          have g1 : w4.frozen? ⟨w.heap.size, 1, none⟩ = false := by simp [World.frozen?, hft]
          have HFt := hid hft
          clear hft
          go_wp2_with fail
          refine bodyPost_ret (results_tmp_cell (P := Tryz.prog) rfl _ _ w.heap.size 26 _ (0, 0) _ rfl (heap_setCell_same _ _ 1 _ _ _ (heap_setCell_same _ _ 0 _ _ _ HFt.out)) Tryz.underlying26 rfl (by kernel_rfl)) rfl ?_
          exact HEnd.out (by trivial) _ HI4.out
        | true =>
          have HC5 := hid (reight_any (la.length : Int) w4 (by omega) (by omega))
          go_wp2_with fail
          refine HC5.out.mono ?_
          rintro e w5 ⟨rfl, hb5⟩
          have HI5 := hid (HI4.out.kept hb5)
          have HX5 := hid ((hb5.block wr.heap.size (heap_lt HX4.out)).trans HX4.out)
          have HC6 := hid (bwrite_any (w.heap.size + 1) (sb (CD.wN la.length)) M w5 HI5.out.bl (by rw [sb_size, CD.wN_length]; omega))
          clear hb5 HC5 z0
          go_wp2_with fail
          refine HC6.out.mono ?_
          rintro e w6 ⟨rfl, hb6, hb7, ho6⟩
          have hI6 := HI5.out.wrote hb6 hb7
          rw [sb_data] at hI6
          have hx6 := others_at ho6 HX5.out (by omega) (by decide)
          have z6 : w6.cell? ⟨wr.heap.size, 0, none⟩ = some (.slice lo la.length lc) := by simp [World.cell?, hx6]
          have HI6 := hid hI6
          clear hb6 hb7 ho6 hI6 hx6 HC6 HX5 HX4
          go_upto_block 2 with fail
          go_cut [10] (fun _ wx => BWr w wx ((M ++ CD.wN la.length) ++ CD.wL (lbOf la)))
          case first =>
            go_wp2_with fail
            go_loopw [10, 46] (fun _ tj wq => ∃ j : Nat, j ≤ la.length ∧ tj = .int .i64 j ∧ BWr w wq ((M ++ CD.wN la.length) ++ CD.wL ((lbOf la).take j))) (fun _ tj _ => la.length - (intOf tj).toNat)
            case atStart => exact ⟨0, by omega, rfl, by simpa [CD.wL] using HI6.out⟩
            case round =>
              obtain ⟨j, hj, rfl, hJ⟩ := hrel
              by_cases hjl : j < la.length
              · have hsj := HS1.out j hjl
                have HStj := hid (wL_step la j hjl)
                have hlnj := wL_len la HS1.out j hj
                obtain ⟨bl, ol, hlo, hd0, hd1, hbl2⟩ := HLR.out j hjl
                subst hlo
                have hcj0 := (hJ.below.cell (p := ⟨bl, ol + j * 2, none⟩) hbl2).trans hd0
                have hcj1 := (hJ.below.cell (p := ⟨bl, ol + j * 2 + 1, none⟩) hbl2).trans hd1
                generalize (LB.at' la j).1 = N at *
                generalize (LB.at' la j).2 = V at *
                obtain ⟨D, hD⟩ : ∃ D, (M ++ CD.wN la.length) ++ CD.wL ((lbOf la).take j) = D := ⟨_, rfl⟩
                have hDl : D.length ≤ 16 + 120000 * i + 4016 * j := by
                  rw [← hD, List.length_append, List.length_append, CD.wN_length]
                  omega
                rw [hD] at hJ
                have HD := hid hD
                have eN : N.data.toList.length = N.size := by rw [Array.length_toList]; rfl
                have eV : V.data.toList.length = V.size := by rw [Array.length_toList]; rfl
                have hLW : D.length + (CD.wT N.data.toList ++ CD.wT V.data.toList).length ≤ 10000000000 ∧ (sb (CD.wT N.data.toList)).size + (sb (CD.wT V.data.toList)).size ≤ 10000000000 := by
                  rw [sb_size, sb_size, List.length_append, CD.wT_length, CD.wT_length, eN, eV]
                  omega
                have HLW := hid hLW
                clear eN eV hLW
                have hwq := heap_lt hJ.ft
                have hblq := hJ.bl.lt
                have hboxj : Below wr.heap.size wr (wr.alloc (.cells #[.string N, .string V] 49)) := (Below.refl _ wr).alloc (Nat.le_refl _) _
                have HJx := hid (hJ.kept hboxj)
                have HXj := hid (heap_alloc_new wr (.cells #[.string N, .string V] 49))
                clear hd0 hd1 hD hJ hboxj hlnj
                go_wp2_with fail
                generalize hwx : wr.alloc (.cells #[.string N, .string V] 49) = wx at *
                have hbxl := heap_lt HXj.out
                generalize wr.heap.size = by' at *
                have hk0 : wx.cell? ⟨by', 0, none⟩ = some (.string N) := by simp [World.cell?, HXj.out]
                have hk1 : wx.cell? ⟨by', 1, none⟩ = some (.string V) := by simp [World.cell?, HXj.out]
                clear hwx
                have HK0 : Hid (Below wx.heap.size wx wx.drew) := (Below.refl _ wx).drew
                have HT : Hid (∀ s W, (s = N ∨ s = V) → Below wx.heap.size wx W → Calls Tryz.prog 30 #[.string s] W fun e w' => e = .returned (.string (sb (CD.wT s.data.toList))) ∧ Below wx.heap.size wx w' ∧ w'.cell? ⟨by', 0, none⟩ = some (.string N) ∧ w'.cell? ⟨by', 1, none⟩ = some (.string V)) := fun s W hs hW => by
                  refine (rtext_any s W (by rcases hs with rfl | rfl <;> omega)).mono ?_
                  rintro e w' ⟨h1, h2⟩
                  have hb' := hW.trans (h2.mono hW.size)
                  exact ⟨h1, hb', (hb'.cell (p := ⟨by', 0, none⟩) hbxl).trans hk0, (hb'.cell (p := ⟨by', 1, none⟩) hbxl).trans hk1⟩
                have hno : ¬ 9223372036854775807 < (sb (CD.wT N.data.toList)).size + (sb (CD.wT V.data.toList)).size := by
                  have := HLW.out.2
                  omega
                have HWs : Hid (∀ W, Below wx.heap.size wx W → Calls Tryz.prog 26 #[.pointer (some ⟨w.heap.size + 1, 0, none⟩), .string (sb (CD.wT N.data.toList) ++ sb (CD.wT V.data.toList))] W fun e w' => (∃ n : Nat, e = .returned (.tuple #[.int .i64 n, .nilIface])) ∧ BWr w w' (D ++ (CD.wT N.data.toList ++ CD.wT V.data.toList))) := fun W hW => by
                  rw [sb_append]
                  have hJW := HJx.out.kept hW
                  refine (bwrite_any (w.heap.size + 1) (sb (CD.wT N.data.toList ++ CD.wT V.data.toList)) D W hJW.bl (by
                    rw [sb_size]
                    exact HLW.out.1)).mono ?_
                  rintro e w' ⟨h1, h2, h3, _⟩
                  rw [sb_data] at h2
                  exact ⟨⟨_, h1⟩, hJW.wrote h2 h3⟩
                go_region_with (first | (go_at_call 30; refine (HT.out _ _ (by first | exact .inl rfl | exact .inr rfl) (by first | exact HKa.out | exact HK0.out)).mono ?_; rintro e wa ⟨rfl, hKa, ca0, ca1⟩; have HKa := hid hKa; clear hKa) | (go_at_call 26; refine (HWs.out _ (by exact HKa.out)).mono ?_; rintro e wb ⟨⟨nb, rfl⟩, hBb⟩; have HBb := hid hBb; clear hBb))
                all_goals
                  go_wp2_with fail
                  go_roundw
                  case rel =>
                    refine ⟨j + 1, by omega, by go_num, ?_⟩
                    rw [HStj.out, ← List.append_assoc, HD.out]
                    exact HBb.out
                  case measure => simp [intOf]; omega
              · have hje : j = la.length := by omega
                have HJ := hid hJ
                have HJe : Hid ((lbOf la).take j = lbOf la) := List.take_of_length_le (by simp [lbOf]; omega)
                clear hJ hje
                go_wp2_with fail
                go_meet
                case rel =>
                  have := HJ.out
                  rw [HJe.out] at this
                  exact this
          case rest =>
            have HIc := hid hcut
            clear hcut HI6
            have hlc : ((M ++ CD.wN la.length) ++ CD.wL (lbOf la)).length ≤ 1000000000 := by
              have h6 := wL_len la HS1.out la.length (Nat.le_refl _)
              rw [List.take_of_length_le (by simp [lbOf])] at h6
              rw [List.length_append, List.length_append, CD.wN_length]
              omega
            obtain ⟨GG, hGG⟩ : ∃ GG, (M ++ CD.wN la.length) ++ CD.wL (lbOf la) = GG := ⟨_, rfl⟩
            rw [hGG] at HIc hlc
            have HGG := hid hGG
            clear hGG
            have hwt : (CD.wT (strOf (BL.pk (CL.chB sm))).data.toList).length ≤ 35028 := by
              rw [CD.wT_length, Array.length_toList]
              exact Nat.add_le_add_left h7 8
            have HC7 := hid (rtext_any (strOf (BL.pk (CL.chB sm))) wc (by omega))
            go_wp2_with fail
            refine HC7.out.mono ?_
            rintro e w7 ⟨rfl, hb7⟩
            have HI7 := hid (HIc.out.kept hb7)
            have HC8 := hid (bwrite_any (w.heap.size + 1) (sb (CD.wT (strOf (BL.pk (CL.chB sm))).data.toList)) GG w7 HI7.out.bl (by rw [sb_size]; omega))
            clear hb7 HC7 HIc hlc hwt
            go_wp2_with fail
            refine HC8.out.mono ?_
            rintro e w8 ⟨rfl, hb8, hb9, _⟩
            have hI8 := HI7.out.wrote hb8 hb9
            rw [sb_data] at hI8
            have HI8 := hid hI8
            clear hb8 hb9 hI8 HC8 HI7
            go_wp2_with fail
            go_roundw
            case rel =>
              refine ⟨i + 1, by omega, by go_num, ?_, HNx.out HQ.out⟩
              have h8 := HI8.out
              rw [← HGG.out] at h8
              rw [HSt.out, ← List.append_assoc, HM.out, HCe.out]
              rw [List.append_assoc M] at h8
              rw [← List.append_assoc M]
              exact h8
            case measure => simp [intOf]; omega
      · rw [hr] at hq
        have hq' : q = false := by simpa using hq.symm
        have hft := HI3.out.ft
        have f0 := zcell' _ w.heap.size _ _ hft 0 _ rfl
        have f1 := zcell' _ w.heap.size _ _ hft 1 _ rfl
        have g0 : w3.frozen? ⟨w.heap.size, 0, none⟩ = false := by simp [World.frozen?, hft]
        have g1 : w3.frozen? ⟨w.heap.size, 1, none⟩ = false := by simp [World.frozen?, hft]
        have HFt := hid hft
        clear hq hr HC3 hft
        go_wp2_with fail
        refine bodyPost_ret (results_tmp_cell (P := Tryz.prog) rfl _ _ w.heap.size 26 _ (0, 0) _ rfl (heap_setCell_same _ _ 1 _ _ _ (heap_setCell_same _ _ 0 _ _ _ HFt.out)) Tryz.underlying26 rfl (by kernel_rfl)) rfl ?_
        exact HEnd.out hq' _ HI3.out
    · have he : i = l.length := by omega
      have HE : Hid (CD.wN l.length ++ CD.wS chE ((l.map srOf).take i) = CD.wAll chE (l.map srOf)) := by
        show _ = _
        rw [he, List.take_of_length_le (by simp)]
        unfold CD.wAll
        rw [List.length_map]
      have HC1 := hid (fun W (hW : BWr w W (CD.wN l.length ++ CD.wS chE ((l.map srOf).take i))) => bstring_any (w.heap.size + 1) _ W hW.bl)
      have HI := hid hI
      have HFW : Hid (∀ W, Below w.heap.size w W → FineT W) := fun W hb => ⟨(hb.cell (p := ⟨0, 0, none⟩) hG).trans HFi.out.1, (hb.cell (p := ⟨0, 1, none⟩) hG).trans HFi.out.2⟩
      have hEx : i = l.length := he
      have HEx := hid hEx
      clear hI he hEx
      have HCs : Hid (∀ W, Below wr.heap.size wr W → Calls Tryz.prog 31 #[.pointer (some ⟨w.heap.size + 1, 0, none⟩)] W fun e w' => e = .returned (.string (sb (CD.wAll chE (l.map srOf)))) ∧ (w'.heap[w.heap.size]? = some (.cells #[.int .i64 0, .int .i64 0] 26) ∧ Below w.heap.size w w') ∧ FineT w' ∧ w'.cell? ⟨w.heap.size, 0, none⟩ = some (.int .i64 0) ∧ w'.cell? ⟨w.heap.size, 1, none⟩ = some (.int .i64 0) ∧ w'.frozen? ⟨w.heap.size, 0, none⟩ = false ∧ w'.frozen? ⟨w.heap.size, 1, none⟩ = false) := fun W hW => by
        have hB := HI.out.kept hW
        refine (bstring_any (w.heap.size + 1) _ W hB.bl).mono ?_
        rintro e w' ⟨h1, h2⟩
        have hft := (h2.block w.heap.size (by omega)).trans hB.ft
        have hbw := hB.below.trans (h2.mono (by omega))
        rw [HE.out] at h1
        refine ⟨h1, ⟨hft, hbw⟩, HFW.out _ hbw, ?_, ?_, ?_, ?_⟩ <;> simp [World.cell?, World.frozen?, hft]
      obtain ⟨d0, d1⟩ := HFW.out wr HI.out.below
      have HK0 : Hid (Below wr.heap.size wr wr.drew) := (Below.refl _ wr).drew
      generalize hZ : sb (CD.wAll chE (l.map srOf)) = Z at *
      have HZ := hid hZ
      clear hZ HC1
      go_wp2_with fail
      go_region_with (go_at_call 31; refine (HCs.out _ (by exact HK0.out)).mono ?_; rintro e wa ⟨rfl, hA, ⟨k0, k1⟩, j0, j1, m0, m1⟩; have HA := hid hA; clear hA)
      all_goals
        go_wp2_with fail
        refine bodyPost_ret (results_tmp_cell (P := Tryz.prog) rfl _ _ w.heap.size 26 _ (0, 0) _ rfl (heap_setCell_same _ _ 1 _ _ _ (heap_setCell_same _ _ 0 _ _ _ HA.out.1)) Tryz.underlying26 rfl (by kernel_rfl)) rfl ?_
        refine ⟨(HA.out.2.setCell (p := ⟨w.heap.size, 0, none⟩) (Nat.le_refl _) _).setCell (p := ⟨w.heap.size, 1, none⟩) (Nat.le_refl _) _, .inl ⟨fun j hj => HOk.out j (by rw [HEx.out]; exact hj), ?_⟩⟩
        rw [HZ.out]
        rfl

end Go.Proofs.YtdmnlmohfaafoadGreatDoor
