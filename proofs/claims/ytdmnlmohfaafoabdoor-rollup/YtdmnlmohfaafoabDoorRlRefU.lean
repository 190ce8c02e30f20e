/- What the document's Up answers, and what Together comes to of what Up told. -/
import Derived.Test.YtdmnlmohfaafoabDoorRlTog
import Derived.Test.YtdmnlmohfaafoabDoorRlSamp
namespace Go.Proofs.YtdmnlmohfaafoabDoor
open Go.RowKit

theorem bk0_up (l : List CL.Smp) (span : Int) : (l.map bk0).map (CL.toSt fun t => CL.flr t span) = l.map (CL.bk span) := by
  rw [List.map_map]; rfl

theorem bk0_len (l : List CL.Smp) : (l.map bk0).length = l.length := List.length_map _

set_option maxHeartbeats 400000 in
theorem rup_bad (ao : Option Addr) (n cap : Nat) (span : Int) (w : World) (hs : ¬ (1 ≤ span ∧ span ≤ 1099511627776)) :
    Calls Tryd.prog 13 #[.slice ao n cap, .int .i64 span] w fun e w' => e = .returned (.tuple #[.slice none 0 0, .int .i64 1]) ∧ w' = w := by
  have HD := hid (rin_any span 1 1099511627776 w)
  rw [decide_eq_false hs] at HD
  clear hs
  go_enter Tryd.func13, Tryd.ntmps13
  go_wp2_with fail
  refine Calls.mono HD.out ?_
  rintro e w1 ⟨rfl, rfl⟩
  go_wp2_with fail
  go_ret2
  exact ⟨rfl, rfl⟩

set_option maxHeartbeats 800000 in
theorem rup_ok (ao : Option Addr) (l : List CL.Smp) (cap : Nat) (span : Int) (w : World) (hS : SRow w ao l) (hR : ∀ s ∈ l, -1099511627776 ≤ s.1 ∧ s.1 ≤ 1099511627776) (hri : l.Pairwise fun x y => x.1 < y.1) (hl : l.length ≤ 1000) (hs : 1 ≤ span ∧ span ≤ 1099511627776) :
    Calls Tryd.prog 13 #[.slice ao l.length cap, .int .i64 span] w fun e w' => ∃ v, e = .returned (.tuple #[v, .int .i64 0]) ∧ w'.ownsRow w.heap.size 72 5 v (CL.up span l).length (bv (CL.up span l)) ∧ Below w.heap.size w w' := by
  have HD := hid (rin_any span 1 1099511627776 w)
  rw [decide_eq_true hs] at HD
  have HC := hid (rbuckets_any ao l cap w hS hl)
  have HR : Hid (∀ b ∈ l.map bk0, -9007199254740992 ≤ b.st ∧ b.st ≤ 9007199254740992) := fun b hb => by
    obtain ⟨s, hsm, rfl⟩ := List.mem_map.1 hb
    have := hR s hsm
    show -9007199254740992 ≤ s.1 ∧ s.1 ≤ 9007199254740992
    omega
  have HRi := hid hri
  have hbl : (l.map bk0).length ≤ 1000 := by rw [bk0_len]; exact hl
  clear hS hR hri
  go_enter Tryd.func13, Tryd.ntmps13
  go_wp2_with fail
  refine Calls.mono HD.out ?_
  rintro e w1 ⟨rfl, rfl⟩
  go_wp2_with fail
  refine Calls.mono HC.out ?_
  rintro e w2 ⟨v2, rfl, ho2, hb2⟩
  obtain ⟨a2, c2, rfl, hS2, _, _⟩ := BRow.of_own ho2
  have HB2 := hid hb2
  have hz2 := hb2.size
  have HT := hid (rtog_any a2 (l.map bk0) c2 span w2 hS2 HR.out hbl hs)
  clear ho2 hb2 hS2
  generalize hbk : l.map bk0 = bb at *
  have HBK := hid hbk
  clear hbk
  go_wp2_with fail
  refine Calls.mono HT.out ?_
  rintro e w3 ⟨v3, out, rfl, ho3, hb3, hri3, htot⟩
  have heq : out = CL.up span l := CL.eq_of_tot _ _ hri3 (CL.rise_up l span hs.1 HRi.out) (fun t => by
    rw [htot, CL.tot_up, ← HBK.out, bk0_up])
  subst heq
  have HO3 := hid (ho3.mono hz2)
  have HB3 := hid (HB2.out.trans (hb3.mono hz2))
  clear ho3 hb3 hri3 htot
  go_wp2_with fail
  go_ret2
  exact ⟨_, rfl, HO3.out, HB3.out⟩

/-- Of what Up told nothing moves in the same spans. -/
theorem up_still (span : Int) (l : List CL.Smp) (hl : l.length ≤ 2000) : (CL.up span l).map (CL.toSt fun t => CL.flr t span) = CL.up span l := by
  have h := (CL.fine_up span l hl).2
  conv => rhs; rw [← List.map_id (CL.up span l)]
  apply List.map_congr_left
  intro b hb
  have := CL.flr_of_mod b.st span (h b hb).1
  show CL.toSt _ b = b
  unfold CL.toSt
  simp only [this]

/-- What both come to together. -/
theorem both_tot (span : Int) (a b : List CL.Smp) (hs : 1 ≤ span) (ha : a.length ≤ 2000) (hb : b.length ≤ 2000) (hra : a.Pairwise fun x y => x.1 < y.1) (hrb : b.Pairwise fun x y => x.1 < y.1) (out : List CL.Bkt) (ho : CL.RiseB out)
    (ht : ∀ t, CL.tot out t = CL.tot ((CL.up span a ++ CL.up span b).map (CL.toSt fun t => CL.flr t span)) t) : out = CL.mrgB (CL.up span a) (CL.up span b) :=
  CL.eq_of_tot _ _ ho (CL.rise_mrgB _ _ (CL.rise_up a span hs hra) (CL.rise_up b span hs hrb)) (fun t => by
    rw [ht, List.map_append, up_still span a ha, up_still span b hb, CL.tot_append, CL.tot_mrgB _ _ (CL.rise_up a span hs hra)])

theorem wide_tot (wide : Int) (A : List CL.Bkt) (hw : 1 ≤ wide) (hA : CL.RiseB A) (out : List CL.Bkt) (ho : CL.RiseB out)
    (ht : ∀ t, CL.tot out t = CL.tot (A.map (CL.toSt fun t => CL.flr t wide)) t) : out = CL.wid' wide A := by
  refine CL.eq_of_tot _ _ ho (CL.rise_gathL _ [] List.Pairwise.nil ?_ (by simp)) (fun t => ?_)
  · unfold CL.Flat
    rw [List.pairwise_map]
    exact hA.imp fun {a b} h => CL.flr_mono a.st b.st wide hw (by omega)
  · rw [ht, CL.wid', CL.tot_gathL, CL.tot_nil]; rfl

theorem wid_len (wide : Int) (A : List CL.Bkt) : (CL.wid' wide A).length ≤ A.length := by
  have := CL.gathL_len (A.map (CL.toSt fun t => CL.flr t wide)) []
  rw [List.length_map, List.length_nil] at this
  unfold CL.wid'; omega

theorem mrgB_len (a b : List CL.Bkt) : (CL.mrgB a b).length ≤ a.length + b.length := by
  have := CL.gathL_len (CL.omrg a b) []
  rw [CL.omrg_len, List.length_nil] at this
  unfold CL.mrgB; omega

end Go.Proofs.YtdmnlmohfaafoabDoor
