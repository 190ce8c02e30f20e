/- strings.Clone: the inner one by the shelf's contract, its numbers laid by hand. -/
import Derived.Shelf.Pu.Clone
import Derived.Test.YtdmnlmohfaafoaeDoorRows
namespace Go.Proofs
open Go.Shelf
def Tryd.laysC_ren : Go.Shelf.Ren := ⟨fun | 25 => 168 | n => n, fun | 0 => 0 | 3 => 3 | 4 => 4 | 5 => 5 | 9 => 9 | 37 => 103 | 47 => 171 | n => n, fun | n => n⟩
theorem Tryd.laysC : Go.Proofs.LaysPu.n25 Tryd.prog Tryd.laysC_ren := {
  mixed := by kernel_rfl
  f25 := Tryd.func168.trans (congrArg some (by kernel_rfl))
  t0 := Tryd.underlying0
  a0 := Tryd.isAgg0
  z0 := Tryd.sizeOf0
  v0 := Tryd.zeroValue0
  i0 := by kernel_rfl
  t3 := Tryd.underlying3
  a3 := Tryd.isAgg3
  z3 := Tryd.sizeOf3
  v3 := Tryd.zeroValue3
  i3 := by kernel_rfl
  t4 := Tryd.underlying4
  a4 := Tryd.isAgg4
  z4 := Tryd.sizeOf4
  v4 := Tryd.zeroValue4
  i4 := by kernel_rfl
  t5 := Tryd.underlying5
  a5 := Tryd.isAgg5
  z5 := Tryd.sizeOf5
  v5 := Tryd.zeroValue5
  i5 := by kernel_rfl
  t9 := Tryd.underlying9
  a9 := Tryd.isAgg9
  z9 := Tryd.sizeOf9
  v9 := Tryd.zeroValue9
  i9 := by kernel_rfl
  t37 := Tryd.underlying103
  a37 := Tryd.isAgg103
  z37 := Tryd.sizeOf103
  v37 := Tryd.zeroValue103
  i37 := by kernel_rfl
  t47 := Tryd.underlying171
  a47 := Tryd.isAgg171
  z47 := Tryd.sizeOf171
  v47 := Tryd.zeroValue171
  i47 := by kernel_rfl }
end Go.Proofs
namespace Go.Proofs.YtdmnlmohfaafoaeDoor
open Go.RowKit

theorem clone_any (s : ByteArray) (w : World) (hs : s.size ≤ 281474976710656) : Calls Tryd.prog 148 #[.string s] w fun e w' => e = .returned (.string s) ∧ Below w.heap.size w w' := by
  have HC := Go.Proofs.AnyPu.stringslite_Clone Tryd.laysC s w hs
  have HC : Go.RowKit.Hid (Calls Tryd.prog 168 #[.string s] w fun e w' => e = .returned (.string s) ∧ Below w.heap.size w w') := HC
  go_enter Tryd.func148, Tryd.ntmps148
  go_wp2_with fail
  refine HC.out.mono ?_
  rintro e w1 ⟨rfl, hb⟩
  go_wp2_with fail
  go_ret
  exact ⟨rfl, hb⟩

end Go.Proofs.YtdmnlmohfaafoaeDoor

