/-
  Some texts of this claim, one behind the other: RuleTrim. What each proves, and its condition, stands at its head.
-/
import Derived.Test.YtmcpdcfeappokaaGreatDoorZ23
import Derived.Test.YtmcpdcfeappokaaGreatDoorChecked
import Derived.Shelf.Strings.SlTrimAscii
/-
  The library's own TrimLeft, laid at this program, at the signs' letters. Condition: none beyond what a text's length may be.
-/
namespace Go.Proofs.YtmcpdcfeappokaaGreatDoor.Rule
open Go.RowKit Go.Lib Go.Shelf
set_option linter.unusedVariables false
def renT : Ren := ⟨fun | 119 => 105 | 137 => 104 | 151 => 83 | 152 => 94 | 161 => 51 | 197 => 82 | 217 => 96 | 224 => 98 | 225 => 97 | 227 => 68 | 228 => 81 | 231 => 66 | 233 => 69 | 235 => 71 | 260 => 93 | 266 => 106 | n => n, fun | 0 => 0 | 3 => 3 | 4 => 4 | 5 => 5 | 9 => 9 | 21 => 21 | 46 => 124 | 105 => 108 | 116 => 97 | 117 => 98 | 119 => 131 | 124 => 101 | 138 => 133 | 139 => 134 | n => n, fun | 3 => 2 | 4 => 3 | n => n⟩
theorem laysT : Lays.n161 Tryz.prog renT := {
  mixed := by kernel_rfl
  f119 := Tryz.func105.trans (congrArg some (by kernel_rfl))
  f137 := Tryz.func104.trans (congrArg some (by kernel_rfl))
  f151 := Tryz.func83.trans (congrArg some (by kernel_rfl))
  f152 := Tryz.func94.trans (congrArg some (by kernel_rfl))
  f161 := Tryz.func51.trans (congrArg some (by kernel_rfl))
  f197 := Tryz.func82.trans (congrArg some (by kernel_rfl))
  f217 := Tryz.func96.trans (congrArg some (by kernel_rfl))
  f224 := Tryz.func98.trans (congrArg some (by kernel_rfl))
  f225 := Tryz.func97.trans (congrArg some (by kernel_rfl))
  f227 := Tryz.func68.trans (congrArg some (by kernel_rfl))
  f228 := Tryz.func81.trans (congrArg some (by kernel_rfl))
  f231 := Tryz.func66.trans (congrArg some (by kernel_rfl))
  f233 := Tryz.func69.trans (congrArg some (by kernel_rfl))
  f235 := Tryz.func71.trans (congrArg some (by kernel_rfl))
  f260 := Tryz.func93.trans (congrArg some (by kernel_rfl))
  f266 := Tryz.func106.trans (congrArg some (by kernel_rfl))
  t0 := Tryz.underlying0
  a0 := Tryz.isAgg0
  z0 := Tryz.sizeOf0
  v0 := Tryz.zeroValue0
  t3 := Tryz.underlying3
  a3 := Tryz.isAgg3
  z3 := Tryz.sizeOf3
  v3 := Tryz.zeroValue3
  t4 := Tryz.underlying4
  a4 := Tryz.isAgg4
  z4 := Tryz.sizeOf4
  v4 := Tryz.zeroValue4
  t5 := Tryz.underlying5
  a5 := Tryz.isAgg5
  z5 := Tryz.sizeOf5
  v5 := Tryz.zeroValue5
  t9 := Tryz.underlying9
  a9 := Tryz.isAgg9
  z9 := Tryz.sizeOf9
  v9 := Tryz.zeroValue9
  t21 := Tryz.underlying21
  a21 := Tryz.isAgg21
  z21 := Tryz.sizeOf21
  v21 := Tryz.zeroValue21
  t46 := Tryz.underlying124
  a46 := Tryz.isAgg124
  z46 := Tryz.sizeOf124
  v46 := Tryz.zeroValue124
  t105 := Tryz.underlying108
  a105 := Tryz.isAgg108
  z105 := Tryz.sizeOf108
  v105 := Tryz.zeroValue108
  t116 := Tryz.underlying97
  a116 := Tryz.isAgg97
  z116 := Tryz.sizeOf97
  t117 := Tryz.underlying98
  a117 := Tryz.isAgg98
  z117 := Tryz.sizeOf98
  v117 := Tryz.zeroValue98
  t119 := Tryz.underlying131
  a119 := Tryz.isAgg131
  z119 := Tryz.sizeOf131
  t124 := Tryz.underlying101
  a124 := Tryz.isAgg101
  z124 := Tryz.sizeOf101
  v124 := Tryz.zeroValue101
  t138 := Tryz.underlying133
  a138 := Tryz.isAgg133
  z138 := Tryz.sizeOf133
  v138 := Tryz.zeroValue133
  t139 := Tryz.underlying134
  a139 := Tryz.isAgg134
  z139 := Tryz.sizeOf134
  v139 := Tryz.zeroValue134
  g3 := by kernel_rfl
  g4 := by kernel_rfl }
theorem sg_set (b : UInt8) : ([61, 62, 60, 94, 126] : List UInt8).contains b = sg b := by
  unfold sg
  rw [Bool.eq_iff_iff]
  simp [or_assoc]
theorem trim_any (l : List UInt8) (w : World) :
    Calls Tryz.prog 51 #[.string (str l), .string ⟨#[61, 62, 60, 94, 126]⟩] w fun e w' => e = .returned (.string (str (l.dropWhile sg))) ∧ Below w.heap.size w w' := by
  refine (Any.strings_TrimLeft_laid laysT (by kernel_rfl) (str l) ⟨#[61, 62, 60, 94, 126]⟩ w (by decide) (ascii_of_all (by decide))).mono ?_
  rintro e w' ⟨rfl, hb⟩
  refine ⟨?_, hb⟩
  have h : trimLeftS (str l).data.toList (⟨#[61, 62, 60, 94, 126]⟩ : ByteArray).data.toList = l.dropWhile sg := by
    unfold trimLeftS
    have e : (fun x => ([61, 62, 60, 94, 126] : List UInt8).contains x) = sg := funext sg_set
    show List.dropWhile (fun x => ([61, 62, 60, 94, 126] : List UInt8).contains x) l = _
    rw [e]
  rw [h]
  rfl
end Go.Proofs.YtmcpdcfeappokaaGreatDoor.Rule
