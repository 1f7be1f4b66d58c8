/-
  The library's own TrimLeft, laid at this program, at the signs' letters. Condition: none beyond what a text's length may be.
-/
import Derived.Test.YtcgcgjcjgpcfiaaGreatDoorRuleMath
import Derived.Test.YtcgcgjcjgpcfiaaGreatDoorChecked
import Derived.Shelf.Strings.SlTrimAscii
namespace Go.Proofs.YtcgcgjcjgpcfiaaGreatDoor.Rule
open Go.RowKit Go.Lib Go.Shelf
set_option linter.unusedVariables false
def renT : Ren := ⟨fun | 119 => 89 | 137 => 88 | 151 => 62 | 152 => 74 | 161 => 15 | 197 => 61 | 217 => 98 | 224 => 90 | 225 => 91 | 227 => 37 | 228 => 60 | 231 => 36 | 233 => 38 | 235 => 39 | 260 => 73 | 266 => 104 | n => n, fun | 0 => 0 | 3 => 3 | 4 => 4 | 5 => 5 | 9 => 9 | 21 => 21 | 46 => 102 | 105 => 97 | 116 => 66 | 117 => 67 | 119 => 122 | 124 => 70 | 138 => 124 | 139 => 125 | n => n, fun | 3 => 1 | 4 => 2 | n => n⟩
theorem laysT : Lays.n161 Tryz.prog renT := {
  mixed := by kernel_rfl
  f119 := Tryz.func89.trans (congrArg some (by kernel_rfl))
  f137 := Tryz.func88.trans (congrArg some (by kernel_rfl))
  f151 := Tryz.func62.trans (congrArg some (by kernel_rfl))
  f152 := Tryz.func74.trans (congrArg some (by kernel_rfl))
  f161 := Tryz.func15.trans (congrArg some (by kernel_rfl))
  f197 := Tryz.func61.trans (congrArg some (by kernel_rfl))
  f217 := Tryz.func98.trans (congrArg some (by kernel_rfl))
  f224 := Tryz.func90.trans (congrArg some (by kernel_rfl))
  f225 := Tryz.func91.trans (congrArg some (by kernel_rfl))
  f227 := Tryz.func37.trans (congrArg some (by kernel_rfl))
  f228 := Tryz.func60.trans (congrArg some (by kernel_rfl))
  f231 := Tryz.func36.trans (congrArg some (by kernel_rfl))
  f233 := Tryz.func38.trans (congrArg some (by kernel_rfl))
  f235 := Tryz.func39.trans (congrArg some (by kernel_rfl))
  f260 := Tryz.func73.trans (congrArg some (by kernel_rfl))
  f266 := Tryz.func104.trans (congrArg some (by kernel_rfl))
  t0 := Tryz.underlying0
  a0 := Tryz.isAgg0
  z0 := Tryz.sizeOf0
  v0 := Tryz.zeroValue0
  t3 := Tryz.underlying3
  a3 := Tryz.isAgg3
  z3 := Tryz.sizeOf3
  v3 := Tryz.zeroValue3
  t4 := Tryz.underlying4
  a4 := Tryz.isAgg4
  z4 := Tryz.sizeOf4
  v4 := Tryz.zeroValue4
  t5 := Tryz.underlying5
  a5 := Tryz.isAgg5
  z5 := Tryz.sizeOf5
  v5 := Tryz.zeroValue5
  t9 := Tryz.underlying9
  a9 := Tryz.isAgg9
  z9 := Tryz.sizeOf9
  v9 := Tryz.zeroValue9
  t21 := Tryz.underlying21
  a21 := Tryz.isAgg21
  z21 := Tryz.sizeOf21
  v21 := Tryz.zeroValue21
  t46 := Tryz.underlying102
  a46 := Tryz.isAgg102
  z46 := Tryz.sizeOf102
  v46 := Tryz.zeroValue102
  t105 := Tryz.underlying97
  a105 := Tryz.isAgg97
  z105 := Tryz.sizeOf97
  v105 := Tryz.zeroValue97
  t116 := Tryz.underlying66
  a116 := Tryz.isAgg66
  z116 := Tryz.sizeOf66
  t117 := Tryz.underlying67
  a117 := Tryz.isAgg67
  z117 := Tryz.sizeOf67
  v117 := Tryz.zeroValue67
  t119 := Tryz.underlying122
  a119 := Tryz.isAgg122
  z119 := Tryz.sizeOf122
  t124 := Tryz.underlying70
  a124 := Tryz.isAgg70
  z124 := Tryz.sizeOf70
  v124 := Tryz.zeroValue70
  t138 := Tryz.underlying124
  a138 := Tryz.isAgg124
  z138 := Tryz.sizeOf124
  v138 := Tryz.zeroValue124
  t139 := Tryz.underlying125
  a139 := Tryz.isAgg125
  z139 := Tryz.sizeOf125
  v139 := Tryz.zeroValue125
  g3 := by kernel_rfl
  g4 := by kernel_rfl }
theorem sg_set (b : UInt8) : ([61, 62, 60, 94, 126] : List UInt8).contains b = sg b := by
  unfold sg
  rw [Bool.eq_iff_iff]
  simp [or_assoc]
theorem trim_any (l : List UInt8) (w : World) :
    Calls Tryz.prog 15 #[.string (str l), .string ⟨#[61, 62, 60, 94, 126]⟩] w fun e w' => e = .returned (.string (str (l.dropWhile sg))) ∧ Below w.heap.size w w' := by
  refine (Any.strings_TrimLeft_laid laysT (by kernel_rfl) (str l) ⟨#[61, 62, 60, 94, 126]⟩ w (by decide) (ascii_of_all (by decide))).mono ?_
  rintro e w' ⟨rfl, hb⟩
  refine ⟨?_, hb⟩
  have h : trimLeftS (str l).data.toList (⟨#[61, 62, 60, 94, 126]⟩ : ByteArray).data.toList = l.dropWhile sg := by
    unfold trimLeftS
    have e : (fun x => ([61, 62, 60, 94, 126] : List UInt8).contains x) = sg := funext sg_set
    show List.dropWhile (fun x => ([61, 62, 60, 94, 126] : List UInt8).contains x) l = _
    rw [e]
  rw [h]
  rfl
end Go.Proofs.YtcgcgjcjgpcfiaaGreatDoor.Rule
