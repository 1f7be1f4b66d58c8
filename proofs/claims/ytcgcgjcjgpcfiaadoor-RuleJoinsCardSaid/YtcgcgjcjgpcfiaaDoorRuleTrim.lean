/-
  The library's own TrimLeft, laid at this program, at the signs' letters. Condition: none beyond what a text's length may be.
-/
import Derived.Test.YtcgcgjcjgpcfiaaDoorRuleMath
import Derived.Test.YtcgcgjcjgpcfiaaDoorChecked
import Derived.Shelf.Strings.SlTrimAscii
namespace Go.Proofs.YtcgcgjcjgpcfiaaDoor.Rule
open Go.RowKit Go.Lib Go.Shelf
set_option linter.unusedVariables false
def renT : Ren := ⟨fun | 119 => 97 | 137 => 96 | 151 => 74 | 152 => 84 | 161 => 51 | 197 => 73 | 217 => 105 | 224 => 98 | 225 => 99 | 227 => 61 | 228 => 72 | 231 => 60 | 233 => 62 | 235 => 63 | 260 => 83 | 266 => 107 | n => n, fun | 0 => 0 | 3 => 3 | 4 => 4 | 5 => 5 | 9 => 9 | 21 => 21 | 46 => 110 | 105 => 105 | 116 => 90 | 117 => 91 | 119 => 124 | 124 => 94 | 138 => 126 | 139 => 127 | n => n, fun | 3 => 3 | 4 => 4 | n => n⟩
theorem laysT : Lays.n161 Tryd.prog renT := {
  mixed := by kernel_rfl
  f119 := Tryd.func97.trans (congrArg some (by kernel_rfl))
  f137 := Tryd.func96.trans (congrArg some (by kernel_rfl))
  f151 := Tryd.func74.trans (congrArg some (by kernel_rfl))
  f152 := Tryd.func84.trans (congrArg some (by kernel_rfl))
  f161 := Tryd.func51.trans (congrArg some (by kernel_rfl))
  f197 := Tryd.func73.trans (congrArg some (by kernel_rfl))
  f217 := Tryd.func105.trans (congrArg some (by kernel_rfl))
  f224 := Tryd.func98.trans (congrArg some (by kernel_rfl))
  f225 := Tryd.func99.trans (congrArg some (by kernel_rfl))
  f227 := Tryd.func61.trans (congrArg some (by kernel_rfl))
  f228 := Tryd.func72.trans (congrArg some (by kernel_rfl))
  f231 := Tryd.func60.trans (congrArg some (by kernel_rfl))
  f233 := Tryd.func62.trans (congrArg some (by kernel_rfl))
  f235 := Tryd.func63.trans (congrArg some (by kernel_rfl))
  f260 := Tryd.func83.trans (congrArg some (by kernel_rfl))
  f266 := Tryd.func107.trans (congrArg some (by kernel_rfl))
  t0 := Tryd.underlying0
  a0 := Tryd.isAgg0
  z0 := Tryd.sizeOf0
  v0 := Tryd.zeroValue0
  t3 := Tryd.underlying3
  a3 := Tryd.isAgg3
  z3 := Tryd.sizeOf3
  v3 := Tryd.zeroValue3
  t4 := Tryd.underlying4
  a4 := Tryd.isAgg4
  z4 := Tryd.sizeOf4
  v4 := Tryd.zeroValue4
  t5 := Tryd.underlying5
  a5 := Tryd.isAgg5
  z5 := Tryd.sizeOf5
  v5 := Tryd.zeroValue5
  t9 := Tryd.underlying9
  a9 := Tryd.isAgg9
  z9 := Tryd.sizeOf9
  v9 := Tryd.zeroValue9
  t21 := Tryd.underlying21
  a21 := Tryd.isAgg21
  z21 := Tryd.sizeOf21
  v21 := Tryd.zeroValue21
  t46 := Tryd.underlying110
  a46 := Tryd.isAgg110
  z46 := Tryd.sizeOf110
  v46 := Tryd.zeroValue110
  t105 := Tryd.underlying105
  a105 := Tryd.isAgg105
  z105 := Tryd.sizeOf105
  v105 := Tryd.zeroValue105
  t116 := Tryd.underlying90
  a116 := Tryd.isAgg90
  z116 := Tryd.sizeOf90
  t117 := Tryd.underlying91
  a117 := Tryd.isAgg91
  z117 := Tryd.sizeOf91
  v117 := Tryd.zeroValue91
  t119 := Tryd.underlying124
  a119 := Tryd.isAgg124
  z119 := Tryd.sizeOf124
  t124 := Tryd.underlying94
  a124 := Tryd.isAgg94
  z124 := Tryd.sizeOf94
  v124 := Tryd.zeroValue94
  t138 := Tryd.underlying126
  a138 := Tryd.isAgg126
  z138 := Tryd.sizeOf126
  v138 := Tryd.zeroValue126
  t139 := Tryd.underlying127
  a139 := Tryd.isAgg127
  z139 := Tryd.sizeOf127
  v139 := Tryd.zeroValue127
  g3 := by kernel_rfl
  g4 := by kernel_rfl }
theorem sg_set (b : UInt8) : ([61, 62, 60, 94, 126] : List UInt8).contains b = sg b := by
  unfold sg
  rw [Bool.eq_iff_iff]
  simp [or_assoc]
theorem trim_any (l : List UInt8) (w : World) :
    Calls Tryd.prog 51 #[.string (str l), .string ⟨#[61, 62, 60, 94, 126]⟩] w fun e w' => e = .returned (.string (str (l.dropWhile sg))) ∧ Below w.heap.size w w' := by
  refine (Any.strings_TrimLeft_laid laysT (by kernel_rfl) (str l) ⟨#[61, 62, 60, 94, 126]⟩ w (by decide) (ascii_of_all (by decide))).mono ?_
  rintro e w' ⟨rfl, hb⟩
  refine ⟨?_, hb⟩
  have h : trimLeftS (str l).data.toList (⟨#[61, 62, 60, 94, 126]⟩ : ByteArray).data.toList = l.dropWhile sg := by
    unfold trimLeftS
    have e : (fun x => ([61, 62, 60, 94, 126] : List UInt8).contains x) = sg := funext sg_set
    show List.dropWhile (fun x => ([61, 62, 60, 94, 126] : List UInt8).contains x) l = _
    rw [e]
  rw [h]
  rfl
end Go.Proofs.YtcgcgjcjgpcfiaaDoor.Rule
