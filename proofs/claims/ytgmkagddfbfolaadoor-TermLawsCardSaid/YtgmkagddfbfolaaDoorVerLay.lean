/-
  The library's own Itoa, laid at this program: a number's decimal digits; and the tables that the program and the library read, as they go on reading. Condition: the tables hold what the texts lay in them.
-/
import Derived.Test.YtgmkagddfbfolaaDoorVerMath
import Derived.Test.YtgmkagddfbfolaaDoorGrowWords
import Derived.Shelf.Strconv.Itoa3
import Derived.Lib.LaidTab
namespace Go.Proofs.YtgmkagddfbfolaaDoor.Ver
open Go.RowKit Go.Lib Go.Shelf
set_option linter.unusedVariables false
def renI : Ren := ⟨fun | 129 => 97 | 171 => 84 | 243 => 88 | 246 => 91 | 283 => 92 | 284 => 93 | 285 => 94 | 286 => 95 | 317 => 96 | 318 => 98 | 319 => 99 | 320 => 100 | 337 => 101 | 338 => 102 | n => n, fun | 0 => 0 | 2 => 2 | 3 => 3 | 4 => 4 | 5 => 5 | 9 => 9 | 20 => 20 | 37 => 69 | 46 => 97 | 51 => 95 | 53 => 88 | 171 => 87 | 173 => 91 | 212 => 94 | 213 => 96 | 232 => 100 | 233 => 101 | n => n, fun | 17 => 2 | 18 => 3 | 19 => 4 | n => n⟩
theorem laysI : LaysM.n171 Tryd.prog renI := {
  mixed := by kernel_rfl
  f129 := Tryd.func97.trans (congrArg some (by kernel_rfl))
  f171 := Tryd.func84.trans (congrArg some (by kernel_rfl))
  f243 := Tryd.func88.trans (congrArg some (by kernel_rfl))
  f246 := Tryd.func91.trans (congrArg some (by kernel_rfl))
  f283 := Tryd.func92.trans (congrArg some (by kernel_rfl))
  f284 := Tryd.func93.trans (congrArg some (by kernel_rfl))
  f285 := Tryd.func94.trans (congrArg some (by kernel_rfl))
  f286 := Tryd.func95.trans (congrArg some (by kernel_rfl))
  f317 := Tryd.func96.trans (congrArg some (by kernel_rfl))
  f318 := Tryd.func98.trans (congrArg some (by kernel_rfl))
  f319 := Tryd.func99.trans (congrArg some (by kernel_rfl))
  f320 := Tryd.func100.trans (congrArg some (by kernel_rfl))
  f337 := Tryd.func101.trans (congrArg some (by kernel_rfl))
  f338 := Tryd.func102.trans (congrArg some (by kernel_rfl))
  t0 := Tryd.underlying0
  a0 := Tryd.isAgg0
  z0 := Tryd.sizeOf0
  v0 := Tryd.zeroValue0
  t2 := Tryd.underlying2
  a2 := Tryd.isAgg2
  z2 := Tryd.sizeOf2
  v2 := Tryd.zeroValue2
  t3 := Tryd.underlying3
  a3 := Tryd.isAgg3
  z3 := Tryd.sizeOf3
  v3 := Tryd.zeroValue3
  t4 := Tryd.underlying4
  a4 := Tryd.isAgg4
  z4 := Tryd.sizeOf4
  v4 := Tryd.zeroValue4
  t5 := Tryd.underlying5
  a5 := Tryd.isAgg5
  z5 := Tryd.sizeOf5
  v5 := Tryd.zeroValue5
  t9 := Tryd.underlying9
  a9 := Tryd.isAgg9
  z9 := Tryd.sizeOf9
  v9 := Tryd.zeroValue9
  t20 := Tryd.underlying20
  a20 := Tryd.isAgg20
  z20 := Tryd.sizeOf20
  v20 := Tryd.zeroValue20
  t37 := Tryd.underlying69
  a37 := Tryd.isAgg69
  z37 := Tryd.sizeOf69
  v37 := Tryd.zeroValue69
  t46 := Tryd.underlying97
  a46 := Tryd.isAgg97
  z46 := Tryd.sizeOf97
  v46 := Tryd.zeroValue97
  t51 := Tryd.underlying95
  a51 := Tryd.isAgg95
  z51 := Tryd.sizeOf95
  v51 := Tryd.zeroValue95
  t53 := Tryd.underlying88
  a53 := Tryd.isAgg88
  z53 := Tryd.sizeOf88
  v53 := Tryd.zeroValue88
  t171 := Tryd.underlying87
  a171 := Tryd.isAgg87
  z171 := Tryd.sizeOf87
  v171 := Tryd.zeroValue87
  t173 := Tryd.underlying91
  a173 := Tryd.isAgg91
  z173 := Tryd.sizeOf91
  v173 := Tryd.zeroValue91
  t212 := Tryd.underlying94
  a212 := Tryd.isAgg94
  z212 := Tryd.sizeOf94
  v212 := Tryd.zeroValue94
  t213 := Tryd.underlying96
  a213 := Tryd.isAgg96
  z213 := Tryd.sizeOf96
  t232 := Tryd.underlying100
  a232 := Tryd.isAgg100
  z232 := Tryd.sizeOf100
  v232 := Tryd.zeroValue100
  t233 := Tryd.underlying101
  a233 := Tryd.isAgg101
  z233 := Tryd.sizeOf101
  v233 := Tryd.zeroValue101
  g17 := by kernel_rfl
  g18 := by kernel_rfl
  g19 := by kernel_rfl
  i0 := by kernel_rfl
  i2 := by kernel_rfl
  i3 := by kernel_rfl
  i4 := by kernel_rfl
  i5 := by kernel_rfl
  i9 := by kernel_rfl
  i20 := by kernel_rfl
  i37 := by kernel_rfl
  i46 := by kernel_rfl
  i51 := by kernel_rfl
  i53 := by kernel_rfl
  i171 := by kernel_rfl
  i173 := by kernel_rfl
  i212 := by kernel_rfl
  i232 := by kernel_rfl
  i233 := by kernel_rfl
  m17 := by kernel_rfl
  m18 := by kernel_rfl
  m19 := by kernel_rfl }
/-- What the two tables that are read hold. -/
def Tabs (w : World) : Prop := Lib.TabIs Tryd.prog w "internal/strconv.uint64pow10" .u64 Lib.pow10Tab ∧ Lib.TabIs Tryd.prog w "comprador/ver.units" .i64 [1000000, 1000, 1]
theorem tab_below {P : Program} {w w' : World} {name : String} {k : IntKind} {zs : List Int} (h : Lib.TabIs P w name k zs) (hb : Below w.heap.size w w') : Lib.TabIs P w' name k zs := by
  unfold TabIs World.var? at *
  cases hg : P.globalNamed name with
  | none => simp [hg] at h
  | some g =>
    simp only [hg, Option.bind_some] at h ⊢
    have hlt : g < w.heap.size := by
      rcases Nat.lt_or_ge g w.heap.size with h' | h'
      · exact h'
      · rw [Array.getElem?_eq_none h'] at h; simp at h
    rw [hb.block g hlt]
    exact h
theorem Tabs.below {w w' : World} (h : Tabs w) (hb : Below w.heap.size w w') : Tabs w' := ⟨tab_below h.1 hb, tab_below h.2 hb⟩
/-- What the program's own table holds: all that Parts, Place and Check ask. -/
def Units (w : World) : Prop := Lib.TabIs Tryd.prog w "comprador/ver.units" .i64 [1000000, 1000, 1]
theorem Units.below {w w' : World} (h : Units w) (hb : Below w.heap.size w w') : Units w' := tab_below h hb
/-- What is read of the units. -/
theorem Units.cells {w : World} (h : Units w) : 0 < w.heap.size ∧ w.cell? ⟨0, 0, none⟩ = some (.int .i64 1000000) ∧ w.cell? ⟨0, 1, none⟩ = some (.int .i64 1000) ∧ w.cell? ⟨0, 2, none⟩ = some (.int .i64 1) := by
  have hg : Tryd.prog.globalNamed "comprador/ver.units" = some 0 := by kernel_rfl
  have h' : Lib.TabIs Tryd.prog w "comprador/ver.units" .i64 [1000000, 1000, 1] := h
  have h0 := h'.cell hg 0 (by decide)
  exact ⟨World.block_lt_of_cell? w _ h0, h0, h'.cell hg 1 (by decide), h'.cell hg 2 (by decide)⟩
theorem Tabs.units {w : World} (h : Tabs w) : 0 < w.heap.size ∧ w.cell? ⟨0, 0, none⟩ = some (.int .i64 1000000) ∧ w.cell? ⟨0, 1, none⟩ = some (.int .i64 1000) ∧ w.cell? ⟨0, 2, none⟩ = some (.int .i64 1) := Units.cells h.2
theorem below_grow (w : World) (k : Nat) (os : Array Obj) : Below w.heap.size w (Sort.grow (w.drewN k) os) :=
  ⟨rfl, rfl, rfl, by show w.heap.size ≤ (w.heap ++ os).size; rw [Array.size_append]; omega, fun j hj => by
    show (w.heap ++ os)[j]? = w.heap[j]?
    rw [Array.getElem?_append_left hj]⟩
theorem itoa_any (n : Nat) (w : World) (hn : n < 1000) (hT : Tabs w) :
    Calls Tryd.prog 84 #[.int .i64 (n : Int)] w fun e w' => e = .returned (.string (str (decDigits n))) ∧ Below w.heap.size w w' :=
  (Any.strconv_Itoa laysI (n : Int) (by omega) (by omega) w hT.1).mono fun e w' ⟨he, k, os, hw⟩ => by
    subst hw
    have e0 : Lib.itoa (n : Int) = decDigits n := by unfold Lib.itoa; rw [if_neg (by omega), Int.toNat_natCast]
    rw [e0] at he
    exact ⟨he, below_grow w k os⟩
end Go.Proofs.YtgmkagddfbfolaaDoor.Ver
