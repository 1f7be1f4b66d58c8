/-
  Some texts of this claim, one behind the other: VerLay, VerPlace, VerRead, VerAwake. What each proves, and its condition, stands at its head.
-/
import Derived.Test.YtdmejcfnolhplaaGreatDoorZC3
import Derived.Test.YtdmejcfnolhplaaGreatDoorZC8
import Derived.Shelf.Strconv.Itoa3
import Derived.Lib.LaidTab
import Derived.LoopTactic
import Derived.LoopN
import Derived.Laws.ResultCell
import Derived.ChangeKeysEq
/-
  The library's own Itoa, laid at this program: a number's decimal digits; and the tables that the program and the library read, as they go on reading. Condition: the tables hold what the texts lay in them.
-/
namespace Go.Proofs.YtdmejcfnolhplaaGreatDoor.Ver
open Go.RowKit Go.Lib Go.Shelf
set_option linter.unusedVariables false
theorem tab_below {P : Program} {w w' : World} {name : String} {k : IntKind} {zs : List Int} (h : Lib.TabIs P w name k zs) (hb : Below w.heap.size w w') : Lib.TabIs P w' name k zs := by
  unfold TabIs World.var? at *
  cases hg : P.globalNamed name with
  | none => simp [hg] at h
  | some g =>
    simp only [hg, Option.bind_some] at h ⊢
    have hlt : g < w.heap.size := by
      rcases Nat.lt_or_ge g w.heap.size with h' | h'
      · exact h'
      · rw [Array.getElem?_eq_none h'] at h; simp at h
    rw [hb.block g hlt]
    exact h
def Units (w : World) : Prop := Lib.TabIs Tryz.prog w "comprador/ver.units" .i64 [1000000, 1000, 1]
theorem Units.below {w w' : World} (h : Units w) (hb : Below w.heap.size w w') : Units w' := tab_below h hb
theorem Units.cells {w : World} (h : Units w) : 0 < w.heap.size ∧ w.cell? ⟨0, 0, none⟩ = some (.int .i64 1000000) ∧ w.cell? ⟨0, 1, none⟩ = some (.int .i64 1000) ∧ w.cell? ⟨0, 2, none⟩ = some (.int .i64 1) := by
  have hg : Tryz.prog.globalNamed "comprador/ver.units" = some 0 := by kernel_rfl
  have h' : Lib.TabIs Tryz.prog w "comprador/ver.units" .i64 [1000000, 1000, 1] := h
  have h0 := h'.cell hg 0 (by decide)
  exact ⟨World.block_lt_of_cell? w _ h0, h0, h'.cell hg 1 (by decide), h'.cell hg 2 (by decide)⟩
end Go.Proofs.YtdmejcfnolhplaaGreatDoor.Ver
/-
  The contracts of the program's and the document's own fit, Parts and Place. Condition: the program's table holds what its text lays in it.
-/
namespace Go.Proofs.YtdmejcfnolhplaaGreatDoor.Ver
open Go.RowKit Go.Lib
set_option linter.unusedVariables false
theorem fit_yes (p : Int) (w : World) (h0 : 0 ≤ p) (h1 : p < 1000000000) :
    Calls Tryz.prog 120 #[.int .i64 p] w fun e w' => e = .returned (.bool true) ∧ w = w' := by
  go_enter Tryz.func120, Tryz.ntmps120
  go_wp2
  go_ret
  exact ⟨rfl, rfl⟩
theorem fit_no (p : Int) (w : World) (h : ¬ (0 ≤ p ∧ p < 1000000000)) :
    Calls Tryz.prog 120 #[.int .i64 p] w fun e w' => e = .returned (.bool false) ∧ w = w' := by
  by_cases h0 : 0 ≤ p
  · have h1 : ¬ p < 1000000000 := fun h1 => h ⟨h0, h1⟩
    clear h
    go_enter Tryz.func120, Tryz.ntmps120
    go_wp2
    go_ret
    exact ⟨rfl, rfl⟩
  · clear h
    go_enter Tryz.func120, Tryz.ntmps120
    go_wp2
    go_ret
    exact ⟨rfl, rfl⟩
theorem info_three : (Tryz.prog.info? 156).map (·.size) = some 3 := by kernel_rfl
theorem results_row_tmp {P : Program} {fn : Func} {p u : Tmp} {ty : TypeId} (h : fn.results = #[.cell p ty, .tmp u]) (tmps : Array Value) (w : World) (g : Nat) (t : TypeId) (cs : Array Value) (fr : Nat × Nat) (d : TypeDesc) (v : Value)
    (hp : tmps.getD p undef = .pointer (some ⟨g, 0, none⟩)) (hv : tmps.getD u undef = v) (hg : w.heap[g]? = some (.cells cs t fr))
    (hu : P.underlying ty = some d) (hd : (match d with | .struct _ | .array _ _ => true | _ => false) = true) (hi : (P.info? ty).map (·.size) = some cs.size) :
    (results fn tmps).run P w = .ok (.tuple #[.agg cs, v]) w := by
  rw [results_cell_tmp h]
  simp only [hp, hv, asAddr, Sem.run_pure, Result.andThen_ok, run_loadVar_row w g t ty cs fr d hg hu hd hi]
theorem parts_no (p : Int) (w : World) (h : ¬ (0 ≤ p ∧ p < 1000000000)) :
    Calls Tryz.prog 92 #[.int .i64 p] w fun e w' => e = .returned (.tuple #[.agg (three 0 0 0), .bool false]) ∧ Below w.heap.size w w' := by
  have H := hide (fun wx => fit_no p wx h)
  clear h
  go_enter Tryz.func92, Tryz.ntmps92
  go_wp2_with (first
    | (go_at_call 120
       refine (H.out _).mono ?_
       rintro e w1 ⟨rfl, rfl⟩))
  try simp only [Exit.inBlock, Exit.then]
  have hz : ((w.alloc (.cells (three 0 0 0) 156)).alloc (.cells (three 0 0 0) 156)).heap[w.heap.size]? = some (.cells (three 0 0 0) 156 (0, 0)) := (Blk.new w 156 (three 0 0 0)).alloc _
  refine bodyPost_ret (results_row_tmp rfl _ _ w.heap.size 156 (three 0 0 0) (0, 0) _ (.bool false) rfl rfl hz Tryz.underlying156 rfl info_three) rfl ?_
  exact ⟨rfl, ((Below.refl _ _).alloc (Nat.le_refl _) _).alloc (by simp) _⟩
theorem idx0 (x y z : Int) (w : World) : (Instr.index 156 (.agg #[.int .i64 x, .int .i64 y, .int .i64 z]) (.int .i64 0)).run Tryz.prog w = .ok (.int .i64 x) w := by kernel_rfl
theorem idx1 (x y z : Int) (w : World) : (Instr.index 156 (.agg #[.int .i64 x, .int .i64 y, .int .i64 z]) (.int .i64 1)).run Tryz.prog w = .ok (.int .i64 y) w := by kernel_rfl
theorem idx2 (x y z : Int) (w : World) : (Instr.index 156 (.agg #[.int .i64 x, .int .i64 y, .int .i64 z]) (.int .i64 2)).run Tryz.prog w = .ok (.int .i64 z) w := by kernel_rfl
theorem parts_u (p : Nat) (w : World) (h : p < 1000000000) (hT : Units w) :
    Calls Tryz.prog 92 #[.int .i64 (p : Int)] w fun e w' => e = .returned (.tuple #[.agg (partsOf p), .bool true]) ∧ Below w.heap.size w w' := by
  have H := hide (fun wx => fit_yes p wx (by omega) (by omega))
  obtain ⟨hg, h0, h1, h2⟩ := hT.cells
  have k0 : ∀ o o', ((w.alloc o).alloc o').cell? ⟨0, 0, none⟩ = some (.int .i64 1000000) := fun o o' => (World.cell?_alloc_lt _ _ _ (by simp <;> omega)).trans ((World.cell?_alloc_lt _ _ _ hg).trans h0)
  have k1 : ∀ o o', ((w.alloc o).alloc o').cell? ⟨0, 1, none⟩ = some (.int .i64 1000) := fun o o' => (World.cell?_alloc_lt _ _ _ (by simp <;> omega)).trans ((World.cell?_alloc_lt _ _ _ hg).trans h1)
  have k2 : ∀ o o', ((w.alloc o).alloc o').cell? ⟨0, 2, none⟩ = some (.int .i64 1) := fun o o' => (World.cell?_alloc_lt _ _ _ (by simp <;> omega)).trans ((World.cell?_alloc_lt _ _ _ hg).trans h2)
  have i0 := idx0 1000000 1000 1
  have i1 := idx1 1000000 1000 1
  have i2 := idx2 1000000 1000 1
  go_enter Tryz.func92, Tryz.ntmps92
  go_wp2_with (first
    | (go_at_call 120
       refine (H.out _).mono ?_
       rintro e w1 ⟨rfl, rfl⟩))
  refine wp_loop_rounds 4 ?_
  rw [rounds_succ]; go_wp2
  rw [rounds_succ]; go_wp2
  rw [rounds_succ]; go_wp2
  rw [rounds_succ]; go_wp2
  try simp only [Exit.inBlock, Exit.then]
  have e : #[Value.int IntKind.i64 ((p : Int) / 1000000 % 1000), Value.int IntKind.i64 ((p : Int) / 1000 % 1000), Value.int IntKind.i64 ((p : Int) % 1000)] = partsOf p := rfl
  rw [e]
  have hz : ((w.alloc (.cells (partsOf p) 156)).alloc (.cells (partsOf p) 156)).heap[w.heap.size]? = some (.cells (partsOf p) 156 (0, 0)) := (Blk.new w 156 (partsOf p)).alloc _
  refine bodyPost_ret (results_row_tmp rfl _ _ w.heap.size 156 (partsOf p) (0, 0) _ (.bool true) rfl rfl hz Tryz.underlying156 rfl info_three) rfl ?_
  exact ⟨rfl, ((Below.refl _ _).alloc (Nat.le_refl _) _).alloc (by simp) _⟩
end Go.Proofs.YtdmejcfnolhplaaGreatDoor.Ver
/-
  The contracts of the program's and the document's own Read. Condition: the tables hold what the texts lay in them; the text is no longer than a text may be.
-/
namespace Go.Proofs.YtdmejcfnolhplaaGreatDoor.Ver
open Go.RowKit Go.Lib Go.Proofs.YtdmejcfnolhplaaGreatDoor.Label
set_option linter.unusedVariables false
def fin (s : ByteArray) : Option St → Option Nat
  | none => none
  | some t => if Fits t.x t.y t.z ∧ str (txt (placeN t.x t.y t.z)) = s then some (placeN t.x t.y t.z) else none
end Go.Proofs.YtdmejcfnolhplaaGreatDoor.Ver
/-
  The contracts of ver's faces in one form each, and the statements' own examples: they hold. Condition: the tables hold what the texts lay in them.
-/
namespace Go.Proofs.YtdmejcfnolhplaaGreatDoor.Ver
open Go.RowKit Go.Lib Go.Proofs.YtdmejcfnolhplaaGreatDoor.Label
set_option linter.unusedVariables false
def isFit (p : Int) : Bool := decide (0 ≤ p ∧ p < 1000000000)
def pzA (p : Int) : Int := if 0 ≤ p ∧ p < 1000000000 then (pA p.toNat : Nat) else 0
def pzB (p : Int) : Int := if 0 ≤ p ∧ p < 1000000000 then (pB p.toNat : Nat) else 0
def pzC (p : Int) : Int := if 0 ≤ p ∧ p < 1000000000 then (pC p.toNat : Nat) else 0
theorem parts_zu (p : Int) (w : World) (hT : Units w) :
    Calls Tryz.prog 92 #[.int .i64 p] w fun e w' => e = .returned (.tuple #[.agg #[.int .i64 (pzA p), .int .i64 (pzB p), .int .i64 (pzC p)], .bool (isFit p)]) ∧ Below w.heap.size w w' := by
  unfold pzA pzB pzC isFit
  by_cases h : 0 ≤ p ∧ p < 1000000000
  · rw [if_pos h, if_pos h, if_pos h, decide_eq_true h]
    obtain ⟨n, rfl⟩ : ∃ n : Nat, p = (n : Int) := ⟨p.toNat, by omega⟩
    rw [Int.toNat_natCast]
    exact parts_u n w (by omega) hT
  · rw [if_neg h, if_neg h, if_neg h, decide_eq_false h]; exact parts_no p w h
end Go.Proofs.YtdmejcfnolhplaaGreatDoor.Ver
