/-
  The contracts of the program's and the document's own fit, Parts and Place. Condition: the program's table holds what its text lays in it.
-/
import Derived.Test.YtnkcjemobljpdaaDoorVerLay
import Derived.LoopTactic
import Derived.LoopN
import Derived.Laws.ResultCell
import Derived.ChangeKeysEq
namespace Go.Proofs.YtnkcjemobljpdaaDoor.Ver
open Go.RowKit Go.Lib
set_option linter.unusedVariables false
theorem fit_yes (p : Int) (w : World) (h0 : 0 ≤ p) (h1 : p < 1000000000) :
    Calls Tryd.prog 32 #[.int .i64 p] w fun e w' => e = .returned (.bool true) ∧ w = w' := by
  go_enter Tryd.func32, Tryd.ntmps32
  go_wp2
  go_ret
  exact ⟨rfl, rfl⟩
theorem fit_no (p : Int) (w : World) (h : ¬ (0 ≤ p ∧ p < 1000000000)) :
    Calls Tryd.prog 32 #[.int .i64 p] w fun e w' => e = .returned (.bool false) ∧ w = w' := by
  by_cases h0 : 0 ≤ p
  · have h1 : ¬ p < 1000000000 := fun h1 => h ⟨h0, h1⟩
    clear h
    go_enter Tryd.func32, Tryd.ntmps32
    go_wp2
    go_ret
    exact ⟨rfl, rfl⟩
  · clear h
    go_enter Tryd.func32, Tryd.ntmps32
    go_wp2
    go_ret
    exact ⟨rfl, rfl⟩
theorem refFit_yes (p : Int) (w : World) (h0 : 0 ≤ p) (h1 : p < 1000000000) :
    Calls Tryd.prog 16 #[.int .i64 p] w fun e w' => e = .returned (.bool true) ∧ w = w' := by
  go_enter Tryd.func16, Tryd.ntmps16
  go_wp2
  go_ret
  exact ⟨rfl, rfl⟩
theorem refFit_no (p : Int) (w : World) (h : ¬ (0 ≤ p ∧ p < 1000000000)) :
    Calls Tryd.prog 16 #[.int .i64 p] w fun e w' => e = .returned (.bool false) ∧ w = w' := by
  by_cases h0 : 0 ≤ p
  · have h1 : ¬ p < 1000000000 := fun h1 => h ⟨h0, h1⟩
    clear h
    go_enter Tryd.func16, Tryd.ntmps16
    go_wp2
    go_ret
    exact ⟨rfl, rfl⟩
  · clear h
    go_enter Tryd.func16, Tryd.ntmps16
    go_wp2
    go_ret
    exact ⟨rfl, rfl⟩
theorem info_three : (Tryd.prog.info? 39).map (·.size) = some 3 := by kernel_rfl
/-- Two results, the first of them an array in a block of the call's own. -/
theorem results_row_tmp {P : Program} {fn : Func} {p u : Tmp} {ty : TypeId} (h : fn.results = #[.cell p ty, .tmp u]) (tmps : Array Value) (w : World) (g : Nat) (t : TypeId) (cs : Array Value) (fr : Nat × Nat) (d : TypeDesc) (v : Value)
    (hp : tmps.getD p undef = .pointer (some ⟨g, 0, none⟩)) (hv : tmps.getD u undef = v) (hg : w.heap[g]? = some (.cells cs t fr))
    (hu : P.underlying ty = some d) (hd : (match d with | .struct _ | .array _ _ => true | _ => false) = true) (hi : (P.info? ty).map (·.size) = some cs.size) :
    (results fn tmps).run P w = .ok (.tuple #[.agg cs, v]) w := by
  rw [results_cell_tmp h]
  simp only [hp, hv, asAddr, Sem.run_pure, Result.andThen_ok, run_loadVar_row w g t ty cs fr d hg hu hd hi]
theorem parts_no (p : Int) (w : World) (h : ¬ (0 ≤ p ∧ p < 1000000000)) :
    Calls Tryd.prog 21 #[.int .i64 p] w fun e w' => e = .returned (.tuple #[.agg (three 0 0 0), .bool false]) ∧ Below w.heap.size w w' := by
  have H := hide (fun wx => fit_no p wx h)
  clear h
  go_enter Tryd.func21, Tryd.ntmps21
  go_wp2_with (first
    | (go_at_call 32
       refine (H.out _).mono ?_
       rintro e w1 ⟨rfl, rfl⟩))
  try simp only [Exit.inBlock, Exit.then]
  have hz : ((w.alloc (.cells (three 0 0 0) 39)).alloc (.cells (three 0 0 0) 39)).heap[w.heap.size]? = some (.cells (three 0 0 0) 39 (0, 0)) := (Blk.new w 39 (three 0 0 0)).alloc _
  refine bodyPost_ret (results_row_tmp rfl _ _ w.heap.size 39 (three 0 0 0) (0, 0) _ (.bool false) rfl rfl hz Tryd.underlying39 rfl info_three) rfl ?_
  exact ⟨rfl, ((Below.refl _ _).alloc (Nat.le_refl _) _).alloc (by simp) _⟩
theorem idx0 (x y z : Int) (w : World) : (Instr.index 39 (.agg #[.int .i64 x, .int .i64 y, .int .i64 z]) (.int .i64 0)).run Tryd.prog w = .ok (.int .i64 x) w := by kernel_rfl
theorem idx1 (x y z : Int) (w : World) : (Instr.index 39 (.agg #[.int .i64 x, .int .i64 y, .int .i64 z]) (.int .i64 1)).run Tryd.prog w = .ok (.int .i64 y) w := by kernel_rfl
theorem idx2 (x y z : Int) (w : World) : (Instr.index 39 (.agg #[.int .i64 x, .int .i64 y, .int .i64 z]) (.int .i64 2)).run Tryd.prog w = .ok (.int .i64 z) w := by kernel_rfl
theorem parts_yes (p : Nat) (w : World) (h : p < 1000000000) (hT : Tabs w) :
    Calls Tryd.prog 21 #[.int .i64 (p : Int)] w fun e w' => e = .returned (.tuple #[.agg (partsOf p), .bool true]) ∧ Below w.heap.size w w' := by
  have H := hide (fun wx => fit_yes p wx (by omega) (by omega))
  obtain ⟨hg, h0, h1, h2⟩ := hT.units
  have k0 : ∀ o o', ((w.alloc o).alloc o').cell? ⟨0, 0, none⟩ = some (.int .i64 1000000) := fun o o' => (World.cell?_alloc_lt _ _ _ (by simp <;> omega)).trans ((World.cell?_alloc_lt _ _ _ hg).trans h0)
  have k1 : ∀ o o', ((w.alloc o).alloc o').cell? ⟨0, 1, none⟩ = some (.int .i64 1000) := fun o o' => (World.cell?_alloc_lt _ _ _ (by simp <;> omega)).trans ((World.cell?_alloc_lt _ _ _ hg).trans h1)
  have k2 : ∀ o o', ((w.alloc o).alloc o').cell? ⟨0, 2, none⟩ = some (.int .i64 1) := fun o o' => (World.cell?_alloc_lt _ _ _ (by simp <;> omega)).trans ((World.cell?_alloc_lt _ _ _ hg).trans h2)
  have i0 := idx0 1000000 1000 1
  have i1 := idx1 1000000 1000 1
  have i2 := idx2 1000000 1000 1
  go_enter Tryd.func21, Tryd.ntmps21
  go_wp2_with (first
    | (go_at_call 32
       refine (H.out _).mono ?_
       rintro e w1 ⟨rfl, rfl⟩))
  refine wp_loop_rounds 4 ?_
  rw [rounds_succ]; go_wp2
  rw [rounds_succ]; go_wp2
  rw [rounds_succ]; go_wp2
  rw [rounds_succ]; go_wp2
  try simp only [Exit.inBlock, Exit.then]
  have e : #[Value.int IntKind.i64 ((p : Int) / 1000000 % 1000), Value.int IntKind.i64 ((p : Int) / 1000 % 1000), Value.int IntKind.i64 ((p : Int) % 1000)] = partsOf p := rfl
  rw [e]
  have hz : ((w.alloc (.cells (partsOf p) 39)).alloc (.cells (partsOf p) 39)).heap[w.heap.size]? = some (.cells (partsOf p) 39 (0, 0)) := (Blk.new w 39 (partsOf p)).alloc _
  refine bodyPost_ret (results_row_tmp rfl _ _ w.heap.size 39 (partsOf p) (0, 0) _ (.bool true) rfl rfl hz Tryd.underlying39 rfl info_three) rfl ?_
  exact ⟨rfl, ((Below.refl _ _).alloc (Nat.le_refl _) _).alloc (by simp) _⟩
theorem end_p {a b : Int} {v : Value} (h : a = b) : Ending.returned (.tuple #[.int .i64 a, v]) = .returned (.tuple #[.int .i64 b, v]) := by rw [h]
theorem info_int3 : (Tryd.prog.info? 3).map (fun i => (i.zero, i.size, i.bytes)) = some (some (.int .i64 0), 1, 8) := by kernel_rfl
/-- Two arrays of three are one if their parts are. -/
def same3 (x y z x' y' z' : Int) : Bool := (x == x') && ((y == y') && (z == z'))
theorem eq_three (x y z x' y' z' : Int) (w : World) : (Op.equalIn 10000 39 (.agg #[.int .i64 x, .int .i64 y, .int .i64 z]) (.agg #[.int .i64 x', .int .i64 y', .int .i64 z'])).run Tryd.prog w = .ok (same3 x y z x' y' z') w := by
  obtain ⟨i0, hi0, hz0, hz1, hz2⟩ := info_parts info_int3
  have hc : Tryd.prog.cellsOf 3 = 1 := by kernel_rfl
  have ha : ∀ w, (isAgg 3).run Tryd.prog w = .ok false w := Tryd.isAgg3
  rw [run_equalIn_array w 9999 _ _ Tryd.underlying39 hi0, hc, show List.range 3 = [0, 1, 2] from rfl]
  unfold same3
  cases hx : (x == x') <;> cases hy : (y == y') <;> cases hz : (z == z') <;>
    simp [Op.eqItems, part, ha, run_equalIn_int _ 9998 3 .i64 .i64 _ _ Tryd.underlying3, hx, hy, hz]
/-- What is told of any place. -/
theorem parts_all (p : Int) (w : World) (hT : Tabs w) :
    Calls Tryd.prog 21 #[.int .i64 p] w fun e w' => ∃ a b c f, e = .returned (.tuple #[.agg #[.int .i64 a, .int .i64 b, .int .i64 c], .bool f]) ∧ (f = true → Fits a b c) ∧ Below w.heap.size w w' := by
  by_cases h : 0 ≤ p ∧ p < 1000000000
  · obtain ⟨n, rfl⟩ : ∃ n : Nat, p = (n : Int) := ⟨p.toNat, by omega⟩
    exact (parts_yes n w (by omega) hT).mono fun e w' ⟨he, hb⟩ => ⟨_, _, _, _, he, fun _ => parts_fit n, hb⟩
  · exact (parts_no p w h).mono fun e w' ⟨he, hb⟩ => ⟨_, _, _, _, he, (fun h => by cases h), hb⟩
/-- The program's own place. -/
theorem place_no (x y z : Int) (w : World) (h : ¬ Fits x y z) (hT : Tabs w) :
    Calls Tryd.prog 50 #[.agg (three x y z)] w fun e w' => e = .returned (.tuple #[.int .i64 0, .bool false]) ∧ Below w.heap.size w w' := by
  obtain ⟨hg, h0, h1, h2⟩ := hT.units
  have i0 := idx0 x y z
  have i1 := idx1 x y z
  have i2 := idx2 x y z
  have HP := hide (fun p wx (hb : Below w.heap.size w wx) => parts_all p wx (hT.below hb))
  have hb1 : Below w.heap.size w (w.alloc (Obj.cells #[Value.int IntKind.i64 x, Value.int IntKind.i64 y, Value.int IntKind.i64 z] 39)) := (Below.refl _ _).alloc (Nat.le_refl _) _
  have heq := eq_three
  have hB := Blk.new w 39 (three x y z)
  unfold three at *
  go_enter Tryd.func50, Tryd.ntmps50
  go_wp2
  refine wp_loop_rounds 4 ?_
  rw [rounds_succ]; go_wp2
  rw [rounds_succ]; go_wp2
  rw [rounds_succ]; go_wp2
  clear i0 i1 i2 h0 h1 h2
  rw [rounds_succ]; go_wp2_with (first
    | (go_at_call 21
       refine (HP.out _ _ hb1).mono ?_
       rintro e w2 ⟨a, b, c, f, rfl, hf, hb2⟩
       have hB2 := hB.below hb2 (by simp)
       have c0 := hB2.cell 0
       have c1 := hB2.cell 1
       have c2 := hB2.cell 2
       have hlt := hB2.lt
       have hs : same3 a b c x y z = true → f = true → False := fun h1 h2 => by
         obtain ⟨e1, e2, e3⟩ : a = x ∧ b = y ∧ c = z := by simpa [same3] using h1
         rw [e1, e2, e3] at hf
         exact h (hf h2)))
  all_goals first
    | exact (hs (by simpa using ‹(!same3 a b c x y z) = false›) ‹f = true›).elim
    | (go_ret2
       exact ⟨rfl, (hb1.trans (hb2.mono hb1.size)).alloc (Nat.le_trans hb1.size hb2.size) _⟩)
theorem place_yes (x y z : Int) (w : World) (h : Fits x y z) (hT : Tabs w) :
    Calls Tryd.prog 50 #[.agg (three x y z)] w fun e w' => e = .returned (.tuple #[.int .i64 (placeN x y z : Nat), .bool true]) ∧ Below w.heap.size w w' := by
  obtain ⟨hg, h0, h1, h2⟩ := hT.units
  have i0 := idx0 x y z
  have i1 := idx1 x y z
  have i2 := idx2 x y z
  have He : Hid (x * 1000000 + y * 1000 + z = (placeN x y z : Nat)) := hide (by unfold Fits at h; unfold placeN; omega)
  have HP := hide (fun wx (hb : Below w.heap.size w wx) => parts_yes (placeN x y z) wx (place_lt h) (hT.below hb))
  have hpp := place_parts h
  unfold partsOf at HP
  rw [hpp.1, hpp.2.1, hpp.2.2, ← He.out] at HP
  clear hpp
  obtain ⟨⟨x0, x1⟩, ⟨y0, y1⟩, z0, z1⟩ := h
  have hb1 : Below w.heap.size w (w.alloc (Obj.cells #[Value.int IntKind.i64 x, Value.int IntKind.i64 y, Value.int IntKind.i64 z] 39)) := (Below.refl _ _).alloc (Nat.le_refl _) _
  have heq := eq_three x y z x y z
  rw [show same3 x y z x y z = true by simp [same3]] at heq
  have hB := Blk.new w 39 (three x y z)
  unfold three at *
  go_enter Tryd.func50, Tryd.ntmps50
  go_wp2
  refine wp_loop_rounds 4 ?_
  rw [rounds_succ]; go_wp2
  rw [rounds_succ]; go_wp2
  rw [rounds_succ]; go_wp2
  clear i0 i1 i2 h0 h1 h2
  rw [rounds_succ]; go_wp2_with (first
    | (go_at_call 21
       refine (HP.out _ hb1).mono ?_
       rintro e w2 ⟨rfl, hb2⟩
       have hB2 := hB.below hb2 (by simp)
       have c0 := hB2.cell 0
       have c1 := hB2.cell 1
       have c2 := hB2.cell 2
       have hlt := hB2.lt))
  go_ret2
  exact ⟨end_p He.out, (hb1.trans (hb2.mono hb1.size)).alloc (Nat.le_trans hb1.size hb2.size) _⟩
end Go.Proofs.YtnkcjemobljpdaaDoor.Ver
