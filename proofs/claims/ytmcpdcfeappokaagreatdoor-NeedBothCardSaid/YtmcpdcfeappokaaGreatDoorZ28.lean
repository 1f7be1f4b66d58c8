/-
  Some texts of this claim, one behind the other: VerPlace, VerAfter, VerText, VerRead. What each proves, and its condition, stands at its head.
-/
import Derived.Test.YtmcpdcfeappokaaGreatDoorZ27
import Derived.LoopTactic
import Derived.LoopN
import Derived.Laws.ResultCell
import Derived.ChangeKeysEq
import Derived.Test.YtmcpdcfeappokaaGreatDoorZ9
/-
  The contracts of the program's and the document's own fit, Parts and Place. Condition: the program's table holds what its text lays in it.
-/
namespace Go.Proofs.YtmcpdcfeappokaaGreatDoor.Ver
open Go.RowKit Go.Lib
set_option linter.unusedVariables false
theorem fit_yes (p : Int) (w : World) (h0 : 0 ≤ p) (h1 : p < 1000000000) :
    Calls Tryz.prog 102 #[.int .i64 p] w fun e w' => e = .returned (.bool true) ∧ w = w' := by
  go_enter Tryz.func102, Tryz.ntmps102
  go_wp2
  go_ret
  exact ⟨rfl, rfl⟩
theorem fit_no (p : Int) (w : World) (h : ¬ (0 ≤ p ∧ p < 1000000000)) :
    Calls Tryz.prog 102 #[.int .i64 p] w fun e w' => e = .returned (.bool false) ∧ w = w' := by
  by_cases h0 : 0 ≤ p
  · have h1 : ¬ p < 1000000000 := fun h1 => h ⟨h0, h1⟩
    clear h
    go_enter Tryz.func102, Tryz.ntmps102
    go_wp2
    go_ret
    exact ⟨rfl, rfl⟩
  · clear h
    go_enter Tryz.func102, Tryz.ntmps102
    go_wp2
    go_ret
    exact ⟨rfl, rfl⟩
theorem info_three : (Tryz.prog.info? 115).map (·.size) = some 3 := by kernel_rfl
/-- Two results, the first of them an array in a block of the call's own. -/
theorem results_row_tmp {P : Program} {fn : Func} {p u : Tmp} {ty : TypeId} (h : fn.results = #[.cell p ty, .tmp u]) (tmps : Array Value) (w : World) (g : Nat) (t : TypeId) (cs : Array Value) (fr : Nat × Nat) (d : TypeDesc) (v : Value)
    (hp : tmps.getD p undef = .pointer (some ⟨g, 0, none⟩)) (hv : tmps.getD u undef = v) (hg : w.heap[g]? = some (.cells cs t fr))
    (hu : P.underlying ty = some d) (hd : (match d with | .struct _ | .array _ _ => true | _ => false) = true) (hi : (P.info? ty).map (·.size) = some cs.size) :
    (results fn tmps).run P w = .ok (.tuple #[.agg cs, v]) w := by
  rw [results_cell_tmp h]
  simp only [hp, hv, asAddr, Sem.run_pure, Result.andThen_ok, run_loadVar_row w g t ty cs fr d hg hu hd hi]
theorem parts_no (p : Int) (w : World) (h : ¬ (0 ≤ p ∧ p < 1000000000)) :
    Calls Tryz.prog 88 #[.int .i64 p] w fun e w' => e = .returned (.tuple #[.agg (three 0 0 0), .bool false]) ∧ Below w.heap.size w w' := by
  have H := hide (fun wx => fit_no p wx h)
  clear h
  go_enter Tryz.func88, Tryz.ntmps88
  go_wp2_with (first
    | (go_at_call 102
       refine (H.out _).mono ?_
       rintro e w1 ⟨rfl, rfl⟩))
  try simp only [Exit.inBlock, Exit.then]
  have hz : ((w.alloc (.cells (three 0 0 0) 115)).alloc (.cells (three 0 0 0) 115)).heap[w.heap.size]? = some (.cells (three 0 0 0) 115 (0, 0)) := (Blk.new w 115 (three 0 0 0)).alloc _
  refine bodyPost_ret (results_row_tmp rfl _ _ w.heap.size 115 (three 0 0 0) (0, 0) _ (.bool false) rfl rfl hz Tryz.underlying115 rfl info_three) rfl ?_
  exact ⟨rfl, ((Below.refl _ _).alloc (Nat.le_refl _) _).alloc (by simp) _⟩
theorem idx0 (x y z : Int) (w : World) : (Instr.index 115 (.agg #[.int .i64 x, .int .i64 y, .int .i64 z]) (.int .i64 0)).run Tryz.prog w = .ok (.int .i64 x) w := by kernel_rfl
theorem idx1 (x y z : Int) (w : World) : (Instr.index 115 (.agg #[.int .i64 x, .int .i64 y, .int .i64 z]) (.int .i64 1)).run Tryz.prog w = .ok (.int .i64 y) w := by kernel_rfl
theorem idx2 (x y z : Int) (w : World) : (Instr.index 115 (.agg #[.int .i64 x, .int .i64 y, .int .i64 z]) (.int .i64 2)).run Tryz.prog w = .ok (.int .i64 z) w := by kernel_rfl
theorem parts_yes (p : Nat) (w : World) (h : p < 1000000000) (hT : Tabs w) :
    Calls Tryz.prog 88 #[.int .i64 (p : Int)] w fun e w' => e = .returned (.tuple #[.agg (partsOf p), .bool true]) ∧ Below w.heap.size w w' := by
  have H := hide (fun wx => fit_yes p wx (by omega) (by omega))
  obtain ⟨hg, h0, h1, h2⟩ := hT.units
  have k0 : ∀ o o', ((w.alloc o).alloc o').cell? ⟨1, 0, none⟩ = some (.int .i64 1000000) := fun o o' => (World.cell?_alloc_lt _ _ _ (by simp; omega)).trans ((World.cell?_alloc_lt _ _ _ hg).trans h0)
  have k1 : ∀ o o', ((w.alloc o).alloc o').cell? ⟨1, 1, none⟩ = some (.int .i64 1000) := fun o o' => (World.cell?_alloc_lt _ _ _ (by simp; omega)).trans ((World.cell?_alloc_lt _ _ _ hg).trans h1)
  have k2 : ∀ o o', ((w.alloc o).alloc o').cell? ⟨1, 2, none⟩ = some (.int .i64 1) := fun o o' => (World.cell?_alloc_lt _ _ _ (by simp; omega)).trans ((World.cell?_alloc_lt _ _ _ hg).trans h2)
  have i0 := idx0 1000000 1000 1
  have i1 := idx1 1000000 1000 1
  have i2 := idx2 1000000 1000 1
  go_enter Tryz.func88, Tryz.ntmps88
  go_wp2_with (first
    | (go_at_call 102
       refine (H.out _).mono ?_
       rintro e w1 ⟨rfl, rfl⟩))
  refine wp_loop_rounds 4 ?_
  rw [rounds_succ]; go_wp2
  rw [rounds_succ]; go_wp2
  rw [rounds_succ]; go_wp2
  rw [rounds_succ]; go_wp2
  try simp only [Exit.inBlock, Exit.then]
  have e : #[Value.int IntKind.i64 ((p : Int) / 1000000 % 1000), Value.int IntKind.i64 ((p : Int) / 1000 % 1000), Value.int IntKind.i64 ((p : Int) % 1000)] = partsOf p := rfl
  rw [e]
  have hz : ((w.alloc (.cells (partsOf p) 115)).alloc (.cells (partsOf p) 115)).heap[w.heap.size]? = some (.cells (partsOf p) 115 (0, 0)) := (Blk.new w 115 (partsOf p)).alloc _
  refine bodyPost_ret (results_row_tmp rfl _ _ w.heap.size 115 (partsOf p) (0, 0) _ (.bool true) rfl rfl hz Tryz.underlying115 rfl info_three) rfl ?_
  exact ⟨rfl, ((Below.refl _ _).alloc (Nat.le_refl _) _).alloc (by simp) _⟩
theorem end_p {a b : Int} {v : Value} (h : a = b) : Ending.returned (.tuple #[.int .i64 a, v]) = .returned (.tuple #[.int .i64 b, v]) := by rw [h]
theorem info_int3 : (Tryz.prog.info? 3).map (fun i => (i.zero, i.size, i.bytes)) = some (some (.int .i64 0), 1, 8) := by kernel_rfl
/-- Two arrays of three are one if their parts are. -/
def same3 (x y z x' y' z' : Int) : Bool := (x == x') && ((y == y') && (z == z'))
theorem eq_three (x y z x' y' z' : Int) (w : World) : (Op.equalIn 10000 115 (.agg #[.int .i64 x, .int .i64 y, .int .i64 z]) (.agg #[.int .i64 x', .int .i64 y', .int .i64 z'])).run Tryz.prog w = .ok (same3 x y z x' y' z') w := by
  obtain ⟨i0, hi0, hz0, hz1, hz2⟩ := info_parts info_int3
  have hc : Tryz.prog.cellsOf 3 = 1 := by kernel_rfl
  have ha : ∀ w, (isAgg 3).run Tryz.prog w = .ok false w := Tryz.isAgg3
  rw [run_equalIn_array w 9999 _ _ Tryz.underlying115 hi0, hc, show List.range 3 = [0, 1, 2] from rfl]
  unfold same3
  cases hx : (x == x') <;> cases hy : (y == y') <;> cases hz : (z == z') <;>
    simp [Op.eqItems, part, ha, run_equalIn_int _ 9998 3 .i64 .i64 _ _ Tryz.underlying3, hx, hy, hz]
/-- What is told of any place. -/
theorem parts_all (p : Int) (w : World) (hT : Tabs w) :
    Calls Tryz.prog 88 #[.int .i64 p] w fun e w' => ∃ a b c f, e = .returned (.tuple #[.agg #[.int .i64 a, .int .i64 b, .int .i64 c], .bool f]) ∧ (f = true → Fits a b c) ∧ Below w.heap.size w w' := by
  by_cases h : 0 ≤ p ∧ p < 1000000000
  · obtain ⟨n, rfl⟩ : ∃ n : Nat, p = (n : Int) := ⟨p.toNat, by omega⟩
    exact (parts_yes n w (by omega) hT).mono fun e w' ⟨he, hb⟩ => ⟨_, _, _, _, he, fun _ => parts_fit n, hb⟩
  · exact (parts_no p w h).mono fun e w' ⟨he, hb⟩ => ⟨_, _, _, _, he, (fun h => by cases h), hb⟩
/-- The program's own place. -/
theorem place_no (x y z : Int) (w : World) (h : ¬ Fits x y z) (hT : Tabs w) :
    Calls Tryz.prog 119 #[.agg (three x y z)] w fun e w' => e = .returned (.tuple #[.int .i64 0, .bool false]) ∧ Below w.heap.size w w' := by
  obtain ⟨hg, h0, h1, h2⟩ := hT.units
  have i0 := idx0 x y z
  have i1 := idx1 x y z
  have i2 := idx2 x y z
  have HP := hide (fun p wx (hb : Below w.heap.size w wx) => parts_all p wx (hT.below hb))
  have hb1 : Below w.heap.size w (w.alloc (Obj.cells #[Value.int IntKind.i64 x, Value.int IntKind.i64 y, Value.int IntKind.i64 z] 115)) := (Below.refl _ _).alloc (Nat.le_refl _) _
  have heq := eq_three
  have hB := Blk.new w 115 (three x y z)
  unfold three at *
  go_enter Tryz.func119, Tryz.ntmps119
  go_wp2
  refine wp_loop_rounds 4 ?_
  rw [rounds_succ]; go_wp2
  rw [rounds_succ]; go_wp2
  rw [rounds_succ]; go_wp2
  clear i0 i1 i2 h0 h1 h2
  rw [rounds_succ]; go_wp2_with (first
    | (go_at_call 88
       refine (HP.out _ _ hb1).mono ?_
       rintro e w2 ⟨a, b, c, f, rfl, hf, hb2⟩
       have hB2 := hB.below hb2 (by simp)
       have c0 := hB2.cell 0
       have c1 := hB2.cell 1
       have c2 := hB2.cell 2
       have hlt := hB2.lt
       have hs : same3 a b c x y z = true → f = true → False := fun h1 h2 => by
         obtain ⟨e1, e2, e3⟩ : a = x ∧ b = y ∧ c = z := by simpa [same3] using h1
         rw [e1, e2, e3] at hf
         exact h (hf h2)))
  all_goals first
    | exact (hs (by simpa using ‹(!same3 a b c x y z) = false›) ‹f = true›).elim
    | (go_ret2
       exact ⟨rfl, (hb1.trans (hb2.mono hb1.size)).alloc (Nat.le_trans hb1.size hb2.size) _⟩)
theorem place_yes (x y z : Int) (w : World) (h : Fits x y z) (hT : Tabs w) :
    Calls Tryz.prog 119 #[.agg (three x y z)] w fun e w' => e = .returned (.tuple #[.int .i64 (placeN x y z : Nat), .bool true]) ∧ Below w.heap.size w w' := by
  obtain ⟨hg, h0, h1, h2⟩ := hT.units
  have i0 := idx0 x y z
  have i1 := idx1 x y z
  have i2 := idx2 x y z
  have He : Hid (x * 1000000 + y * 1000 + z = (placeN x y z : Nat)) := hide (by unfold Fits at h; unfold placeN; omega)
  have HP := hide (fun wx (hb : Below w.heap.size w wx) => parts_yes (placeN x y z) wx (place_lt h) (hT.below hb))
  have hpp := place_parts h
  unfold partsOf at HP
  rw [hpp.1, hpp.2.1, hpp.2.2, ← He.out] at HP
  clear hpp
  obtain ⟨⟨x0, x1⟩, ⟨y0, y1⟩, z0, z1⟩ := h
  have hb1 : Below w.heap.size w (w.alloc (Obj.cells #[Value.int IntKind.i64 x, Value.int IntKind.i64 y, Value.int IntKind.i64 z] 115)) := (Below.refl _ _).alloc (Nat.le_refl _) _
  have heq := eq_three x y z x y z
  rw [show same3 x y z x y z = true by simp [same3]] at heq
  have hB := Blk.new w 115 (three x y z)
  unfold three at *
  go_enter Tryz.func119, Tryz.ntmps119
  go_wp2
  refine wp_loop_rounds 4 ?_
  rw [rounds_succ]; go_wp2
  rw [rounds_succ]; go_wp2
  rw [rounds_succ]; go_wp2
  clear i0 i1 i2 h0 h1 h2
  rw [rounds_succ]; go_wp2_with (first
    | (go_at_call 88
       refine (HP.out _ hb1).mono ?_
       rintro e w2 ⟨rfl, hb2⟩
       have hB2 := hB.below hb2 (by simp)
       have c0 := hB2.cell 0
       have c1 := hB2.cell 1
       have c2 := hB2.cell 2
       have hlt := hB2.lt))
  go_ret2
  exact ⟨end_p He.out, (hb1.trans (hb2.mono hb1.size)).alloc (Nat.le_trans hb1.size hb2.size) _⟩
end Go.Proofs.YtmcpdcfeappokaaGreatDoor.Ver
/-
  The contracts of the program's and the document's own After, and of the document's digits and text. Condition: the program's table holds what its text lays in it.
-/
namespace Go.Proofs.YtmcpdcfeappokaaGreatDoor.Ver
open Go.RowKit Go.Lib
set_option linter.unusedVariables false
theorem end_v {k : IntKind} {a b : Int} (h : a = b) : Ending.returned (Value.int k a) = Ending.returned (.int k b) := by rw [h]
theorem after_yes (p k : Nat) (w : World) (hp : p < 1000000000) (hk : k < 3) (hT : Tabs w) :
    Calls Tryz.prog 112 #[.int .i64 (p : Int), .int .i64 (k : Int)] w fun e w' => e = .returned (.int .i64 (afterN p k : Nat)) ∧ w = w' := by
  have H := hide (fun wx => fit_yes p wx (by omega) (by omega))
  obtain ⟨hg, h0, h1, h2⟩ := hT.units
  have hc : k = 0 ∨ k = 1 ∨ k = 2 := by omega
  clear hT hk
  rcases hc with rfl | rfl | rfl
  all_goals (
    go_enter Tryz.func112, Tryz.ntmps112
    go_wp2_with (first
      | (go_at_call 102
         refine (H.out _).mono ?_
         rintro e w1 ⟨rfl, rfl⟩))
    go_ret
    exact ⟨end_v (by simp [afterN, unitN]), rfl⟩)
theorem after_no (p k : Int) (w : World) (h : ¬ ((0 ≤ p ∧ p < 1000000000) ∧ 0 ≤ k ∧ k < 3)) :
    Calls Tryz.prog 112 #[.int .i64 p, .int .i64 k] w fun e w' => e = .returned (.int .i64 0) ∧ w = w' := by
  by_cases hf : 0 ≤ p ∧ p < 1000000000
  · have H := hide (fun wx => fit_yes p wx hf.1 hf.2)
    have hk : k < 0 ∨ 3 ≤ k := by omega
    clear h
    go_enter Tryz.func112, Tryz.ntmps112
    rcases hk with hk | hk
    all_goals (
      go_wp2_with (first
        | (go_at_call 102
           refine (H.out _).mono ?_
           rintro e w1 ⟨rfl, rfl⟩))
      go_ret
      exact ⟨rfl, rfl⟩)
  · have H := hide (fun wx => fit_no p wx hf)
    clear h hf
    go_enter Tryz.func112, Tryz.ntmps112
    go_wp2_with (first
      | (go_at_call 102
         refine (H.out _).mono ?_
         rintro e w1 ⟨rfl, rfl⟩))
    go_ret
    exact ⟨rfl, rfl⟩
theorem conv1 (W : World) (z : Int) : (convert 78 9 (.slice (some ⟨W.heap.size, 0, none⟩) 1 1)).run Tryz.prog (W.alloc (.cells #[.int .u8 z] 5)) = .ok (.string (strOfNums [z])) (W.alloc (.cells #[.int .u8 z] 5)) :=
  conv_new W [z] 1
theorem strOfNums_one (z : Int) (y : Nat) (h : z = (y : Int)) : strOfNums [z] = str [UInt8.ofNat y] := by subst h; simp [strOfNums, str]
theorem one_size (z : Int) : (strOfNums [z]).size = 1 := by rw [strOfNums_size]; rfl
theorem end_s {a b : ByteArray} (h : a = b) : Ending.returned (Value.string a) = Ending.returned (.string b) := by rw [h]
end Go.Proofs.YtmcpdcfeappokaaGreatDoor.Ver
/-
  The contracts of the program's and the document's own Text. Condition: the tables hold what the texts lay in them.
-/
namespace Go.Proofs.YtmcpdcfeappokaaGreatDoor.Ver
open Go.RowKit Go.Lib Go.Proofs.YtmcpdcfeappokaaGreatDoor.Grow
set_option linter.unusedVariables false
theorem txt_str (p : Nat) : str (decDigits (pA p)) ++ str [46] ++ str (decDigits (pB p)) ++ str [46] ++ str (decDigits (pC p)) = str (txt p) := by
  rw [str_append, str_append, str_append, str_append]
  congr 1
  simp [txt]
theorem dec_size {n : Nat} (h : n < 1000) : (str (decDigits n)).size ≤ 3 := by rw [str_size]; exact (dec_len h).2
theorem text_no (p : Int) (w : World) (h : ¬ (0 ≤ p ∧ p < 1000000000)) :
    Calls Tryz.prog 75 #[.int .i64 p] w fun e w' => e = .returned (.string (str [])) ∧ Below w.heap.size w w' := by
  have H := hide (fun wx => parts_no p wx h)
  unfold three at H
  clear h
  go_enter Tryz.func75, Tryz.ntmps75
  go_wp2_with (first
    | (go_at_call 88
       refine (H.out _).mono ?_
       rintro e w1 ⟨rfl, hb1⟩))
  go_ret
  exact ⟨rfl, hb1.alloc hb1.size _⟩
theorem cell_at_reg {w : World} {a : Addr} {v : Value} (h : w.cell? a = some v) (d : Nat) (os : Array Obj) : (Sort.grow (redrawn w d) os).cell? a = some v := cell_regrown h d os
set_option maxHeartbeats 1600000 in
set_option maxRecDepth 100000 in
theorem text_yes (p : Nat) (w : World) (h : p < 1000000000) (hT : Tabs w) :
    Calls Tryz.prog 75 #[.int .i64 (p : Int)] w fun e w' => e = .returned (.string (str (txt p))) ∧ Below w.heap.size w w' := by
  have H := hide (fun wx hx => parts_yes p wx h hx)
  have HA := hide (fun wx hx => itoa_any (pA p) wx (by unfold pA; omega) hx)
  have HB := hide (fun wx hx => itoa_any (pB p) wx (by unfold pB; omega) hx)
  have HC := hide (fun wx hx => itoa_any (pC p) wx (by unfold pC; omega) hx)
  have sa := dec_size (n := pA p) (by unfold pA; omega)
  have sb := dec_size (n := pB p) (by unfold pB; omega)
  have sc := dec_size (n := pC p) (by unfold pC; omega)
  have ht := hide (txt_str p)
  have hAB : ∀ x, x = pA p → (x : Int) = (pA p : Nat) := fun _ h => by rw [h]
  unfold partsOf three at H
  generalize str (decDigits (pA p)) = A at *
  generalize str (decDigits (pB p)) = B at *
  generalize str (decDigits (pC p)) = C at *
  generalize ((pA p : Nat) : Int) = a at *
  generalize ((pB p : Nat) : Int) = b at *
  generalize ((pC p : Nat) : Int) = c at *
  clear hAB
  have HT := hide hT
  clear hT
  go_enter Tryz.func75, Tryz.ntmps75
  go_upto_region 4 with (first
    | (go_at_call 88
       refine (H.out _ HT.out).mono ?_
       rintro e w1 ⟨rfl, hb1⟩))
  have hb2 := hb1.alloc hb1.size (.cells #[.int .i64 a, .int .i64 b, .int .i64 c] 115)
  have hB := Blk.new w1 115 #[.int .i64 a, .int .i64 b, .int .i64 c]
  have hc0 := cell_at_reg (hB.cell 0)
  have hc1 := cell_at_reg (hB.cell 1)
  have hc2 := cell_at_reg (hB.cell 2)
  refine wp_region_grow [(14, isC (.string A)), (18, isC (.string B)), (23, isC (.string C))] [14, 18, 23]
    (by kernel_rfl) (by kernel_rfl) rfl (by kernel_rfl) (by kernel_rfl) ⟨isC_stable _, isC_stable _, isC_stable _, trivial⟩ ?_
  repeat (first
    | (refine lex_skip rfl ?_; simp only [Act.put, List.setIfInBounds_toArray, List.set_cons_zero, List.set_cons_succ])
    | (refine lex_quiet rfl rfl rfl (fun K hK => ?_); unfold Reg; go_big_quiet_op; refine hK _ ?_; clear hK K)
    | (refine lex_rel rfl rfl (fun w' hb hK => ?_) (fun v w' hb hv => ?_)
       · unfold grows
         go_simp
         first
           | (go_at_call 89
              exact call_isC (HA.out w' (HT.out.below (hb2.trans (hb.mono hb2.size)))))
           | (go_at_call 89
              exact call_isC (HB.out w' (HT.out.below (hb2.trans (hb.mono hb2.size)))))
           | (go_at_call 89
              exact call_isC (HC.out w' (HT.out.below (hb2.trans (hb.mono hb2.size)))))
       obtain rfl := hv
       simp only [Act.put, List.setIfInBounds_toArray, List.set_cons_zero, List.set_cons_succ]))
  refine lex_nil (fun w9 hC9 _ => ?_)
  have hb9 := reg_iff.1 hC9
  go_wp2
  go_ret
  exact ⟨end_s ht.out, hb2.trans (hb9.mono hb2.size)⟩
end Go.Proofs.YtmcpdcfeappokaaGreatDoor.Ver
/-
  The contracts of the program's and the document's own Read. Condition: the tables hold what the texts lay in them; the text is no longer than a text may be.
-/
namespace Go.Proofs.YtmcpdcfeappokaaGreatDoor.Ver
open Go.RowKit Go.Lib Go.Proofs.YtmcpdcfeappokaaGreatDoor.Label
set_option linter.unusedVariables false
theorem pos_of {w : World} {k : Nat} {s : ByteArray} {p : Nat} (h : w.heap[k]? = some (.stringIter s p)) : w.iterPos k = p := by simp [World.iterPos, h]
def fin (s : ByteArray) : Option St → Option Nat
  | none => none
  | some t => if Fits t.x t.y t.z ∧ str (txt (placeN t.x t.y t.z)) = s then some (placeN t.x t.y t.z) else none
theorem read_fin (s : ByteArray) : readR s = fin s (go (some ⟨0, 0, 0, 0⟩) (runes s 0)) := by
  unfold readR fin
  cases go (some ⟨0, 0, 0, 0⟩) (runes s 0) <;> rfl
/-- What stands in memory as the text is gone through: the three parts, and the place in the text. -/
def Goes (w0 : World) (B : Nat) (w : World) (s : ByteArray) (pos : Nat) (x y z : Int) : Prop :=
  Blk w B 115 (three x y z) ∧ w.heap[B + 1]? = some (.stringIter s pos) ∧ Below w0.heap.size w0 w
theorem Goes.iter {w0 w : World} {B : Nat} {s : ByteArray} {pos p : Nat} {x y z : Int} (h : Goes w0 B w s pos x y z) (hB : w0.heap.size ≤ B) : Goes w0 B (w.iterAt (B + 1) s p) s p x y z :=
  ⟨(iterAt_other w _ _ s p (by omega)).trans h.1, iterAt_heap _ _ _ _ _ h.2.1, below_iterAt h.2.2 (by omega) s p⟩
theorem Goes.set0 {w0 w : World} {B : Nat} {s : ByteArray} {pos : Nat} {x y z : Int} (h : Goes w0 B w s pos x y z) (hB : w0.heap.size ≤ B) (v : Int) : Goes w0 B (w.setCell ⟨B, 0, none⟩ (.int .i64 v)) s pos v y z :=
  ⟨h.1.set_ 0 _, (Below.heap_setCell w _ _ _ (by simp)).trans h.2.1, h.2.2.setCell (by simpa using hB) _⟩
theorem Goes.set1 {w0 w : World} {B : Nat} {s : ByteArray} {pos : Nat} {x y z : Int} (h : Goes w0 B w s pos x y z) (hB : w0.heap.size ≤ B) (v : Int) : Goes w0 B (w.setCell ⟨B, 1, none⟩ (.int .i64 v)) s pos x v z :=
  ⟨h.1.set_ 1 _, (Below.heap_setCell w _ _ _ (by simp)).trans h.2.1, h.2.2.setCell (by simpa using hB) _⟩
theorem Goes.set2 {w0 w : World} {B : Nat} {s : ByteArray} {pos : Nat} {x y z : Int} (h : Goes w0 B w s pos x y z) (hB : w0.heap.size ≤ B) (v : Int) : Goes w0 B (w.setCell ⟨B, 2, none⟩ (.int .i64 v)) s pos x y v :=
  ⟨h.1.set_ 2 _, (Below.heap_setCell w _ _ _ (by simp)).trans h.2.1, h.2.2.setCell (by simpa using hB) _⟩
theorem end_p2 {a b : Int} {f g : Bool} (h : a = b) (h' : f = g) : Ending.returned (.tuple #[.int .i64 a, .bool f]) = .returned (.tuple #[.int .i64 b, .bool g]) := by rw [h, h']
theorem toList_data (a : ByteArray) : a.toList = a.data.toList := (congrArg ByteArray.toList (str_of a).symm).trans (str_toList _)
theorem toList_ne {a b : ByteArray} (h : ¬ a = b) : (a.toList == b.toList) = false := by
  rw [beq_eq_false_iff_ne]
  intro e
  rw [toList_data, toList_data] at e
  exact h (by rw [← str_of a, ← str_of b, e])
set_option maxHeartbeats 4000000 in
set_option maxRecDepth 100000 in
theorem read_any (s : ByteArray) (w : World) (hs : s.size ≤ 9223372036854775807) (hT : Tabs w) :
   Calls Tryz.prog 111 #[.string s] w fun e w' => e = .returned (.tuple #[.int .i64 (optV (readR s)), .bool (readR s).isSome]) ∧ Below w.heap.size w w' := by
  rw [read_fin]
  obtain ⟨R, hR⟩ : ∃ R, R = go (some ⟨0, 0, 0, 0⟩) (runes s 0) := ⟨_, rfl⟩
  rw [← hR]
  have Hend := hide (fun (p : Nat) (h : ¬ p < s.size) => runes_end s p h)
  have Hstp := hide (fun (p : Nat) (h : p < s.size) => runes_step s p h)
  obtain ⟨B, hB⟩ : ∃ B, B = w.heap.size := ⟨_, rfl⟩
  have HT := hide hT
  clear hT
  go_enter Tryz.func111, Tryz.ntmps111
  go_wp2
  go_loopw [5] (fun t w' => ∃ (pos k : Nat) (x y z : Int), Goes w B w' s pos x y z ∧ t = .int .i64 (k : Int) ∧ Hid (R = go (some ⟨k, x, y, z⟩) (runes s pos)) ∧ k ≤ 2 ∧ pos ≤ s.size) (fun _ w' => s.size - w'.iterPos (B + 1))
  case atStart =>
    subst hB
    have e1 : (w.alloc (.cells (three 0 0 0) 115)).heap.size = w.heap.size + 1 := by simp
    have h4 := World.iter_heap (w.alloc (.cells (three 0 0 0) 115)) s 0
    rw [e1] at h4
    exact ⟨0, 0, 0, 0, 0, ⟨(Blk.new w _ _).alloc _, h4, ((Below.refl _ _).alloc (Nat.le_refl _) _).alloc (by simp) _⟩, rfl, hide hR, by omega, by omega⟩
  case round =>
    obtain ⟨pos, k, x, y, z, hgo, rfl, hc, hk, hb⟩ := hrel
    by_cases hp : pos < s.size
    · obtain ⟨W, hW⟩ : ∃ W, W = wr.iterAt (B + 1) s (pos + wd s pos) := ⟨_, rfl⟩
      have hnx : ∀ ty, (Instr.next (.pointer (some ⟨w.heap.size + 1, 0, none⟩)) true ty).run Tryz.prog wr = .ok (.tuple #[.bool true, .int .i64 pos, .int .i32 (rn s pos)]) W := fun ty => by
        rw [hW, ← hB]; exact run_next_any_at wr (B + 1) s pos ty hgo.2.1 hp
      have hwd := wd_pos s pos hp
      have hwl := wd_le s pos hp
      have hrl := rn_le s pos
      have hgw : Goes w B W s (pos + wd s pos) x y z := by rw [hW]; exact hgo.iter (by omega)
      have Hc : Hid (R = go (step ⟨k, x, y, z⟩ (rn s pos)) (runes s (pos + wd s pos))) := hide (by rw [hc.out, Hstp.out pos hp]; rfl)
      have Hg := hide hgw
      have hmeas := pos_of hgo.2.1
      have hc0 := hgw.1.cell 0
      have hc1 := hgw.1.cell 1
      have hc2 := hgw.1.cell 2
      have hf0 := hgw.1.frozen 0
      have hf1 := hgw.1.frozen 1
      have hf2 := hgw.1.frozen 2
      rw [hB] at hc0 hc1 hc2 hf0 hf1 hf2
      unfold three at hc0 hc1 hc2
      clear hW hgo hgw hc Hend Hstp hR
      generalize wd s pos = V at *
      generalize rn s pos = X at *
      by_cases hX : X = 46
      · subst hX
        have hk3 : k = 0 ∨ k = 1 ∨ k = 2 := by omega
        rcases hk3 with rfl | rfl | rfl
        · go_wp2
          go_roundw
          case rel => exact ⟨pos + V, 1, x, y, z, Hg.out, rfl, Hc, by omega, by omega⟩
          case measure => rw [pos_of Hg.out.2.1, hmeas]; omega
        · go_wp2
          go_roundw
          case rel => exact ⟨pos + V, 2, x, y, z, Hg.out, rfl, Hc, by omega, by omega⟩
          case measure => rw [pos_of Hg.out.2.1, hmeas]; omega
        · go_wp2
          go_ret2
          have : R = none := by rw [Hc.out]; exact go_none _
          rw [this]
          exact ⟨rfl, Hg.out.2.2⟩
      · have hk3 : k = 0 ∨ k = 1 ∨ k = 2 := by omega
        rcases hk3 with rfl | rfl | rfl
        · have Hn : Hid (R = go (some ⟨0, digit x X, y, z⟩) (runes s (pos + V))) := hide (by rw [Hc.out]; simp [step, hX])
          go_wp2
          go_roundw
          case rel => exact ⟨pos + V, 0, _, _, _, by rw [← hB]; exact Hg.out.set0 (by omega) _, rfl, Hn, by omega, by omega⟩
          case measure => rw [← hB, pos_of (Hg.out.set0 (by omega) _).2.1, hmeas]; omega
        · have Hn : Hid (R = go (some ⟨1, x, digit y X, z⟩) (runes s (pos + V))) := hide (by rw [Hc.out]; simp [step, hX])
          go_wp2
          go_roundw
          case rel => exact ⟨pos + V, 1, _, _, _, by rw [← hB]; exact Hg.out.set1 (by omega) _, rfl, Hn, by omega, by omega⟩
          case measure => rw [← hB, pos_of (Hg.out.set1 (by omega) _).2.1, hmeas]; omega
        · have Hn : Hid (R = go (some ⟨2, x, y, digit z X⟩) (runes s (pos + V))) := hide (by rw [Hc.out]; simp [step, hX])
          go_wp2
          go_roundw
          case rel => exact ⟨pos + V, 2, _, _, _, by rw [← hB]; exact Hg.out.set2 (by omega) _, rfl, Hn, by omega, by omega⟩
          case measure => rw [← hB, pos_of (Hg.out.set2 (by omega) _).2.1, hmeas]; omega
    · have hnx : ∀ ty, (Instr.next (.pointer (some ⟨w.heap.size + 1, 0, none⟩)) true ty).run Tryz.prog wr = .ok (.tuple #[.bool false]) wr := fun ty => by
        rw [← hB]; exact run_next_end_at wr (B + 1) s pos ty hgo.2.1 hp
      have hRf : R = some ⟨k, x, y, z⟩ := by have := hc.out; rw [Hend.out pos hp] at this; exact this
      have hc0 := hgo.1.cell 0
      have hc1 := hgo.1.cell 1
      have hc2 := hgo.1.cell 2
      have hbw := hgo.2.2
      rw [hB] at hc0 hc1 hc2
      unfold three at hc0 hc1 hc2
      have HR := hide hRf
      clear hgo hc Hend Hstp hR hRf
      by_cases hF : Fits x y z
      · have HP := hide (place_yes x y z wr hF (HT.out.below hbw))
        have hlt := place_lt hF
        have HX := hide (fun wx hx => text_yes (placeN x y z) wx hlt hx)
        unfold three at HP
        generalize hN : placeN x y z = N at *
        by_cases he : str (txt N) = s
        · have Hfin : Hid (fin s (some ⟨k, x, y, z⟩) = some N) := hide (by unfold fin; simp only; rw [hN, if_pos ⟨hF, he⟩])
          rw [he] at HX
          clear he hN hF
          go_wp2_with (first
            | (go_at_call 119
               refine HP.out.mono ?_
               rintro e w1 ⟨rfl, hb1⟩
               have c1 : Below w.heap.size w w1 := hbw.trans (hb1.mono hbw.size))
            | (go_at_call 75
               refine (HX.out _ (HT.out.below c1)).mono ?_
               rintro e w2 ⟨rfl, hb2⟩))
          go_ret2
          rw [HR.out, Hfin.out]
          exact ⟨rfl, c1.trans (hb2.mono c1.size)⟩
        · have Hfin : Hid (fin s (some ⟨k, x, y, z⟩) = none) := hide (by unfold fin; simp only; rw [hN, if_neg (fun h => he h.2)])
          have hne := toList_ne he
          clear he hN hF
          generalize str (txt N) = S at *
          go_wp2_with (first
            | (go_at_call 119
               refine HP.out.mono ?_
               rintro e w1 ⟨rfl, hb1⟩
               have c1 : Below w.heap.size w w1 := hbw.trans (hb1.mono hbw.size))
            | (go_at_call 75
               refine (HX.out _ (HT.out.below c1)).mono ?_
               rintro e w2 ⟨rfl, hb2⟩))
          go_ret2
          rw [HR.out, Hfin.out]
          exact ⟨rfl, c1.trans (hb2.mono c1.size)⟩
      · have HP := hide (place_no x y z wr hF (HT.out.below hbw))
        have Hfin : Hid (fin s (some ⟨k, x, y, z⟩) = none) := hide (by unfold fin; simp only; rw [if_neg (fun h => hF h.1)])
        unfold three at HP
        clear hF
        go_wp2_with (first
          | (go_at_call 119
             refine HP.out.mono ?_
             rintro e w1 ⟨rfl, hb1⟩))
        go_ret2
        rw [HR.out, Hfin.out]
        exact ⟨rfl, hbw.trans (hb1.mono hbw.size)⟩
theorem rgo_take (l : List UInt8) (i : Nat) (b : UInt8) (h : l[i]? = some b) (q : Int × Int) : rgo q (l.take (i + 1)) = rstep (rgo q (l.take i)) b := by
  rw [take_snoc' l i b h, rgo_append]; rfl
theorem rread_long {s : ByteArray} (h : 11 < s.size) : rreadR s = none := by
  unfold rreadR
  simp only
  rw [if_neg (fun h' => by omega)]
theorem rread_nil : rreadR (str []) = none := by
  cases h : rreadR (str []) with
  | none => rfl
  | some p =>
    have e := (rread_some h).1
    have l := txt_len p
    rw [← str_inj.1 e] at l
    simp at l
end Go.Proofs.YtmcpdcfeappokaaGreatDoor.Ver
