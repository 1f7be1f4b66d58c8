/-
  Some texts of this claim, one behind the other: VerLay, VerPlace, VerAfter, VerText, VerRead, VerAwake. What each proves, and its condition, stands at its head.
-/
import Derived.Test.YtmoeilkaadnnoaaGreatDoorZ3
import Derived.Test.YtmoeilkaadnnoaaGreatDoorZ9
import Derived.Shelf.Strconv.Itoa3
import Derived.Lib.LaidTab
import Derived.LoopTactic
import Derived.LoopN
import Derived.Laws.ResultCell
import Derived.ChangeKeysEq
/-
  The library's own Itoa, laid at this program: a number's decimal digits; and the tables that the program and the library read, as they go on reading. Condition: the tables hold what the texts lay in them.
-/
namespace Go.Proofs.YtmoeilkaadnnoaaGreatDoor.Ver
open Go.RowKit Go.Lib Go.Shelf
set_option linter.unusedVariables false
/-- What the two tables that are read hold. -/
def Tabs (w : World) : Prop := Lib.TabIs Tryz.prog w "internal/strconv.uint64pow10" .u64 Lib.pow10Tab ∧ Lib.TabIs Tryz.prog w "comprador/ver.units" .i64 [1000000, 1000, 1]
theorem tab_below {P : Program} {w w' : World} {name : String} {k : IntKind} {zs : List Int} (h : Lib.TabIs P w name k zs) (hb : Below w.heap.size w w') : Lib.TabIs P w' name k zs := by
  unfold TabIs World.var? at *
  cases hg : P.globalNamed name with
  | none => simp [hg] at h
  | some g =>
    simp only [hg, Option.bind_some] at h ⊢
    have hlt : g < w.heap.size := by
      rcases Nat.lt_or_ge g w.heap.size with h' | h'
      · exact h'
      · rw [Array.getElem?_eq_none h'] at h; simp at h
    rw [hb.block g hlt]
    exact h
theorem Tabs.below {w w' : World} (h : Tabs w) (hb : Below w.heap.size w w') : Tabs w' := ⟨tab_below h.1 hb, tab_below h.2 hb⟩
/-- What the program's own table holds: all that Parts, Place and Check ask. -/
def Units (w : World) : Prop := Lib.TabIs Tryz.prog w "comprador/ver.units" .i64 [1000000, 1000, 1]
theorem Units.below {w w' : World} (h : Units w) (hb : Below w.heap.size w w') : Units w' := tab_below h hb
/-- What is read of the units. -/
theorem Units.cells {w : World} (h : Units w) : 1 < w.heap.size ∧ w.cell? ⟨1, 0, none⟩ = some (.int .i64 1000000) ∧ w.cell? ⟨1, 1, none⟩ = some (.int .i64 1000) ∧ w.cell? ⟨1, 2, none⟩ = some (.int .i64 1) := by
  have hg : Tryz.prog.globalNamed "comprador/ver.units" = some 1 := by kernel_rfl
  have h' : Lib.TabIs Tryz.prog w "comprador/ver.units" .i64 [1000000, 1000, 1] := h
  have h0 := h'.cell hg 0 (by decide)
  exact ⟨World.block_lt_of_cell? w _ h0, h0, h'.cell hg 1 (by decide), h'.cell hg 2 (by decide)⟩
theorem Tabs.units {w : World} (h : Tabs w) : 1 < w.heap.size ∧ w.cell? ⟨1, 0, none⟩ = some (.int .i64 1000000) ∧ w.cell? ⟨1, 1, none⟩ = some (.int .i64 1000) ∧ w.cell? ⟨1, 2, none⟩ = some (.int .i64 1) := Units.cells h.2
theorem below_grow (w : World) (k : Nat) (os : Array Obj) : Below w.heap.size w (Sort.grow (w.drewN k) os) :=
  ⟨rfl, rfl, rfl, by show w.heap.size ≤ (w.heap ++ os).size; rw [Array.size_append]; omega, fun j hj => by
    show (w.heap ++ os)[j]? = w.heap[j]?
    rw [Array.getElem?_append_left hj]⟩
end Go.Proofs.YtmoeilkaadnnoaaGreatDoor.Ver
/-
  The contracts of the program's and the document's own fit, Parts and Place. Condition: the program's table holds what its text lays in it.
-/
namespace Go.Proofs.YtmoeilkaadnnoaaGreatDoor.Ver
open Go.RowKit Go.Lib
set_option linter.unusedVariables false
theorem fit_yes (p : Int) (w : World) (h0 : 0 ≤ p) (h1 : p < 1000000000) :
    Calls Tryz.prog 146 #[.int .i64 p] w fun e w' => e = .returned (.bool true) ∧ w = w' := by
  go_enter Tryz.func146, Tryz.ntmps146
  go_wp2
  go_ret
  exact ⟨rfl, rfl⟩
theorem fit_no (p : Int) (w : World) (h : ¬ (0 ≤ p ∧ p < 1000000000)) :
    Calls Tryz.prog 146 #[.int .i64 p] w fun e w' => e = .returned (.bool false) ∧ w = w' := by
  by_cases h0 : 0 ≤ p
  · have h1 : ¬ p < 1000000000 := fun h1 => h ⟨h0, h1⟩
    clear h
    go_enter Tryz.func146, Tryz.ntmps146
    go_wp2
    go_ret
    exact ⟨rfl, rfl⟩
  · clear h
    go_enter Tryz.func146, Tryz.ntmps146
    go_wp2
    go_ret
    exact ⟨rfl, rfl⟩
theorem info_three : (Tryz.prog.info? 195).map (·.size) = some 3 := by kernel_rfl
/-- Two results, the first of them an array in a block of the call's own. -/
theorem results_row_tmp {P : Program} {fn : Func} {p u : Tmp} {ty : TypeId} (h : fn.results = #[.cell p ty, .tmp u]) (tmps : Array Value) (w : World) (g : Nat) (t : TypeId) (cs : Array Value) (fr : Nat × Nat) (d : TypeDesc) (v : Value)
    (hp : tmps.getD p undef = .pointer (some ⟨g, 0, none⟩)) (hv : tmps.getD u undef = v) (hg : w.heap[g]? = some (.cells cs t fr))
    (hu : P.underlying ty = some d) (hd : (match d with | .struct _ | .array _ _ => true | _ => false) = true) (hi : (P.info? ty).map (·.size) = some cs.size) :
    (results fn tmps).run P w = .ok (.tuple #[.agg cs, v]) w := by
  rw [results_cell_tmp h]
  simp only [hp, hv, asAddr, Sem.run_pure, Result.andThen_ok, run_loadVar_row w g t ty cs fr d hg hu hd hi]
theorem parts_no (p : Int) (w : World) (h : ¬ (0 ≤ p ∧ p < 1000000000)) :
    Calls Tryz.prog 129 #[.int .i64 p] w fun e w' => e = .returned (.tuple #[.agg (three 0 0 0), .bool false]) ∧ Below w.heap.size w w' := by
  have H := hide (fun wx => fit_no p wx h)
  clear h
  go_enter Tryz.func129, Tryz.ntmps129
  go_wp2_with (first
    | (go_at_call 146
       refine (H.out _).mono ?_
       rintro e w1 ⟨rfl, rfl⟩))
  try simp only [Exit.inBlock, Exit.then]
  have hz : ((w.alloc (.cells (three 0 0 0) 195)).alloc (.cells (three 0 0 0) 195)).heap[w.heap.size]? = some (.cells (three 0 0 0) 195 (0, 0)) := (Blk.new w 195 (three 0 0 0)).alloc _
  refine bodyPost_ret (results_row_tmp rfl _ _ w.heap.size 195 (three 0 0 0) (0, 0) _ (.bool false) rfl rfl hz Tryz.underlying195 rfl info_three) rfl ?_
  exact ⟨rfl, ((Below.refl _ _).alloc (Nat.le_refl _) _).alloc (by simp) _⟩
theorem idx0 (x y z : Int) (w : World) : (Instr.index 195 (.agg #[.int .i64 x, .int .i64 y, .int .i64 z]) (.int .i64 0)).run Tryz.prog w = .ok (.int .i64 x) w := by kernel_rfl
theorem idx1 (x y z : Int) (w : World) : (Instr.index 195 (.agg #[.int .i64 x, .int .i64 y, .int .i64 z]) (.int .i64 1)).run Tryz.prog w = .ok (.int .i64 y) w := by kernel_rfl
theorem idx2 (x y z : Int) (w : World) : (Instr.index 195 (.agg #[.int .i64 x, .int .i64 y, .int .i64 z]) (.int .i64 2)).run Tryz.prog w = .ok (.int .i64 z) w := by kernel_rfl
theorem parts_u (p : Nat) (w : World) (h : p < 1000000000) (hT : Units w) :
    Calls Tryz.prog 129 #[.int .i64 (p : Int)] w fun e w' => e = .returned (.tuple #[.agg (partsOf p), .bool true]) ∧ Below w.heap.size w w' := by
  have H := hide (fun wx => fit_yes p wx (by omega) (by omega))
  obtain ⟨hg, h0, h1, h2⟩ := hT.cells
  have k0 : ∀ o o', ((w.alloc o).alloc o').cell? ⟨1, 0, none⟩ = some (.int .i64 1000000) := fun o o' => (World.cell?_alloc_lt _ _ _ (by simp <;> omega)).trans ((World.cell?_alloc_lt _ _ _ hg).trans h0)
  have k1 : ∀ o o', ((w.alloc o).alloc o').cell? ⟨1, 1, none⟩ = some (.int .i64 1000) := fun o o' => (World.cell?_alloc_lt _ _ _ (by simp <;> omega)).trans ((World.cell?_alloc_lt _ _ _ hg).trans h1)
  have k2 : ∀ o o', ((w.alloc o).alloc o').cell? ⟨1, 2, none⟩ = some (.int .i64 1) := fun o o' => (World.cell?_alloc_lt _ _ _ (by simp <;> omega)).trans ((World.cell?_alloc_lt _ _ _ hg).trans h2)
  have i0 := idx0 1000000 1000 1
  have i1 := idx1 1000000 1000 1
  have i2 := idx2 1000000 1000 1
  go_enter Tryz.func129, Tryz.ntmps129
  go_wp2_with (first
    | (go_at_call 146
       refine (H.out _).mono ?_
       rintro e w1 ⟨rfl, rfl⟩))
  refine wp_loop_rounds 4 ?_
  rw [rounds_succ]; go_wp2
  rw [rounds_succ]; go_wp2
  rw [rounds_succ]; go_wp2
  rw [rounds_succ]; go_wp2
  try simp only [Exit.inBlock, Exit.then]
  have e : #[Value.int IntKind.i64 ((p : Int) / 1000000 % 1000), Value.int IntKind.i64 ((p : Int) / 1000 % 1000), Value.int IntKind.i64 ((p : Int) % 1000)] = partsOf p := rfl
  rw [e]
  have hz : ((w.alloc (.cells (partsOf p) 195)).alloc (.cells (partsOf p) 195)).heap[w.heap.size]? = some (.cells (partsOf p) 195 (0, 0)) := (Blk.new w 195 (partsOf p)).alloc _
  refine bodyPost_ret (results_row_tmp rfl _ _ w.heap.size 195 (partsOf p) (0, 0) _ (.bool true) rfl rfl hz Tryz.underlying195 rfl info_three) rfl ?_
  exact ⟨rfl, ((Below.refl _ _).alloc (Nat.le_refl _) _).alloc (by simp) _⟩
theorem end_p {a b : Int} {v : Value} (h : a = b) : Ending.returned (.tuple #[.int .i64 a, v]) = .returned (.tuple #[.int .i64 b, v]) := by rw [h]
theorem info_int3 : (Tryz.prog.info? 3).map (fun i => (i.zero, i.size, i.bytes)) = some (some (.int .i64 0), 1, 8) := by kernel_rfl
/-- Two arrays of three are one if their parts are. -/
def same3 (x y z x' y' z' : Int) : Bool := (x == x') && ((y == y') && (z == z'))
theorem eq_three (x y z x' y' z' : Int) (w : World) : (Op.equalIn 10000 195 (.agg #[.int .i64 x, .int .i64 y, .int .i64 z]) (.agg #[.int .i64 x', .int .i64 y', .int .i64 z'])).run Tryz.prog w = .ok (same3 x y z x' y' z') w := by
  obtain ⟨i0, hi0, hz0, hz1, hz2⟩ := info_parts info_int3
  have hc : Tryz.prog.cellsOf 3 = 1 := by kernel_rfl
  have ha : ∀ w, (isAgg 3).run Tryz.prog w = .ok false w := Tryz.isAgg3
  rw [run_equalIn_array w 9999 _ _ Tryz.underlying195 hi0, hc, show List.range 3 = [0, 1, 2] from rfl]
  unfold same3
  cases hx : (x == x') <;> cases hy : (y == y') <;> cases hz : (z == z') <;>
    simp [Op.eqItems, part, ha, run_equalIn_int _ 9998 3 .i64 .i64 _ _ Tryz.underlying3, hx, hy, hz]
/-- What is told of any place. -/
theorem parts_yes (p : Nat) (w : World) (h : p < 1000000000) (hT : Tabs w) :
    Calls Tryz.prog 129 #[.int .i64 (p : Int)] w fun e w' => e = .returned (.tuple #[.agg (partsOf p), .bool true]) ∧ Below w.heap.size w w' := parts_u p w h hT.2
theorem parts_all (p : Int) (w : World) (hT : Tabs w) :
    Calls Tryz.prog 129 #[.int .i64 p] w fun e w' => ∃ a b c f, e = .returned (.tuple #[.agg #[.int .i64 a, .int .i64 b, .int .i64 c], .bool f]) ∧ (f = true → Fits a b c) ∧ Below w.heap.size w w' := by
  by_cases h : 0 ≤ p ∧ p < 1000000000
  · obtain ⟨n, rfl⟩ : ∃ n : Nat, p = (n : Int) := ⟨p.toNat, by omega⟩
    exact (parts_yes n w (by omega) hT).mono fun e w' ⟨he, hb⟩ => ⟨_, _, _, _, he, fun _ => parts_fit n, hb⟩
  · exact (parts_no p w h).mono fun e w' ⟨he, hb⟩ => ⟨_, _, _, _, he, (fun h => by cases h), hb⟩
end Go.Proofs.YtmoeilkaadnnoaaGreatDoor.Ver
/-
  The contracts of the program's and the document's own After, and of the document's digits and text. Condition: the program's table holds what its text lays in it.
-/
namespace Go.Proofs.YtmoeilkaadnnoaaGreatDoor.Ver
open Go.RowKit Go.Lib
set_option linter.unusedVariables false
theorem end_v {k : IntKind} {a b : Int} (h : a = b) : Ending.returned (Value.int k a) = Ending.returned (.int k b) := by rw [h]
theorem conv1 (W : World) (z : Int) : (convert 41 9 (.slice (some ⟨W.heap.size, 0, none⟩) 1 1)).run Tryz.prog (W.alloc (.cells #[.int .u8 z] 5)) = .ok (.string (strOfNums [z])) (W.alloc (.cells #[.int .u8 z] 5)) :=
  conv_new W [z] 1
theorem strOfNums_one (z : Int) (y : Nat) (h : z = (y : Int)) : strOfNums [z] = str [UInt8.ofNat y] := by subst h; simp [strOfNums, str]
theorem one_size (z : Int) : (strOfNums [z]).size = 1 := by rw [strOfNums_size]; rfl
theorem end_s {a b : ByteArray} (h : a = b) : Ending.returned (Value.string a) = Ending.returned (.string b) := by rw [h]
end Go.Proofs.YtmoeilkaadnnoaaGreatDoor.Ver
/-
  The contracts of the program's and the document's own Text. Condition: the tables hold what the texts lay in them.
-/
namespace Go.Proofs.YtmoeilkaadnnoaaGreatDoor.Ver
open Go.RowKit Go.Lib Go.Proofs.YtmoeilkaadnnoaaGreatDoor.Grow
set_option linter.unusedVariables false
theorem txt_str (p : Nat) : str (decDigits (pA p)) ++ str [46] ++ str (decDigits (pB p)) ++ str [46] ++ str (decDigits (pC p)) = str (txt p) := by
  rw [str_append, str_append, str_append, str_append]
  congr 1
  simp [txt]
theorem dec_size {n : Nat} (h : n < 1000) : (str (decDigits n)).size ≤ 3 := by rw [str_size]; exact (dec_len h).2
theorem cell_at_reg {w : World} {a : Addr} {v : Value} (h : w.cell? a = some v) (d : Nat) (os : Array Obj) : (Sort.grow (redrawn w d) os).cell? a = some v := cell_regrown h d os
end Go.Proofs.YtmoeilkaadnnoaaGreatDoor.Ver
/-
  The contracts of the program's and the document's own Read. Condition: the tables hold what the texts lay in them; the text is no longer than a text may be.
-/
namespace Go.Proofs.YtmoeilkaadnnoaaGreatDoor.Ver
open Go.RowKit Go.Lib Go.Proofs.YtmoeilkaadnnoaaGreatDoor.Label
set_option linter.unusedVariables false
theorem pos_of {w : World} {k : Nat} {s : ByteArray} {p : Nat} (h : w.heap[k]? = some (.stringIter s p)) : w.iterPos k = p := by simp [World.iterPos, h]
def fin (s : ByteArray) : Option St → Option Nat
  | none => none
  | some t => if Fits t.x t.y t.z ∧ str (txt (placeN t.x t.y t.z)) = s then some (placeN t.x t.y t.z) else none
theorem read_fin (s : ByteArray) : readR s = fin s (go (some ⟨0, 0, 0, 0⟩) (runes s 0)) := by
  unfold readR fin
  cases go (some ⟨0, 0, 0, 0⟩) (runes s 0) <;> rfl
/-- What stands in memory as the text is gone through: the three parts, and the place in the text. -/
def Goes (w0 : World) (B : Nat) (w : World) (s : ByteArray) (pos : Nat) (x y z : Int) : Prop :=
  Blk w B 195 (three x y z) ∧ w.heap[B + 1]? = some (.stringIter s pos) ∧ Below w0.heap.size w0 w
theorem Goes.iter {w0 w : World} {B : Nat} {s : ByteArray} {pos p : Nat} {x y z : Int} (h : Goes w0 B w s pos x y z) (hB : w0.heap.size ≤ B) : Goes w0 B (w.iterAt (B + 1) s p) s p x y z :=
  ⟨(iterAt_other w _ _ s p (by omega)).trans h.1, iterAt_heap _ _ _ _ _ h.2.1, below_iterAt h.2.2 (by omega) s p⟩
theorem Goes.set0 {w0 w : World} {B : Nat} {s : ByteArray} {pos : Nat} {x y z : Int} (h : Goes w0 B w s pos x y z) (hB : w0.heap.size ≤ B) (v : Int) : Goes w0 B (w.setCell ⟨B, 0, none⟩ (.int .i64 v)) s pos v y z :=
  ⟨h.1.set_ 0 _, (Below.heap_setCell w _ _ _ (by simp)).trans h.2.1, h.2.2.setCell (by simpa using hB) _⟩
theorem Goes.set1 {w0 w : World} {B : Nat} {s : ByteArray} {pos : Nat} {x y z : Int} (h : Goes w0 B w s pos x y z) (hB : w0.heap.size ≤ B) (v : Int) : Goes w0 B (w.setCell ⟨B, 1, none⟩ (.int .i64 v)) s pos x v z :=
  ⟨h.1.set_ 1 _, (Below.heap_setCell w _ _ _ (by simp)).trans h.2.1, h.2.2.setCell (by simpa using hB) _⟩
theorem Goes.set2 {w0 w : World} {B : Nat} {s : ByteArray} {pos : Nat} {x y z : Int} (h : Goes w0 B w s pos x y z) (hB : w0.heap.size ≤ B) (v : Int) : Goes w0 B (w.setCell ⟨B, 2, none⟩ (.int .i64 v)) s pos x y v :=
  ⟨h.1.set_ 2 _, (Below.heap_setCell w _ _ _ (by simp)).trans h.2.1, h.2.2.setCell (by simpa using hB) _⟩
theorem end_p2 {a b : Int} {f g : Bool} (h : a = b) (h' : f = g) : Ending.returned (.tuple #[.int .i64 a, .bool f]) = .returned (.tuple #[.int .i64 b, .bool g]) := by rw [h, h']
theorem toList_data (a : ByteArray) : a.toList = a.data.toList := (congrArg ByteArray.toList (str_of a).symm).trans (str_toList _)
theorem toList_ne {a b : ByteArray} (h : ¬ a = b) : (a.toList == b.toList) = false := by
  rw [beq_eq_false_iff_ne]
  intro e
  rw [toList_data, toList_data] at e
  exact h (by rw [← str_of a, ← str_of b, e])
theorem rgo_take (l : List UInt8) (i : Nat) (b : UInt8) (h : l[i]? = some b) (q : Int × Int) : rgo q (l.take (i + 1)) = rstep (rgo q (l.take i)) b := by
  rw [take_snoc' l i b h, rgo_append]; rfl
theorem rread_long {s : ByteArray} (h : 11 < s.size) : rreadR s = none := by
  unfold rreadR
  simp only
  rw [if_neg (fun h' => by omega)]
theorem rread_nil : rreadR (str []) = none := by
  cases h : rreadR (str []) with
  | none => rfl
  | some p =>
    have e := (rread_some h).1
    have l := txt_len p
    rw [← str_inj.1 e] at l
    simp at l
end Go.Proofs.YtmoeilkaadnnoaaGreatDoor.Ver
/-
  The contracts of ver's faces in one form each, and the statements' own examples: they hold. Condition: the tables hold what the texts lay in them.
-/
namespace Go.Proofs.YtmoeilkaadnnoaaGreatDoor.Ver
open Go.RowKit Go.Lib Go.Proofs.YtmoeilkaadnnoaaGreatDoor.Label
set_option linter.unusedVariables false
def plV (x y z : Int) : Int := if Fits x y z then (placeN x y z : Nat) else 0
def isFit (p : Int) : Bool := decide (0 ≤ p ∧ p < 1000000000)
def pzA (p : Int) : Int := if 0 ≤ p ∧ p < 1000000000 then (pA p.toNat : Nat) else 0
def pzB (p : Int) : Int := if 0 ≤ p ∧ p < 1000000000 then (pB p.toNat : Nat) else 0
def pzC (p : Int) : Int := if 0 ≤ p ∧ p < 1000000000 then (pC p.toNat : Nat) else 0
theorem parts_zu (p : Int) (w : World) (hT : Units w) :
    Calls Tryz.prog 129 #[.int .i64 p] w fun e w' => e = .returned (.tuple #[.agg #[.int .i64 (pzA p), .int .i64 (pzB p), .int .i64 (pzC p)], .bool (isFit p)]) ∧ Below w.heap.size w w' := by
  unfold pzA pzB pzC isFit
  by_cases h : 0 ≤ p ∧ p < 1000000000
  · rw [if_pos h, if_pos h, if_pos h, decide_eq_true h]
    obtain ⟨n, rfl⟩ : ∃ n : Nat, p = (n : Int) := ⟨p.toNat, by omega⟩
    rw [Int.toNat_natCast]
    exact parts_u n w (by omega) hT
  · rw [if_neg h, if_neg h, if_neg h, decide_eq_false h]; exact parts_no p w h
theorem parts_z (p : Int) (w : World) (hT : Tabs w) :
    Calls Tryz.prog 129 #[.int .i64 p] w fun e w' => e = .returned (.tuple #[.agg #[.int .i64 (pzA p), .int .i64 (pzB p), .int .i64 (pzC p)], .bool (isFit p)]) ∧ Below w.heap.size w w' := parts_zu p w hT.2
def txz (p : Int) : List UInt8 := if 0 ≤ p ∧ p < 1000000000 then txt p.toNat else []
def afz (p k : Int) : Int := if (0 ≤ p ∧ p < 1000000000) ∧ 0 ≤ k ∧ k < 3 then (afterN p.toNat k.toNat : Nat) else 0
theorem txt_123 : txt 1002003 = [49, 46, 50, 46, 51] := by
  unfold txt
  rw [show pA 1002003 = 1 from rfl, show pB 1002003 = 2 from rfl, show pC 1002003 = 3 from rfl, decDigits_one (by omega), decDigits_one (by omega), decDigits_one (by omega)]
  rfl
theorem read_0123 : readR ⟨#[48, 49, 46, 50, 46, 51]⟩ = none := by
  have hs : (⟨#[48, 49, 46, 50, 46, 51]⟩ : ByteArray) = str [48, 49, 46, 50, 46, 51] := rfl
  rw [hs]
  cases h : readR (str [48, 49, 46, 50, 46, 51]) with
  | none => rfl
  | some p =>
    have e := str_inj.1 (read_some h).1
    have g := go_txt p
    rw [← e] at g
    have g2 : go (some ⟨0, 0, 0, 0⟩) (([48, 49, 46, 50, 46, 51] : List UInt8).map UInt8.toNat) = some ⟨2, 1, 2, 3⟩ := by kernel_rfl
    rw [g2] at g
    injection g with g
    injection g with g1 g2 g3 g4
    have ha : pA p = 1 := by omega
    have hb : pB p = 2 := by omega
    have hc : pC p = 3 := by omega
    unfold txt at e
    rw [ha, hb, hc, decDigits_one (by omega), decDigits_one (by omega), decDigits_one (by omega)] at e
    exact absurd e (by decide)
end Go.Proofs.YtmoeilkaadnnoaaGreatDoor.Ver
