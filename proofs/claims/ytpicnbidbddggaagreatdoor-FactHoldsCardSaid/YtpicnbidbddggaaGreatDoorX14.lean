/-
  Some texts of this claim, one behind the other: VerLay, VerPlace, VerAfter, VerText, VerRead, VerAwake. What each proves, and its condition, stands at its head.
-/
import Derived.Test.YtpicnbidbddggaaGreatDoorX3
import Derived.Test.YtpicnbidbddggaaGreatDoorX9
import Derived.Shelf.Strconv.Itoa3
import Derived.Lib.LaidTab
import Derived.LoopTactic
import Derived.LoopN
import Derived.Laws.ResultCell
import Derived.ChangeKeysEq
/-
  The library's own Itoa, laid at this program: a number's decimal digits; and the tables that the program and the library read, as they go on reading. Condition: the tables hold what the texts lay in them.
-/
namespace Go.Proofs.YtpicnbidbddggaaGreatDoor.Ver
open Go.RowKit Go.Lib Go.Shelf
set_option linter.unusedVariables false
def Tabs (w : World) : Prop := Lib.TabIs Tryz.prog w "internal/strconv.uint64pow10" .u64 Lib.pow10Tab ∧ Lib.TabIs Tryz.prog w "comprador/ver.units" .i64 [1000000, 1000, 1]
theorem tab_below {P : Program} {w w' : World} {name : String} {k : IntKind} {zs : List Int} (h : Lib.TabIs P w name k zs) (hb : Below w.heap.size w w') : Lib.TabIs P w' name k zs := by
  unfold TabIs World.var? at *
  cases hg : P.globalNamed name with
  | none => simp [hg] at h
  | some g =>
    simp only [hg, Option.bind_some] at h ⊢
    have hlt : g < w.heap.size := by
      rcases Nat.lt_or_ge g w.heap.size with h' | h'
      · exact h'
      · rw [Array.getElem?_eq_none h'] at h; simp at h
    rw [hb.block g hlt]
    exact h
theorem Tabs.below {w w' : World} (h : Tabs w) (hb : Below w.heap.size w w') : Tabs w' := ⟨tab_below h.1 hb, tab_below h.2 hb⟩
def Units (w : World) : Prop := Lib.TabIs Tryz.prog w "comprador/ver.units" .i64 [1000000, 1000, 1]
theorem Units.below {w w' : World} (h : Units w) (hb : Below w.heap.size w w') : Units w' := tab_below h hb
theorem Units.cells {w : World} (h : Units w) : 0 < w.heap.size ∧ w.cell? ⟨0, 0, none⟩ = some (.int .i64 1000000) ∧ w.cell? ⟨0, 1, none⟩ = some (.int .i64 1000) ∧ w.cell? ⟨0, 2, none⟩ = some (.int .i64 1) := by
  have hg : Tryz.prog.globalNamed "comprador/ver.units" = some 0 := by kernel_rfl
  have h' : Lib.TabIs Tryz.prog w "comprador/ver.units" .i64 [1000000, 1000, 1] := h
  have h0 := h'.cell hg 0 (by decide)
  exact ⟨World.block_lt_of_cell? w _ h0, h0, h'.cell hg 1 (by decide), h'.cell hg 2 (by decide)⟩
theorem Tabs.units {w : World} (h : Tabs w) : 0 < w.heap.size ∧ w.cell? ⟨0, 0, none⟩ = some (.int .i64 1000000) ∧ w.cell? ⟨0, 1, none⟩ = some (.int .i64 1000) ∧ w.cell? ⟨0, 2, none⟩ = some (.int .i64 1) := Units.cells h.2
end Go.Proofs.YtpicnbidbddggaaGreatDoor.Ver
/-
  The contracts of the program's and the document's own fit, Parts and Place. Condition: the program's table holds what its text lays in it.
-/
namespace Go.Proofs.YtpicnbidbddggaaGreatDoor.Ver
open Go.RowKit Go.Lib
set_option linter.unusedVariables false
theorem fit_yes (p : Int) (w : World) (h0 : 0 ≤ p) (h1 : p < 1000000000) :
    Calls Tryz.prog 151 #[.int .i64 p] w fun e w' => e = .returned (.bool true) ∧ w = w' := by
  go_enter Tryz.func151, Tryz.ntmps151
  go_wp2
  go_ret
  exact ⟨rfl, rfl⟩
theorem fit_no (p : Int) (w : World) (h : ¬ (0 ≤ p ∧ p < 1000000000)) :
    Calls Tryz.prog 151 #[.int .i64 p] w fun e w' => e = .returned (.bool false) ∧ w = w' := by
  by_cases h0 : 0 ≤ p
  · have h1 : ¬ p < 1000000000 := fun h1 => h ⟨h0, h1⟩
    clear h
    go_enter Tryz.func151, Tryz.ntmps151
    go_wp2
    go_ret
    exact ⟨rfl, rfl⟩
  · clear h
    go_enter Tryz.func151, Tryz.ntmps151
    go_wp2
    go_ret
    exact ⟨rfl, rfl⟩
theorem refFit_yes (p : Int) (w : World) (h0 : 0 ≤ p) (h1 : p < 1000000000) :
    Calls Tryz.prog 19 #[.int .i64 p] w fun e w' => e = .returned (.bool true) ∧ w = w' := by
  go_enter Tryz.func19, Tryz.ntmps19
  go_wp2
  go_ret
  exact ⟨rfl, rfl⟩
theorem refFit_no (p : Int) (w : World) (h : ¬ (0 ≤ p ∧ p < 1000000000)) :
    Calls Tryz.prog 19 #[.int .i64 p] w fun e w' => e = .returned (.bool false) ∧ w = w' := by
  by_cases h0 : 0 ≤ p
  · have h1 : ¬ p < 1000000000 := fun h1 => h ⟨h0, h1⟩
    clear h
    go_enter Tryz.func19, Tryz.ntmps19
    go_wp2
    go_ret
    exact ⟨rfl, rfl⟩
  · clear h
    go_enter Tryz.func19, Tryz.ntmps19
    go_wp2
    go_ret
    exact ⟨rfl, rfl⟩
theorem info_three : (Tryz.prog.info? 176).map (·.size) = some 3 := by kernel_rfl
theorem results_row_tmp {P : Program} {fn : Func} {p u : Tmp} {ty : TypeId} (h : fn.results = #[.cell p ty, .tmp u]) (tmps : Array Value) (w : World) (g : Nat) (t : TypeId) (cs : Array Value) (fr : Nat × Nat) (d : TypeDesc) (v : Value)
    (hp : tmps.getD p undef = .pointer (some ⟨g, 0, none⟩)) (hv : tmps.getD u undef = v) (hg : w.heap[g]? = some (.cells cs t fr))
    (hu : P.underlying ty = some d) (hd : (match d with | .struct _ | .array _ _ => true | _ => false) = true) (hi : (P.info? ty).map (·.size) = some cs.size) :
    (results fn tmps).run P w = .ok (.tuple #[.agg cs, v]) w := by
  rw [results_cell_tmp h]
  simp only [hp, hv, asAddr, Sem.run_pure, Result.andThen_ok, run_loadVar_row w g t ty cs fr d hg hu hd hi]
theorem parts_no (p : Int) (w : World) (h : ¬ (0 ≤ p ∧ p < 1000000000)) :
    Calls Tryz.prog 116 #[.int .i64 p] w fun e w' => e = .returned (.tuple #[.agg (three 0 0 0), .bool false]) ∧ Below w.heap.size w w' := by
  have H := hide (fun wx => fit_no p wx h)
  clear h
  go_enter Tryz.func116, Tryz.ntmps116
  go_wp2_with (first
    | (go_at_call 151
       refine (H.out _).mono ?_
       rintro e w1 ⟨rfl, rfl⟩))
  try simp only [Exit.inBlock, Exit.then]
  have hz : ((w.alloc (.cells (three 0 0 0) 176)).alloc (.cells (three 0 0 0) 176)).heap[w.heap.size]? = some (.cells (three 0 0 0) 176 (0, 0)) := (Blk.new w 176 (three 0 0 0)).alloc _
  refine bodyPost_ret (results_row_tmp rfl _ _ w.heap.size 176 (three 0 0 0) (0, 0) _ (.bool false) rfl rfl hz Tryz.underlying176 rfl info_three) rfl ?_
  exact ⟨rfl, ((Below.refl _ _).alloc (Nat.le_refl _) _).alloc (by simp) _⟩
theorem idx0 (x y z : Int) (w : World) : (Instr.index 176 (.agg #[.int .i64 x, .int .i64 y, .int .i64 z]) (.int .i64 0)).run Tryz.prog w = .ok (.int .i64 x) w := by kernel_rfl
theorem idx1 (x y z : Int) (w : World) : (Instr.index 176 (.agg #[.int .i64 x, .int .i64 y, .int .i64 z]) (.int .i64 1)).run Tryz.prog w = .ok (.int .i64 y) w := by kernel_rfl
theorem idx2 (x y z : Int) (w : World) : (Instr.index 176 (.agg #[.int .i64 x, .int .i64 y, .int .i64 z]) (.int .i64 2)).run Tryz.prog w = .ok (.int .i64 z) w := by kernel_rfl
theorem parts_u (p : Nat) (w : World) (h : p < 1000000000) (hT : Units w) :
    Calls Tryz.prog 116 #[.int .i64 (p : Int)] w fun e w' => e = .returned (.tuple #[.agg (partsOf p), .bool true]) ∧ Below w.heap.size w w' := by
  have H := hide (fun wx => fit_yes p wx (by omega) (by omega))
  obtain ⟨hg, h0, h1, h2⟩ := hT.cells
  have k0 : ∀ o o', ((w.alloc o).alloc o').cell? ⟨0, 0, none⟩ = some (.int .i64 1000000) := fun o o' => (World.cell?_alloc_lt _ _ _ (by simp <;> omega)).trans ((World.cell?_alloc_lt _ _ _ hg).trans h0)
  have k1 : ∀ o o', ((w.alloc o).alloc o').cell? ⟨0, 1, none⟩ = some (.int .i64 1000) := fun o o' => (World.cell?_alloc_lt _ _ _ (by simp <;> omega)).trans ((World.cell?_alloc_lt _ _ _ hg).trans h1)
  have k2 : ∀ o o', ((w.alloc o).alloc o').cell? ⟨0, 2, none⟩ = some (.int .i64 1) := fun o o' => (World.cell?_alloc_lt _ _ _ (by simp <;> omega)).trans ((World.cell?_alloc_lt _ _ _ hg).trans h2)
  have i0 := idx0 1000000 1000 1
  have i1 := idx1 1000000 1000 1
  have i2 := idx2 1000000 1000 1
  go_enter Tryz.func116, Tryz.ntmps116
  go_wp2_with (first
    | (go_at_call 151
       refine (H.out _).mono ?_
       rintro e w1 ⟨rfl, rfl⟩))
  refine wp_loop_rounds 4 ?_
  rw [rounds_succ]; go_wp2
  rw [rounds_succ]; go_wp2
  rw [rounds_succ]; go_wp2
  rw [rounds_succ]; go_wp2
  try simp only [Exit.inBlock, Exit.then]
  have e : #[Value.int IntKind.i64 ((p : Int) / 1000000 % 1000), Value.int IntKind.i64 ((p : Int) / 1000 % 1000), Value.int IntKind.i64 ((p : Int) % 1000)] = partsOf p := rfl
  rw [e]
  have hz : ((w.alloc (.cells (partsOf p) 176)).alloc (.cells (partsOf p) 176)).heap[w.heap.size]? = some (.cells (partsOf p) 176 (0, 0)) := (Blk.new w 176 (partsOf p)).alloc _
  refine bodyPost_ret (results_row_tmp rfl _ _ w.heap.size 176 (partsOf p) (0, 0) _ (.bool true) rfl rfl hz Tryz.underlying176 rfl info_three) rfl ?_
  exact ⟨rfl, ((Below.refl _ _).alloc (Nat.le_refl _) _).alloc (by simp) _⟩
def same3 (x y z x' y' z' : Int) : Bool := (x == x') && ((y == y') && (z == z'))
end Go.Proofs.YtpicnbidbddggaaGreatDoor.Ver
/-
  The contracts of the program's and the document's own After, and of the document's digits and text. Condition: the program's table holds what its text lays in it.
-/
namespace Go.Proofs.YtpicnbidbddggaaGreatDoor.Ver
open Go.RowKit Go.Lib
set_option linter.unusedVariables false
theorem conv1 (W : World) (z : Int) : (convert 45 9 (.slice (some ⟨W.heap.size, 0, none⟩) 1 1)).run Tryz.prog (W.alloc (.cells #[.int .u8 z] 5)) = .ok (.string (strOfNums [z])) (W.alloc (.cells #[.int .u8 z] 5)) :=
  conv_new W [z] 1
theorem strOfNums_one (z : Int) (y : Nat) (h : z = (y : Int)) : strOfNums [z] = str [UInt8.ofNat y] := by subst h; simp [strOfNums, str]
theorem one_size (z : Int) : (strOfNums [z]).size = 1 := by rw [strOfNums_size]; rfl
theorem end_s {a b : ByteArray} (h : a = b) : Ending.returned (Value.string a) = Ending.returned (.string b) := by rw [h]
set_option maxRecDepth 100000 in
theorem digits1 (n : Nat) (w : World) (h : n < 10) :
    Calls Tryz.prog 160 #[.int .i64 (n : Int)] w fun e w' => e = .returned (.string (str (decDigits n))) ∧ Below w.heap.size w w' := by
  have hcv := conv1
  go_enter Tryz.func160, Tryz.ntmps160
  go_wp2
  go_ret
  exact ⟨end_s (by rw [strOfNums_one _ (48 + n) (by omega), decDigits_one h]), (Below.refl _ _).alloc (Nat.le_refl _) _⟩
set_option maxRecDepth 100000 in
theorem digits_more (n : Nat) (w : World) (h0 : ¬ n < 10) (h : n < 1000) (H : ∀ wx, Calls Tryz.prog 160 #[.int .i64 ((n / 10 : Nat) : Int)] wx fun e w' => e = .returned (.string (str (decDigits (n / 10)))) ∧ Below wx.heap.size wx w') :
    Calls Tryz.prog 160 #[.int .i64 (n : Int)] w fun e w' => e = .returned (.string (str (decDigits n))) ∧ Below w.heap.size w w' := by
  have hcv := conv1
  have Hh := hide H
  have hl := (dec_len (n := n / 10) (by omega)).2
  have hsz : (str (decDigits (n / 10))).size ≤ 3 := by rw [str_size]; exact hl
  have hs1 := one_size
  clear H hl
  go_enter Tryz.func160, Tryz.ntmps160
  go_wp2_with (first
    | (go_at_call 160
       refine (Hh.out _).mono ?_
       rintro e w1 ⟨rfl, hb1⟩))
  go_ret
  exact ⟨end_s (by rw [strOfNums_one _ (48 + n % 10) (by omega), str_append, decDigits.eq_1 n, dif_neg h0]), ((Below.refl _ _).alloc (Nat.le_refl _) _).trans (hb1.mono (by simp))⟩
theorem digits_any (n : Nat) (w : World) (h : n < 1000) :
    Calls Tryz.prog 160 #[.int .i64 (n : Int)] w fun e w' => e = .returned (.string (str (decDigits n))) ∧ Below w.heap.size w w' := by
  by_cases h0 : n < 10
  · exact digits1 n w h0
  · refine digits_more n w h0 h fun wx => ?_
    by_cases h1 : n / 10 < 10
    · exact digits1 _ wx h1
    · exact digits_more _ wx h1 (by omega) fun wy => digits1 _ wy (by omega)
end Go.Proofs.YtpicnbidbddggaaGreatDoor.Ver
/-
  The contracts of the program's and the document's own Text. Condition: the tables hold what the texts lay in them.
-/
namespace Go.Proofs.YtpicnbidbddggaaGreatDoor.Ver
open Go.RowKit Go.Lib Go.Proofs.YtpicnbidbddggaaGreatDoor.Grow
set_option linter.unusedVariables false
theorem refText_no (p : Int) (w : World) (h : ¬ (0 ≤ p ∧ p < 1000000000)) :
    Calls Tryz.prog 150 #[.int .i64 p] w fun e w' => e = .returned (.string (str [])) ∧ Below w.heap.size w w' := by
  have H := hide (fun wx => refFit_no p wx h)
  clear h
  go_enter Tryz.func150, Tryz.ntmps150
  go_wp2_with (first
    | (go_at_call 19
       refine (H.out _).mono ?_
       rintro e w1 ⟨rfl, rfl⟩))
  go_ret
  exact ⟨rfl, Below.refl _ _⟩
theorem txt_str (p : Nat) : str (decDigits (pA p)) ++ str [46] ++ str (decDigits (pB p)) ++ str [46] ++ str (decDigits (pC p)) = str (txt p) := by
  rw [str_append, str_append, str_append, str_append]
  congr 1
  simp [txt]
theorem dec_size {n : Nat} (h : n < 1000) : (str (decDigits n)).size ≤ 3 := by rw [str_size]; exact (dec_len h).2
set_option maxHeartbeats 800000 in
set_option maxRecDepth 100000 in
theorem refText_yes (p : Nat) (w : World) (h : p < 1000000000) :
    Calls Tryz.prog 150 #[.int .i64 (p : Int)] w fun e w' => e = .returned (.string (str (txt p))) ∧ Below w.heap.size w w' := by
  have H := hide (fun wx => refFit_yes p wx (by omega) (by omega))
  have HA := hide (fun wx => digits_any (pA p) wx (by unfold pA; omega))
  have HB := hide (fun wx => digits_any (pB p) wx (by unfold pB; omega))
  have HC := hide (fun wx => digits_any (pC p) wx (by unfold pC; omega))
  have sa := dec_size (n := pA p) (by unfold pA; omega)
  have sb := dec_size (n := pB p) (by unfold pB; omega)
  have sc := dec_size (n := pC p) (by unfold pC; omega)
  rw [show ((pA p : Nat) : Int) = (p : Int) / 1000000 by unfold pA; omega] at HA
  rw [show ((pB p : Nat) : Int) = (p : Int) / 1000 % 1000 by unfold pB; omega] at HB
  rw [show ((pC p : Nat) : Int) = (p : Int) % 1000 by unfold pC; omega] at HC
  have ht := hide (txt_str p)
  generalize str (decDigits (pA p)) = A at *
  generalize str (decDigits (pB p)) = B at *
  generalize str (decDigits (pC p)) = C at *
  go_enter Tryz.func150, Tryz.ntmps150
  go_wp2_with (first
    | (go_at_call 19
       refine (H.out _).mono ?_
       rintro e w1 ⟨rfl, rfl⟩)
    | (go_at_call 160
       refine (HC.out w2).mono ?_
       rintro e w3 ⟨rfl, hb3⟩
       have c3 : Below w.heap.size w w3 := c2.trans (hb3.mono c2.size))
    | (go_at_call 160
       refine (HB.out w1).mono ?_
       rintro e w2 ⟨rfl, hb2⟩
       have c2 : Below w.heap.size w w2 := hb1.trans (hb2.mono hb1.size))
    | (go_at_call 160
       refine (HA.out w).mono ?_
       rintro e w1 ⟨rfl, hb1⟩))
  go_ret
  exact ⟨end_s ht.out, c3⟩
theorem cell_at_reg {w : World} {a : Addr} {v : Value} (h : w.cell? a = some v) (d : Nat) (os : Array Obj) : (Sort.grow (redrawn w d) os).cell? a = some v := cell_regrown h d os
end Go.Proofs.YtpicnbidbddggaaGreatDoor.Ver
/-
  The contracts of the program's and the document's own Read. Condition: the tables hold what the texts lay in them; the text is no longer than a text may be.
-/
namespace Go.Proofs.YtpicnbidbddggaaGreatDoor.Ver
open Go.RowKit Go.Lib Go.Proofs.YtpicnbidbddggaaGreatDoor.Label
set_option linter.unusedVariables false
theorem pos_of {w : World} {k : Nat} {s : ByteArray} {p : Nat} (h : w.heap[k]? = some (.stringIter s p)) : w.iterPos k = p := by simp [World.iterPos, h]
def fin (s : ByteArray) : Option St → Option Nat
  | none => none
  | some t => if Fits t.x t.y t.z ∧ str (txt (placeN t.x t.y t.z)) = s then some (placeN t.x t.y t.z) else none
def Goes (w0 : World) (B : Nat) (w : World) (s : ByteArray) (pos : Nat) (x y z : Int) : Prop :=
  Blk w B 176 (three x y z) ∧ w.heap[B + 1]? = some (.stringIter s pos) ∧ Below w0.heap.size w0 w
theorem Goes.iter {w0 w : World} {B : Nat} {s : ByteArray} {pos p : Nat} {x y z : Int} (h : Goes w0 B w s pos x y z) (hB : w0.heap.size ≤ B) : Goes w0 B (w.iterAt (B + 1) s p) s p x y z :=
  ⟨(iterAt_other w _ _ s p (by omega)).trans h.1, iterAt_heap _ _ _ _ _ h.2.1, below_iterAt h.2.2 (by omega) s p⟩
theorem toList_data (a : ByteArray) : a.toList = a.data.toList := (congrArg ByteArray.toList (str_of a).symm).trans (str_toList _)
end Go.Proofs.YtpicnbidbddggaaGreatDoor.Ver
/-
  The contracts of ver's faces in one form each, and the statements' own examples: they hold. Condition: the tables hold what the texts lay in them.
-/
namespace Go.Proofs.YtpicnbidbddggaaGreatDoor.Ver
open Go.RowKit Go.Lib Go.Proofs.YtpicnbidbddggaaGreatDoor.Label
set_option linter.unusedVariables false
def plV (x y z : Int) : Int := if Fits x y z then (placeN x y z : Nat) else 0
def isFit (p : Int) : Bool := decide (0 ≤ p ∧ p < 1000000000)
def pzA (p : Int) : Int := if 0 ≤ p ∧ p < 1000000000 then (pA p.toNat : Nat) else 0
def pzB (p : Int) : Int := if 0 ≤ p ∧ p < 1000000000 then (pB p.toNat : Nat) else 0
def pzC (p : Int) : Int := if 0 ≤ p ∧ p < 1000000000 then (pC p.toNat : Nat) else 0
theorem parts_zu (p : Int) (w : World) (hT : Units w) :
    Calls Tryz.prog 116 #[.int .i64 p] w fun e w' => e = .returned (.tuple #[.agg #[.int .i64 (pzA p), .int .i64 (pzB p), .int .i64 (pzC p)], .bool (isFit p)]) ∧ Below w.heap.size w w' := by
  unfold pzA pzB pzC isFit
  by_cases h : 0 ≤ p ∧ p < 1000000000
  · rw [if_pos h, if_pos h, if_pos h, decide_eq_true h]
    obtain ⟨n, rfl⟩ : ∃ n : Nat, p = (n : Int) := ⟨p.toNat, by omega⟩
    rw [Int.toNat_natCast]
    exact parts_u n w (by omega) hT
  · rw [if_neg h, if_neg h, if_neg h, decide_eq_false h]; exact parts_no p w h
def txz (p : Int) : List UInt8 := if 0 ≤ p ∧ p < 1000000000 then txt p.toNat else []
def afz (p k : Int) : Int := if (0 ≤ p ∧ p < 1000000000) ∧ 0 ≤ k ∧ k < 3 then (afterN p.toNat k.toNat : Nat) else 0
end Go.Proofs.YtpicnbidbddggaaGreatDoor.Ver
