/-
  Some texts of this claim, one behind the other: VerLay, VerPlace, VerAfter, VerText. What each proves, and its condition, stands at its head.
-/
import Derived.Test.YtpicnbidbddggaaGreatY11
import Derived.Test.YtpicnbidbddggaaGreatY8
import Derived.Shelf.Strconv.Itoa3
import Derived.Lib.LaidTab
import Derived.LoopTactic
import Derived.LoopN
import Derived.Laws.ResultCell
import Derived.ChangeKeysEq
/-
  The library's own Itoa, laid at this program: a number's decimal digits; and the tables that the program and the library read, as they go on reading. Condition: the tables hold what the texts lay in them.
-/
namespace Go.Proofs.YtpicnbidbddggaaGreat.Ver
open Go.RowKit Go.Lib Go.Shelf
set_option linter.unusedVariables false
def Tabs (w : World) : Prop := Lib.TabIs Tryz.prog w "internal/strconv.uint64pow10" .u64 Lib.pow10Tab ∧ Lib.TabIs Tryz.prog w "comprador/ver.units" .i64 [1000000, 1000, 1]
theorem tab_below {P : Program} {w w' : World} {name : String} {k : IntKind} {zs : List Int} (h : Lib.TabIs P w name k zs) (hb : Below w.heap.size w w') : Lib.TabIs P w' name k zs := by
  unfold TabIs World.var? at *
  cases hg : P.globalNamed name with
  | none => simp [hg] at h
  | some g =>
    simp only [hg, Option.bind_some] at h ⊢
    have hlt : g < w.heap.size := by
      rcases Nat.lt_or_ge g w.heap.size with h' | h'
      · exact h'
      · rw [Array.getElem?_eq_none h'] at h; simp at h
    rw [hb.block g hlt]
    exact h
theorem Tabs.below {w w' : World} (h : Tabs w) (hb : Below w.heap.size w w') : Tabs w' := ⟨tab_below h.1 hb, tab_below h.2 hb⟩
def Units (w : World) : Prop := Lib.TabIs Tryz.prog w "comprador/ver.units" .i64 [1000000, 1000, 1]
theorem Units.below {w w' : World} (h : Units w) (hb : Below w.heap.size w w') : Units w' := tab_below h hb
end Go.Proofs.YtpicnbidbddggaaGreat.Ver
/-
  The contracts of the program's and the document's own fit, Parts and Place. Condition: the program's table holds what its text lays in it.
-/
namespace Go.Proofs.YtpicnbidbddggaaGreat.Ver
open Go.RowKit Go.Lib
set_option linter.unusedVariables false
theorem refFit_yes (p : Int) (w : World) (h0 : 0 ≤ p) (h1 : p < 1000000000) :
    Calls Tryz.prog 143 #[.int .i64 p] w fun e w' => e = .returned (.bool true) ∧ w = w' := by
  go_enter Tryz.func143, Tryz.ntmps143
  go_wp2
  go_ret
  exact ⟨rfl, rfl⟩
theorem refFit_no (p : Int) (w : World) (h : ¬ (0 ≤ p ∧ p < 1000000000)) :
    Calls Tryz.prog 143 #[.int .i64 p] w fun e w' => e = .returned (.bool false) ∧ w = w' := by
  by_cases h0 : 0 ≤ p
  · have h1 : ¬ p < 1000000000 := fun h1 => h ⟨h0, h1⟩
    clear h
    go_enter Tryz.func143, Tryz.ntmps143
    go_wp2
    go_ret
    exact ⟨rfl, rfl⟩
  · clear h
    go_enter Tryz.func143, Tryz.ntmps143
    go_wp2
    go_ret
    exact ⟨rfl, rfl⟩
theorem results_row_tmp {P : Program} {fn : Func} {p u : Tmp} {ty : TypeId} (h : fn.results = #[.cell p ty, .tmp u]) (tmps : Array Value) (w : World) (g : Nat) (t : TypeId) (cs : Array Value) (fr : Nat × Nat) (d : TypeDesc) (v : Value)
    (hp : tmps.getD p undef = .pointer (some ⟨g, 0, none⟩)) (hv : tmps.getD u undef = v) (hg : w.heap[g]? = some (.cells cs t fr))
    (hu : P.underlying ty = some d) (hd : (match d with | .struct _ | .array _ _ => true | _ => false) = true) (hi : (P.info? ty).map (·.size) = some cs.size) :
    (results fn tmps).run P w = .ok (.tuple #[.agg cs, v]) w := by
  rw [results_cell_tmp h]
  simp only [hp, hv, asAddr, Sem.run_pure, Result.andThen_ok, run_loadVar_row w g t ty cs fr d hg hu hd hi]
def same3 (x y z x' y' z' : Int) : Bool := (x == x') && ((y == y') && (z == z'))
end Go.Proofs.YtpicnbidbddggaaGreat.Ver
/-
  The contracts of the program's and the document's own After, and of the document's digits and text. Condition: the program's table holds what its text lays in it.
-/
namespace Go.Proofs.YtpicnbidbddggaaGreat.Ver
open Go.RowKit Go.Lib
set_option linter.unusedVariables false
theorem conv1 (W : World) (z : Int) : (convert 51 9 (.slice (some ⟨W.heap.size, 0, none⟩) 1 1)).run Tryz.prog (W.alloc (.cells #[.int .u8 z] 5)) = .ok (.string (strOfNums [z])) (W.alloc (.cells #[.int .u8 z] 5)) :=
  conv_new W [z] 1
theorem strOfNums_one (z : Int) (y : Nat) (h : z = (y : Int)) : strOfNums [z] = str [UInt8.ofNat y] := by subst h; simp [strOfNums, str]
theorem one_size (z : Int) : (strOfNums [z]).size = 1 := by rw [strOfNums_size]; rfl
theorem end_s {a b : ByteArray} (h : a = b) : Ending.returned (Value.string a) = Ending.returned (.string b) := by rw [h]
set_option maxRecDepth 100000 in
theorem digits1 (n : Nat) (w : World) (h : n < 10) :
    Calls Tryz.prog 161 #[.int .i64 (n : Int)] w fun e w' => e = .returned (.string (str (decDigits n))) ∧ Below w.heap.size w w' := by
  have hcv := conv1
  go_enter Tryz.func161, Tryz.ntmps161
  go_wp2
  go_ret
  exact ⟨end_s (by rw [strOfNums_one _ (48 + n) (by omega), decDigits_one h]), (Below.refl _ _).alloc (Nat.le_refl _) _⟩
set_option maxRecDepth 100000 in
theorem digits_more (n : Nat) (w : World) (h0 : ¬ n < 10) (h : n < 1000) (H : ∀ wx, Calls Tryz.prog 161 #[.int .i64 ((n / 10 : Nat) : Int)] wx fun e w' => e = .returned (.string (str (decDigits (n / 10)))) ∧ Below wx.heap.size wx w') :
    Calls Tryz.prog 161 #[.int .i64 (n : Int)] w fun e w' => e = .returned (.string (str (decDigits n))) ∧ Below w.heap.size w w' := by
  have hcv := conv1
  have Hh := hide H
  have hl := (dec_len (n := n / 10) (by omega)).2
  have hsz : (str (decDigits (n / 10))).size ≤ 3 := by rw [str_size]; exact hl
  have hs1 := one_size
  clear H hl
  go_enter Tryz.func161, Tryz.ntmps161
  go_wp2_with (first
    | (go_at_call 161
       refine (Hh.out _).mono ?_
       rintro e w1 ⟨rfl, hb1⟩))
  go_ret
  exact ⟨end_s (by rw [strOfNums_one _ (48 + n % 10) (by omega), str_append, decDigits.eq_1 n, dif_neg h0]), ((Below.refl _ _).alloc (Nat.le_refl _) _).trans (hb1.mono (by simp))⟩
theorem digits_any (n : Nat) (w : World) (h : n < 1000) :
    Calls Tryz.prog 161 #[.int .i64 (n : Int)] w fun e w' => e = .returned (.string (str (decDigits n))) ∧ Below w.heap.size w w' := by
  by_cases h0 : n < 10
  · exact digits1 n w h0
  · refine digits_more n w h0 h fun wx => ?_
    by_cases h1 : n / 10 < 10
    · exact digits1 _ wx h1
    · exact digits_more _ wx h1 (by omega) fun wy => digits1 _ wy (by omega)
end Go.Proofs.YtpicnbidbddggaaGreat.Ver
/-
  The contracts of the program's and the document's own Text. Condition: the tables hold what the texts lay in them.
-/
namespace Go.Proofs.YtpicnbidbddggaaGreat.Ver
open Go.RowKit Go.Lib Go.Proofs.YtpicnbidbddggaaGreat.Grow
set_option linter.unusedVariables false
theorem refText_no (p : Int) (w : World) (h : ¬ (0 ≤ p ∧ p < 1000000000)) :
    Calls Tryz.prog 141 #[.int .i64 p] w fun e w' => e = .returned (.string (str [])) ∧ Below w.heap.size w w' := by
  have H := hide (fun wx => refFit_no p wx h)
  clear h
  go_enter Tryz.func141, Tryz.ntmps141
  go_wp2_with (first
    | (go_at_call 143
       refine (H.out _).mono ?_
       rintro e w1 ⟨rfl, rfl⟩))
  go_ret
  exact ⟨rfl, Below.refl _ _⟩
theorem txt_str (p : Nat) : str (decDigits (pA p)) ++ str [46] ++ str (decDigits (pB p)) ++ str [46] ++ str (decDigits (pC p)) = str (txt p) := by
  rw [str_append, str_append, str_append, str_append]
  congr 1
  simp [txt]
theorem dec_size {n : Nat} (h : n < 1000) : (str (decDigits n)).size ≤ 3 := by rw [str_size]; exact (dec_len h).2
set_option maxHeartbeats 800000 in
set_option maxRecDepth 100000 in
theorem refText_yes (p : Nat) (w : World) (h : p < 1000000000) :
    Calls Tryz.prog 141 #[.int .i64 (p : Int)] w fun e w' => e = .returned (.string (str (txt p))) ∧ Below w.heap.size w w' := by
  have H := hide (fun wx => refFit_yes p wx (by omega) (by omega))
  have HA := hide (fun wx => digits_any (pA p) wx (by unfold pA; omega))
  have HB := hide (fun wx => digits_any (pB p) wx (by unfold pB; omega))
  have HC := hide (fun wx => digits_any (pC p) wx (by unfold pC; omega))
  have sa := dec_size (n := pA p) (by unfold pA; omega)
  have sb := dec_size (n := pB p) (by unfold pB; omega)
  have sc := dec_size (n := pC p) (by unfold pC; omega)
  rw [show ((pA p : Nat) : Int) = (p : Int) / 1000000 by unfold pA; omega] at HA
  rw [show ((pB p : Nat) : Int) = (p : Int) / 1000 % 1000 by unfold pB; omega] at HB
  rw [show ((pC p : Nat) : Int) = (p : Int) % 1000 by unfold pC; omega] at HC
  have ht := hide (txt_str p)
  generalize str (decDigits (pA p)) = A at *
  generalize str (decDigits (pB p)) = B at *
  generalize str (decDigits (pC p)) = C at *
  go_enter Tryz.func141, Tryz.ntmps141
  go_wp2_with (first
    | (go_at_call 143
       refine (H.out _).mono ?_
       rintro e w1 ⟨rfl, rfl⟩)
    | (go_at_call 161
       refine (HC.out w2).mono ?_
       rintro e w3 ⟨rfl, hb3⟩
       have c3 : Below w.heap.size w w3 := c2.trans (hb3.mono c2.size))
    | (go_at_call 161
       refine (HB.out w1).mono ?_
       rintro e w2 ⟨rfl, hb2⟩
       have c2 : Below w.heap.size w w2 := hb1.trans (hb2.mono hb1.size))
    | (go_at_call 161
       refine (HA.out w).mono ?_
       rintro e w1 ⟨rfl, hb1⟩))
  go_ret
  exact ⟨end_s ht.out, c3⟩
theorem cell_at_reg {w : World} {a : Addr} {v : Value} (h : w.cell? a = some v) (d : Nat) (os : Array Obj) : (Sort.grow (redrawn w d) os).cell? a = some v := cell_regrown h d os
end Go.Proofs.YtpicnbidbddggaaGreat.Ver
