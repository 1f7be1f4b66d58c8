/-
  The contract of read: a pick's text is read as that pick. Condition: the tables hold what the texts lay in them.
-/
import Derived.Test.YtnkcjemobljpdaaDoorPickCells
import Derived.Test.YtnkcjemobljpdaaDoorPickLay
import Derived.Test.YtnkcjemobljpdaaDoorPickSplit
import Derived.Test.YtnkcjemobljpdaaDoorLabelClone
import Derived.Test.YtnkcjemobljpdaaDoorVerRead
namespace Go.Proofs.YtnkcjemobljpdaaDoor.Pick
open Go Go.RowKit Go.Lib Go.Shelf Go.Proofs.YtnkcjemobljpdaaDoor.Need
open Go.Proofs.YtnkcjemobljpdaaDoor.Label (runes fitL)
open Go.Proofs.YtnkcjemobljpdaaDoor.Ver (txt txt_len read_any read_txt)
set_option linter.unusedVariables false
theorem results_pick_tmp {P : Program} {fn : Func} {p u : Tmp} {ty : TypeId} (h : fn.results = #[.cell p ty, .tmp u]) (tmps : Array Value) (w : World) (g : Nat) (t : TypeId) (cs : Array Value) (fr : Nat × Nat) (d : TypeDesc) (v : Value)
    (hp : tmps.getD p undef = .pointer (some ⟨g, 0, none⟩)) (hv : tmps.getD u undef = v) (hg : w.heap[g]? = some (.cells cs t fr))
    (hu : P.underlying ty = some d) (hd : (match d with | .struct _ | .array _ _ => true | _ => false) = true) (hi : (P.info? ty).map (·.size) = some cs.size) :
    (results fn tmps).run P w = .ok (.tuple #[.agg cs, v]) w := by
  rw [results_cell_tmp h]
  simp only [hp, hv, asAddr, Sem.run_pure, Result.andThen_ok, run_loadVar_row w g t ty cs fr d hg hu hd hi]
theorem pick_size : (Tryd.prog.info? 24).map (·.size) = some 2 := by kernel_rfl
set_option maxHeartbeats 2000000 in
set_option maxRecDepth 100000 in
theorem read1_any (q : Pk) (w : World) (hf : fitL (runes q.1 0) = true) (hv : verOk q.2 = true) (hT : TabsP w) :
    Calls Tryd.prog 29 #[.string (str (pickB q))] w fun e w' => e = .returned (.tuple #[.agg #[.string q.1, .int .i64 q.2], .bool true]) ∧ Below w.heap.size w w' := by
  have hsz : (str (pickB q)).size < 4294967281 := by rw [str_size]; have := (pickB_plain hf).1; omega
  have HC := hide (fun wx (hbx : Below w.heap.size w wx) => cut_any (str (pickB q)) wx hsz (hT.below hbx).2)
  have ec : Lib.cut (str (pickB q)).data.toList [32] = (q.1.data.toList, txt q.2.toNat, true) := cut_pick hf
  rw [ec] at HC
  have hvr := verOk_iff.1 hv
  have er : Ver.readR (str (txt q.2.toNat)) = some q.2.toNat := read_txt (by omega)
  have hts : (str (txt q.2.toNat)).size ≤ 9223372036854775807 := by rw [str_size]; have := (txt_len q.2.toNat).2; omega
  have HR := hide (fun wx (hbx : Below w.heap.size w wx) => read_any (str (txt q.2.toNat)) wx hts (hT.below hbx).1)
  rw [er] at HR
  have e2 : Ver.optV (some q.2.toNat) = q.2 := by show ((q.2.toNat : Nat) : Int) = q.2; omega
  have e1 : (⟨q.1.data.toList.toArray⟩ : ByteArray) = q.1 := str_of q.1
  have e3 : (⟨(txt q.2.toNat).toArray⟩ : ByteArray) = str (txt q.2.toNat) := rfl
  rw [e2] at HR
  simp only [] at HC
  rw [e1, e3] at HC
  have hn := (name_plain hf).1
  have HK := hide (fun wx => Label.clone_any q.1 wx (by have : q.1.size = q.1.data.toList.length := rfl; omega))
  obtain ⟨nm, v⟩ := q
  simp only [] at HC HR HK ⊢
  generalize str (txt v.toNat) = tx at *
  generalize str (pickB (nm, v)) = s at *
  clear hf hv hvr er ec e1 e2 e3 hn hsz hts
  go_enter Tryd.func29, Tryd.ntmps29
  have hb0 : Below w.heap.size w (w.alloc (.cells #[.string ⟨#[]⟩, .int .i64 0] 24)) := alloc_b _ _
  have hB0 : Blk (w.alloc (.cells #[.string ⟨#[]⟩, .int .i64 0] 24)) w.heap.size 24 #[.string ⟨#[]⟩, .int .i64 0] := Blk.new _ _ _
  go_wp2_with (first
    | (go_at_call 38
       refine (HC.out _ hb0).mono ?_
       rintro e w1 ⟨rfl, k, rfl⟩)
    | (go_at_call 39
       refine (HR.out _ (below_drewN hb0 _)).mono ?_
       rintro e w2 ⟨rfl, hb2⟩
       have hb3 : Below w.heap.size w w2 := (below_drewN hb0 _).trans (hb2.mono (by simp))
       have hB2 := (hB0.drewN k).below hb2 (by simp))
    | (go_at_call 35
       refine (HK.out _).mono ?_
       rintro e w4 ⟨rfl, hb4⟩
       have hb5 : Below w.heap.size w w4 := hb3.trans (hb4.mono hb3.size)
       have hB4 := hB2.below hb4 hB2.lt
       have k0 := (hB4.cell 0).trans (show (#[Value.string ⟨#[]⟩, .int .i64 0] : Array Value)[0]? = some (.string ⟨#[]⟩) from rfl)
       have k1 := (hB4.cell 1).trans (show (#[Value.string ⟨#[]⟩, .int .i64 0] : Array Value)[1]? = some (.int .i64 0) from rfl)
       have f0 := hB4.frozen 0
       have f1 := hB4.frozen 1))
  have hB5 := (hB4.set_ 0 (.string nm)).set_ 1 (.int .i64 v)
  have e9 : ((#[Value.string ⟨#[]⟩, .int .i64 0].setIfInBounds 0 (.string nm)).setIfInBounds 1 (.int .i64 v)) = #[.string nm, .int .i64 v] := rfl
  rw [e9] at hB5
  refine bodyPost_ret (results_pick_tmp rfl _ _ w.heap.size 24 _ (0, 0) _ (.bool true) rfl rfl hB5 Tryd.underlying24 rfl pick_size) rfl ?_
  exact ⟨rfl, (hb5.setCell (Nat.le_refl _) _).setCell (Nat.le_refl _) _⟩
end Go.Proofs.YtnkcjemobljpdaaDoor.Pick
