/-
  Some texts of this claim, one behind the other: DepotFind, DepotBody, DepotManifest, IndexGet, IndexRef. What each proves, and its condition, stands at its head.
-/
import Derived.Test.YtmoeilkaadnnoaaGreatDoorZ29
import Derived.Shelf.Small.Strs
import Derived.Test.YtmoeilkaadnnoaaGreatDoorZ31
import Derived.Test.YtmoeilkaadnnoaaGreatDoorZ13
import Derived.Test.YtmoeilkaadnnoaaGreatDoorZ34
import Derived.Test.YtmoeilkaadnnoaaGreatDoorZ23
import Derived.Test.YtmoeilkaadnnoaaGreatDoorZ17
import Derived.Test.YtmoeilkaadnnoaaGreatDoorZ21
import Derived.Test.YtmoeilkaadnnoaaGreatDoorZ15
import Derived.Test.YtmoeilkaadnnoaaGreatDoorZ11
import Derived.Test.YtmoeilkaadnnoaaGreatDoorZ12
import Derived.Deep.RegionHeld3
/-
  The library's comparison of two texts, laid; the closure that tells how a name stands to an entry; the library's search over it. Condition: the entries' names rise.
-/
namespace Go.Proofs.YtmoeilkaadnnoaaGreatDoor.Depot
open Go Go.RowKit Go.Lib Go.Shelf Go.Proofs.YtmoeilkaadnnoaaGreatDoor.Span Go.Proofs.YtmoeilkaadnnoaaGreatDoor.Need Go.Proofs.YtmoeilkaadnnoaaGreatDoor.Mani Go.Proofs.YtmoeilkaadnnoaaGreatDoor.Wire
set_option linter.unusedVariables false
def renP : Ren := ⟨fun | 106 => 76 | 213 => 120 | 265 => 144 | n => n, fun | 3 => 3 | 9 => 9 | n => n, fun n => n⟩
theorem laysP : Lays.n106 Tryz.prog renP := {
  mixed := by kernel_rfl
  f106 := Tryz.func76.trans (congrArg some (by kernel_rfl))
  f213 := Tryz.func120.trans (congrArg some (by kernel_rfl))
  f265 := Tryz.func144.trans (congrArg some (by kernel_rfl))
  t3 := Tryz.underlying3
  a3 := Tryz.isAgg3
  z3 := Tryz.sizeOf3
  v3 := Tryz.zeroValue3
  t9 := Tryz.underlying9
  a9 := Tryz.isAgg9
  z9 := Tryz.sizeOf9
  v9 := Tryz.zeroValue9 }
theorem compareS_any (a b : ByteArray) (w : World) : Calls Tryz.prog 76 #[.string a, .string b] w fun e w' => e = .returned (.int .i64 (cmpK a b)) ∧ w = w' :=
  (Any.strings_Compare laysP a b w).mono fun _ _ ⟨h1, h2⟩ => ⟨h1, h2.symm⟩
end Go.Proofs.YtmoeilkaadnnoaaGreatDoor.Depot
/-
  The contracts of the program's Body and the document's: a name's body. Condition: the slices read as entries that may be; a name of at most 1,000,000,000 bytes.
-/
namespace Go.Proofs.YtmoeilkaadnnoaaGreatDoor.Depot
open Go Go.RowKit Go.Lib Go.Proofs.YtmoeilkaadnnoaaGreatDoor.Span Go.Proofs.YtmoeilkaadnnoaaGreatDoor.Need Go.Proofs.YtmoeilkaadnnoaaGreatDoor.Mani Go.Proofs.YtmoeilkaadnnoaaGreatDoor.Wire
set_option linter.unusedVariables false
theorem fineR_nil : FineR [] := ⟨by decide, fun q hq => by cases hq⟩
end Go.Proofs.YtmoeilkaadnnoaaGreatDoor.Depot
/-
  The contracts of the program's Manifest and the document's Read and Manifest: a name's manifest, and whether it is broken. Condition: entries that may be; a name of at most 1,000,000,000 bytes.
-/
namespace Go.Proofs.YtmoeilkaadnnoaaGreatDoor.Depot
open Go Go.RowKit Go.Lib Go.Proofs.YtmoeilkaadnnoaaGreatDoor.Span Go.Proofs.YtmoeilkaadnnoaaGreatDoor.Need Go.Proofs.YtmoeilkaadnnoaaGreatDoor.Mani Go.Proofs.YtmoeilkaadnnoaaGreatDoor.Wire
set_option linter.unusedVariables false
/-- It answers this name's manifest, and whether it is good; the releases lie in rows of the call's own. -/
def ManR (w : World) (nm : ByteArray) (b : List UInt8) (e : Ending) (w' : World) : Prop :=
  ∃ A n c B rs, e = .returned (.tuple #[.agg #[.string nm, .slice A n c], .bool (goodE nm b)]) ∧ Rls w' B (.slice A n c) n rs (relE nm b) ∧ Below w.heap.size w w'
theorem man_bad {w w' : World} {nm : ByteArray} {b : List UInt8} {e : Ending} (hg : goodE nm b = false) (he : e = .returned (.tuple #[.agg #[.string nm, .slice none 0 0], .bool false])) (hb : Below w.heap.size w w') : ManR w nm b e w' := by
  refine ⟨none, 0, 0, 0, [], by rw [hg]; exact he, ?_, hb⟩
  have : relE nm b = [] := by unfold relE; rw [hg]; rfl
  rw [this]
  exact Rls.nil_ _ _
theorem good_no {nm : ByteArray} {b : List UInt8} (h : errB b ≠ 0 ∨ (readB b).1 ≠ nm) : goodE nm b = false := by
  unfold goodE
  rcases h with h | h
  · rw [decide_eq_false h]; rfl
  · rw [decide_eq_false h]; simp
theorem good_yes {nm : ByteArray} {b : List UInt8} (h : errB b = 0) (h1 : (readB b).1 = nm) : goodE nm b = true ∧ relE nm b = (readB b).2 := by
  have hg : goodE nm b = true := by unfold goodE; rw [decide_eq_true h, decide_eq_true h1]; rfl
  exact ⟨hg, by unfold relE; rw [if_pos hg]⟩
theorem ne_names {a b : ByteArray} (h : a ≠ b) : (a.toList == b.toList) = false ∧ (a.toList != b.toList) = true := by
  have h1 := eq_names a b
  rw [decide_eq_false h] at h1
  exact ⟨h1, by unfold bne; rw [h1]; rfl⟩
theorem eq_names_yes (a : ByteArray) : (a.toList == a.toList) = true ∧ (a.toList != a.toList) = false := ⟨beq_self_eq_true _, bne_self_eq_false _⟩
end Go.Proofs.YtmoeilkaadnnoaaGreatDoor.Depot
/-
  Contracts of the program's Get and read: a manifest that is known, and whether it is good; what a body is as a name's. Condition: a name of at most 1,000,000,000 bytes.
-/
namespace Go.Proofs.YtmoeilkaadnnoaaGreatDoor.Index
open Go Go.RowKit Go.Lib Go.Proofs.YtmoeilkaadnnoaaGreatDoor.Span Go.Proofs.YtmoeilkaadnnoaaGreatDoor.Need Go.Proofs.YtmoeilkaadnnoaaGreatDoor.Mani Go.Proofs.YtmoeilkaadnnoaaGreatDoor.Wire Go.Proofs.YtmoeilkaadnnoaaGreatDoor.Depot Go.Proofs.YtmoeilkaadnnoaaGreatDoor.MapV
set_option linter.unusedVariables false
/-- It answers this name's manifest, and whether it is good; the releases lie in rows of the call's own, or of the index's. -/
def Gots (w : World) (nm : ByteArray) (k : Kv) (e : Ending) (w' : World) : Prop :=
  ∃ A n c B rs, e = .returned (.tuple #[.agg #[.string nm, .slice A n c], .bool k.2]) ∧ Rls w' B (.slice A n c) n rs k.1 ∧ Below w.heap.size w w'
theorem assert_whole (x : Value) (w : World) : (Instr.typeAssert (.iface 103 x) 72 103 true).run Tryz.prog w = .ok (.tuple #[x, .bool true]) w := by
  simp [Instr.typeAssert, run_underlying Tryz.underlying103]
theorem zero_whole (w : World) : (zeroValue 103).run Tryz.prog w = .ok (.agg #[.string ⟨#[]⟩, .slice none 0 0]) w := by kernel_rfl
theorem assert_broken (x : Value) (w : World) : (Instr.typeAssert (.iface 102 x) 72 103 true).run Tryz.prog w = .ok (.tuple #[.agg #[.string ⟨#[]⟩, .slice none 0 0], .bool false]) w := by
  simp [Instr.typeAssert, run_underlying Tryz.underlying103, zero_whole w]
theorem assert_nil (w : World) : (Instr.typeAssert .nilIface 72 103 true).run Tryz.prog w = .ok (.tuple #[.agg #[.string ⟨#[]⟩, .slice none 0 0], .bool false]) w := by
  simp [Instr.typeAssert, run_underlying Tryz.underlying103, zero_whole w]
/-- What the assertion tells of what is found. -/
theorem found_told {w : World} {v : Value} {nm : ByteArray} {o : Option Kv} (h : Found w v nm o) :
    (∃ A n c B rs, (o.getD ([], false)).2 = true ∧ (∀ wx, (Instr.typeAssert v 72 103 true).run Tryz.prog wx = .ok (.tuple #[.agg #[.string nm, .slice A n c], .bool true]) wx) ∧ Rls w B (.slice A n c) n rs (o.getD ([], false)).1) ∨
    (o.getD ([], false) = ([], false) ∧ ∀ wx, (Instr.typeAssert v 72 103 true).run Tryz.prog wx = .ok (.tuple #[.agg #[.string ⟨#[]⟩, .slice none 0 0], .bool false]) wx) := by
  rcases h with ⟨rfl, rfl⟩ | ⟨k, rfl, ⟨e, A, n, c, B, rs, rfl, hr⟩ | ⟨rfl, rfl⟩⟩
  · exact .inr ⟨rfl, assert_nil⟩
  · exact .inl ⟨A, n, c, B, rs, e, assert_whole _, hr⟩
  · exact .inr ⟨rfl, assert_broken _⟩
set_option maxHeartbeats 4000000 in
set_option maxRecDepth 100000 in
theorem get_any (g : Nat) (mo : Option Nat) (l : List Kn) (nm : ByteArray) (w : World) (h : Idx w g mo l) (hl : FineX l) (hnm : nm.size ≤ 1000000000) :
    Calls Tryz.prog 36 #[.pointer (some ⟨g, 0, none⟩), .string nm] w (Gots w nm (getX l nm)) := by
  have HO := hide (fun (wx : World) (hb : Below w.heap.size w wx) => of_any g mo l nm wx (h.below hb) hnm)
  have HC := hide (fun wx => Label.clone_any nm wx hnm)
  have HM := hide (fun (A : Option Addr) (n c : Nat) (wx : World) (hx : RlOn wx A n (getX l nm).1) => cloneR_any nm (getX l nm).1 A n c wx hx (hl.get nm) hnm)
  have b0 := Blk.new w 83 #[.string ⟨#[]⟩, .slice none 0 0]
  have hw0 : Below w.heap.size w (w.alloc (.cells #[.string ⟨#[]⟩, .slice none 0 0] 83)) := alloc_b _
  have hk : getX l nm = (atX l nm).getD ([], false) := rfl
  clear h hl hnm
  generalize getX l nm = k at *
  go_enter Tryz.func36, Tryz.ntmps36
  go_upto_region 1 with fail
  generalize hW0 : w.alloc (.cells #[.string ⟨#[]⟩, .slice none 0 0] 83) = W0 at *
  clear hW0
  have HO2 := hide (HO.out W0 hw0)
  have hw0s := hw0.size
  clear HO
  go_wp2_with (first
    | (go_at_call 39
       refine HO2.out.mono ?_
       rintro e w1 ⟨v, rfl, rfl, hf⟩
       rcases found_told hf with ⟨A, n, c, B, rs, ek, hta, hr⟩ | ⟨ek, hta⟩))
  · rw [← hk] at ek hr
    obtain ⟨r, b⟩ := k
    simp only at ek hr HM
    subst ek
    clear hk hf HO2 HC
    have hr1 := hide (hr.below (alloc_b (.cells #[.string nm, .slice A n c] 103)))
    have b1 := b0.alloc (.cells #[.string nm, .slice A n c] 103)
    have hw1 := hw0.alloc hw0s (.cells #[.string nm, .slice A n c] 103)
    clear hr
    go_wp2_with (first
      | (go_at_call 54
         refine (HM.out A n c _ hr1.out.on).mono ?_
         rintro e w2 ⟨A2, c2, B2, rs2, rfl, hr2, hb2⟩
         have b2 := b1.below hb2 b1.lt
         have fz0 := b2.frozen 0
         have fz1 := b2.frozen 1
         have k0 := (b2.cell 0).trans (show (#[Value.string ⟨#[]⟩, .slice none 0 0] : Array Value)[0]? = some (.string ⟨#[]⟩) from rfl)
         have k1 := (b2.cell 1).trans (show (#[Value.string ⟨#[]⟩, .slice none 0 0] : Array Value)[1]? = some (.slice none 0 0) from rfl)
         have hw2 := hw1.trans (hb2.mono hw1.size)))
    have hblk := (b2.set_ 0 (.string nm)).set_ 1 (.slice A2 n c2)
    have hR4 := hr2.far (farT_blk b2 (by decide)) (farT_blk b2 (by decide)) (farT_blk b2 (by decide)) (set_two_only w2 w.heap.size (.string nm) (.slice A2 n c2))
    refine bodyPost_ret (results_blk_tmp rfl _ _ w.heap.size 83 _ (0, 0) _ (.bool true) rfl rfl hblk Tryz.underlying83 rfl mani_size) rfl ?_
    exact ⟨A2, n, c2, B2, rs2, rfl, hR4, set_two_below hw2 _ (Nat.le_refl _) _ _⟩
  · rw [← hk] at ek
    subst ek
    clear hk hf HO2 HM
    have b1 := b0.alloc (.cells #[.string ⟨#[]⟩, .slice none 0 0] 103)
    have hw1 := hw0.alloc hw0s (.cells #[.string ⟨#[]⟩, .slice none 0 0] 103)
    go_wp2_with (first
      | (go_at_call 20
         refine (HC.out _).mono ?_
         rintro e w2 ⟨rfl, hb2⟩
         have b2 := b1.below hb2 b1.lt
         have fz0 := b2.frozen 0
         have fz1 := b2.frozen 1
         have k0 := (b2.cell 0).trans (show (#[Value.string ⟨#[]⟩, .slice none 0 0] : Array Value)[0]? = some (.string ⟨#[]⟩) from rfl)
         have k1 := (b2.cell 1).trans (show (#[Value.string ⟨#[]⟩, .slice none 0 0] : Array Value)[1]? = some (.slice none 0 0) from rfl)
         have hw2 := hw1.trans (hb2.mono hw1.size)))
    have hblk := (b2.set_ 0 (.string nm)).set_ 1 (.slice none 0 0)
    refine bodyPost_ret (results_blk_tmp rfl _ _ w.heap.size 83 _ (0, 0) _ (.bool false) rfl rfl hblk Tryz.underlying83 rfl mani_size) rfl ?_
    exact ⟨none, 0, 0, 0, [], rfl, Rls.nil_ _ _, set_two_below hw2 _ (Nat.le_refl _) _ _⟩
set_option maxHeartbeats 4000000 in
set_option maxRecDepth 100000 in
theorem get_nil (nm : ByteArray) (w : World) (hnm : nm.size ≤ 1000000000) : Calls Tryz.prog 36 #[.pointer none, .string nm] w (Gots w nm ([], false)) := by
  have HO := hide (fun (wx : World) => of_nil nm wx)
  have HC := hide (fun wx => Label.clone_any nm wx hnm)
  have hta := assert_nil
  have b0 := Blk.new w 83 #[.string ⟨#[]⟩, .slice none 0 0]
  have hw0 : Below w.heap.size w (w.alloc (.cells #[.string ⟨#[]⟩, .slice none 0 0] 83)) := alloc_b _
  go_enter Tryz.func36, Tryz.ntmps36
  go_upto_region 1 with fail
  generalize hW0 : w.alloc (.cells #[.string ⟨#[]⟩, .slice none 0 0] 83) = W0 at *
  clear hW0
  have hw0s := hw0.size
  have b1 := b0.alloc (.cells #[.string ⟨#[]⟩, .slice none 0 0] 103)
  have hw1 := hw0.alloc hw0s (.cells #[.string ⟨#[]⟩, .slice none 0 0] 103)
  go_wp2_with (first
    | (go_at_call 39
       refine (HO.out _).mono ?_
       rintro e w1 ⟨rfl, rfl⟩)
    | (go_at_call 20
       refine (HC.out _).mono ?_
       rintro e w2 ⟨rfl, hb2⟩
       have b2 := b1.below hb2 b1.lt
       have fz0 := b2.frozen 0
       have fz1 := b2.frozen 1
       have k0 := (b2.cell 0).trans (show (#[Value.string ⟨#[]⟩, .slice none 0 0] : Array Value)[0]? = some (.string ⟨#[]⟩) from rfl)
       have k1 := (b2.cell 1).trans (show (#[Value.string ⟨#[]⟩, .slice none 0 0] : Array Value)[1]? = some (.slice none 0 0) from rfl)
       have hw2 := hw1.trans (hb2.mono hw1.size)))
  have hblk := (b2.set_ 0 (.string nm)).set_ 1 (.slice none 0 0)
  refine bodyPost_ret (results_blk_tmp rfl _ _ w.heap.size 83 _ (0, 0) _ (.bool false) rfl rfl hblk Tryz.underlying83 rfl mani_size) rfl ?_
  exact ⟨none, 0, 0, 0, [], rfl, Rls.nil_ _ _, set_two_below hw2 _ (Nat.le_refl _) _ _⟩
set_option maxHeartbeats 4000000 in
set_option maxRecDepth 100000 in
theorem read_any (nm : ByteArray) (b : List UInt8) (A : Option Addr) (n c : Nat) (w : World) (hr : Reads w w.heap.size 1 A n (bcs b)) :
    Calls Tryz.prog 26 #[.string nm, .slice A n c] w fun e w' => ∃ v, e = .returned v ∧ Kept w' v nm (valX nm b) ∧ Below w.heap.size w w' := by
  have HR := hide (readR_any A n c b w hr)
  unfold ReadsR at HR
  have Hno := hide (@good_no nm b)
  have Hyes := hide (@good_yes nm b)
  have hvx : valX nm b = (relE nm b, goodE nm b) := rfl
  have hrel : goodE nm b = false → relE nm b = [] := fun hg => by unfold relE; rw [hg]; rfl
  have Hrel := hide hrel
  clear hrel hr
  generalize hx : (readB b).1 = x at *
  generalize hy : (readB b).2 = y at *
  generalize hz : errB b = z at *
  go_enter Tryz.func26, Tryz.ntmps26
  go_upto_region 2 with (first
    | (go_at_call 43
       refine HR.out.mono ?_
       rintro e w2 ⟨A2, n2, c2, B2, rs2, rfl, hR2, hb2⟩))
  obtain ⟨W, hW⟩ : ∃ W, W = w2.alloc (.cells #[.string x, .slice A2 n2 c2] 83) := ⟨_, rfl⟩
  have m3 : Blk W w2.heap.size 83 #[.string x, .slice A2 n2 c2] := by rw [hW]; exact Blk.new _ _ _
  have hR3 : Rls W B2 (.slice A2 n2 c2) n2 rs2 y := by rw [hW]; exact hR2.below (alloc_b _)
  have hw3 : Below w.heap.size w W := by rw [hW]; exact hb2.alloc hb2.size _
  rw [← hW]
  clear hW hb2 hR2 HR
  have m0 := (m3.cell 0).trans (show (#[Value.string x, .slice A2 n2 c2] : Array Value)[0]? = some (.string x) from rfl)
  have m1 := (m3.cell 1).trans (show (#[Value.string x, .slice A2 n2 c2] : Array Value)[1]? = some (.slice A2 n2 c2) from rfl)
  by_cases hbad : z ≠ 0 ∨ x ≠ nm
  · have hg := Hno.out hbad
    have hv0 : valX nm b = ([], false) := by rw [hvx, hg, Hrel.out hg]
    have Hv := hide hv0
    clear hg hvx hv0 Hyes Hno Hrel
    rcases Decidable.em (z = 0) with hz0 | hz0
    · have hxn : x ≠ nm := hbad.resolve_left (fun g => g hz0)
      obtain ⟨f1, f2⟩ := ne_names hxn
      subst hz0
      clear hbad hxn
      go_wp2
      go_ret
      exact ⟨_, rfl, .inr ⟨Hv.out, rfl⟩, hw3⟩
    · have e1 : (z == 0) = false := beq_eq_false_iff_ne.2 hz0
      have e2 : (z != 0) = true := bne_iff_ne.2 hz0
      clear hbad hz0
      go_wp2
      go_ret
      exact ⟨_, rfl, .inr ⟨Hv.out, rfl⟩, hw3⟩
  · have hz0 : z = 0 := Decidable.byContradiction fun g => hbad (.inl g)
    have hxn : x = nm := Decidable.byContradiction fun g => hbad (.inr g)
    have Hg := hide (Hyes.out hz0 hxn)
    have Hv := hide hvx
    subst hz0 hxn
    obtain ⟨f1, f2⟩ := eq_names_yes x
    clear hbad Hno Hyes hvx
    go_wp2
    go_ret
    refine ⟨_, rfl, .inl ⟨by rw [Hv.out]; exact Hg.out.1, A2, n2, c2, B2, rs2, rfl, ?_⟩, hw3⟩
    rw [Hv.out]
    show Rls _ _ _ _ _ (relE _ _)
    rw [Hg.out.2]
    exact hR3
end Go.Proofs.YtmoeilkaadnnoaaGreatDoor.Index
/-
  Contracts of the document's index: at, Has, Get, Names and Same. Condition: lists and names of a length that may be walked.
-/
namespace Go.Proofs.YtmoeilkaadnnoaaGreatDoor.Index
open Go Go.RowKit Go.Lib Go.Proofs.YtmoeilkaadnnoaaGreatDoor.Span Go.Proofs.YtmoeilkaadnnoaaGreatDoor.Need Go.Proofs.YtmoeilkaadnnoaaGreatDoor.Mani Go.Proofs.YtmoeilkaadnnoaaGreatDoor.Wire Go.Proofs.YtmoeilkaadnnoaaGreatDoor.Depot
set_option linter.unusedVariables false
/-- The place of a name, from i on. -/
def idxX : List Kn → ByteArray → Int → Int
  | [], _, _ => -1
  | q :: t, n, i => if q.1 = n then i else idxX t n (i + 1)
theorem idxX_drop {l : List Kn} {n : ByteArray} {i : Nat} {q : Kn} (h : l[i]? = some q) : idxX (l.drop i) n i = if q.1 = n then (i : Int) else idxX (l.drop (i + 1)) n ((i : Int) + 1) := by
  obtain ⟨hi, e⟩ := List.getElem?_eq_some_iff.1 h
  rw [List.drop_eq_getElem_cons hi, e]
  rfl
theorem idxX_none : ∀ {l : List Kn} {n : ByteArray} (i : Int), atX l n = none → idxX l n i = -1
  | [], _, _, _ => rfl
  | q :: t, n, i, h => by
    rw [atX] at h
    split at h
    · cases h
    · rename_i e
      rw [idxX, if_neg e]
      exact idxX_none (i + 1) h
theorem idxX_some : ∀ {l : List Kn} {n : ByteArray} {k : Kv} (i : Nat), atX l n = some k → ∃ j : Nat, idxX l n i = ((i + j : Nat) : Int) ∧ l[j]? = some (n, k)
  | [], _, _, _, h => by cases h
  | q :: t, n, k, i, h => by
    rw [atX] at h
    split at h
    · rename_i e
      injection h with h
      refine ⟨0, by rw [idxX, if_pos e]; rfl, ?_⟩
      subst e h
      rfl
    · rename_i e
      obtain ⟨j, h1, h2⟩ := idxX_some (i + 1) h
      refine ⟨j + 1, ?_, by simpa using h2⟩
      rw [idxX, if_neg e]
      have e2 : ((i + 1 : Nat) : Int) = (i : Int) + 1 := by omega
      rw [e2] at h1
      rw [h1]
      congr 1
      omega
theorem namesX_take {l : List Kn} {i : Nat} {q : Kn} (h : l[i]? = some q) : namesX (l.take (i + 1)) = namesX (l.take i) ++ [q.1] := by
  unfold namesX
  rw [take_snoc' l i q h, List.map_append]
  rfl
end Go.Proofs.YtmoeilkaadnnoaaGreatDoor.Index
