/-
  Some texts of this claim, one behind the other: DepotManifest, DepotRefManifest. What each proves, and its condition, stands at its head.
-/
import Derived.Test.YtdmejcfnolhplaaGreatZA31
import Derived.Shelf.Small.Strs
import Derived.Test.YtdmejcfnolhplaaGreatZA30
import Derived.Test.YtdmejcfnolhplaaGreatZA9
/-
  The contracts of the program's Manifest and the document's Read and Manifest: a name's manifest, and whether it is broken. Condition: entries that may be; a name of at most 1,000,000,000 bytes.
-/
namespace Go.Proofs.YtdmejcfnolhplaaGreat.Depot
open Go Go.RowKit Go.Lib Go.Proofs.YtdmejcfnolhplaaGreat.Span Go.Proofs.YtdmejcfnolhplaaGreat.Need Go.Proofs.YtdmejcfnolhplaaGreat.Mani Go.Proofs.YtdmejcfnolhplaaGreat.Wire
set_option linter.unusedVariables false
def ManR (w : World) (nm : ByteArray) (b : List UInt8) (e : Ending) (w' : World) : Prop :=
  ∃ A n c B rs, e = .returned (.tuple #[.agg #[.string nm, .slice A n c], .bool (goodE nm b)]) ∧ Rls w' B (.slice A n c) n rs (relE nm b) ∧ Below w.heap.size w w'
theorem man_bad {w w' : World} {nm : ByteArray} {b : List UInt8} {e : Ending} (hg : goodE nm b = false) (he : e = .returned (.tuple #[.agg #[.string nm, .slice none 0 0], .bool false])) (hb : Below w.heap.size w w') : ManR w nm b e w' := by
  refine ⟨none, 0, 0, 0, [], by rw [hg]; exact he, ?_, hb⟩
  have : relE nm b = [] := by unfold relE; rw [hg]; rfl
  rw [this]
  exact Rls.nil_ _ _
theorem good_no {nm : ByteArray} {b : List UInt8} (h : errB b ≠ 0 ∨ (readB b).1 ≠ nm) : goodE nm b = false := by
  unfold goodE
  rcases h with h | h
  · rw [decide_eq_false h]; rfl
  · rw [decide_eq_false h]; simp
theorem good_yes {nm : ByteArray} {b : List UInt8} (h : errB b = 0) (h1 : (readB b).1 = nm) : goodE nm b = true ∧ relE nm b = (readB b).2 := by
  have hg : goodE nm b = true := by unfold goodE; rw [decide_eq_true h, decide_eq_true h1]; rfl
  exact ⟨hg, by unfold relE; rw [if_pos hg]⟩
theorem ne_names {a b : ByteArray} (h : a ≠ b) : (a.toList == b.toList) = false ∧ (a.toList != b.toList) = true := by
  have h1 := eq_names a b
  rw [decide_eq_false h] at h1
  exact ⟨h1, by unfold bne; rw [h1]; rfl⟩
theorem eq_names_yes (a : ByteArray) : (a.toList == a.toList) = true ∧ (a.toList != a.toList) = false := ⟨beq_self_eq_true _, bne_self_eq_false _⟩
end Go.Proofs.YtdmejcfnolhplaaGreat.Depot
/-
  The contracts of the document's Read and Manifest: a name's manifest, and whether it is broken. Condition: entries as many as may be walked; a name of at most 1,000,000,000 bytes.
-/
namespace Go.Proofs.YtdmejcfnolhplaaGreat.Depot
open Go Go.RowKit Go.Lib Go.Proofs.YtdmejcfnolhplaaGreat.Span Go.Proofs.YtdmejcfnolhplaaGreat.Need Go.Proofs.YtdmejcfnolhplaaGreat.Mani Go.Proofs.YtdmejcfnolhplaaGreat.Wire
set_option linter.unusedVariables false
set_option maxHeartbeats 4000000 in
set_option maxRecDepth 100000 in
theorem refReadD_any (nm : ByteArray) (b : List UInt8) (w : World) :
    Calls Tryz.prog 46 #[.string nm, .string (str b)] w (ManR w nm b) := by
  have HR := hide (fun (wx : World) => refReadR_any b wx)
  unfold ReadsR at HR
  have Hno := hide (@good_no nm b)
  have Hyes := hide (@good_yes nm b)
  have b0 := Blk.new w 100 #[.string ⟨#[]⟩, .slice none 0 0]
  have hw0 : Below w.heap.size w (w.alloc (.cells #[.string ⟨#[]⟩, .slice none 0 0] 100)) := alloc_b _
  generalize hx : (readB b).1 = x at *
  generalize hy : (readB b).2 = y at *
  generalize hz : errB b = z at *
  go_enter Tryz.func46, Tryz.ntmps46
  go_upto_region 2 with (first
    | (go_at_call 72
       refine (HR.out _).mono ?_
       rintro e w2 ⟨A2, n2, c2, B2, rs2, rfl, hR2, hb2⟩
       have b2 := b0.below hb2 b0.lt
       have hw2 := hw0.trans (hb2.mono hw0.size)))
  obtain ⟨W, hW⟩ : ∃ W, W = w2.alloc (.cells #[.string x, .slice A2 n2 c2] 100) := ⟨_, rfl⟩
  have m3 : Blk W w2.heap.size 100 #[.string x, .slice A2 n2 c2] := by rw [hW]; exact Blk.new _ _ _
  have b3 : Blk W w.heap.size 100 #[.string ⟨#[]⟩, .slice none 0 0] := by rw [hW]; exact b2.alloc _
  have hR3 : Rls W B2 (.slice A2 n2 c2) n2 rs2 y := by rw [hW]; exact hR2.below (alloc_b _)
  have hw3 : Below w.heap.size w W := by rw [hW]; exact hw2.alloc hw2.size _
  rw [← hW]
  clear hW b0 b2 hw0 hw2 hb2 hR2 HR
  have hw3s := hw3.size
  have m0 := (m3.cell 0).trans (show (#[Value.string x, .slice A2 n2 c2] : Array Value)[0]? = some (.string x) from rfl)
  have m1 := (m3.cell 1).trans (show (#[Value.string x, .slice A2 n2 c2] : Array Value)[1]? = some (.slice A2 n2 c2) from rfl)
  have fz0 := b3.frozen 0
  have fz1 := b3.frozen 1
  have k0 := (b3.cell 0).trans (show (#[Value.string ⟨#[]⟩, .slice none 0 0] : Array Value)[0]? = some (.string ⟨#[]⟩) from rfl)
  have k1 := (b3.cell 1).trans (show (#[Value.string ⟨#[]⟩, .slice none 0 0] : Array Value)[1]? = some (.slice none 0 0) from rfl)
  by_cases hbad : z ≠ 0 ∨ x ≠ nm
  · have hg := Hno.out hbad
    have Hg := hide hg
    clear hg Hyes Hno
    rcases Decidable.em (z = 0) with hz0 | hz0
    · have hxn : x ≠ nm := hbad.resolve_left (fun g => g hz0)
      obtain ⟨f1, f2⟩ := ne_names hxn
      subst hz0
      clear hbad hxn
      go_wp2
      have hblk := (b3.set_ 0 (.string nm)).set_ 1 (.slice none 0 0)
      refine bodyPost_ret (results_blk_tmp rfl _ _ w.heap.size 100 _ (0, 0) _ (.bool false) rfl rfl hblk Tryz.underlying100 rfl mani_size) rfl ?_
      exact man_bad Hg.out rfl (set_two_below hw3 _ (Nat.le_refl _) _ _)
    · have e1 : (z == 0) = false := beq_eq_false_iff_ne.2 hz0
      have e2 : (z != 0) = true := bne_iff_ne.2 hz0
      clear hbad hz0
      go_wp2
      have hblk := (b3.set_ 0 (.string nm)).set_ 1 (.slice none 0 0)
      refine bodyPost_ret (results_blk_tmp rfl _ _ w.heap.size 100 _ (0, 0) _ (.bool false) rfl rfl hblk Tryz.underlying100 rfl mani_size) rfl ?_
      exact man_bad Hg.out rfl (set_two_below hw3 _ (Nat.le_refl _) _ _)
  · have hz0 : z = 0 := Decidable.byContradiction fun g => hbad (.inl g)
    have hxn : x = nm := Decidable.byContradiction fun g => hbad (.inr g)
    have Hg := hide (Hyes.out hz0 hxn)
    subst hz0 hxn
    obtain ⟨f1, f2⟩ := eq_names_yes x
    clear hbad Hno Hyes
    go_wp2
    have hblk := (b3.set_ 0 (.string x)).set_ 1 (.slice A2 n2 c2)
    have hR4 := hR3.far (farT_blk b3 (by decide)) (farT_blk b3 (by decide)) (farT_blk b3 (by decide)) (set_two_only W w.heap.size (.string x) (.slice A2 n2 c2))
    have hlr := Hg.out.2
    rw [← hlr] at hR4
    refine bodyPost_ret (results_blk_tmp rfl _ _ w.heap.size 100 _ (0, 0) _ (.bool true) rfl rfl hblk Tryz.underlying100 rfl mani_size) rfl ?_
    exact ⟨A2, n2, c2, B2, rs2, by rw [Hg.out.1]; rfl, hR4, set_two_below hw3 _ (Nat.le_refl _) _ _⟩
end Go.Proofs.YtdmejcfnolhplaaGreat.Depot
