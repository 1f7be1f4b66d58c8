/-
  Some texts of this claim, one behind the other: DepotManifest, IndexGet. What each proves, and its condition, stands at its head.
-/
import Derived.Test.YtdmejcfnolhplaaGreatZB29
import Derived.Shelf.Small.Strs
import Derived.Test.YtdmejcfnolhplaaGreatZB28
import Derived.Test.YtdmejcfnolhplaaGreatZB12
import Derived.Test.YtdmejcfnolhplaaGreatZB30
import Derived.Test.YtdmejcfnolhplaaGreatZB23
/-
  The contracts of the program's Manifest and the document's Read and Manifest: a name's manifest, and whether it is broken. Condition: entries that may be; a name of at most 1,000,000,000 bytes.
-/
namespace Go.Proofs.YtdmejcfnolhplaaGreat.Depot
open Go Go.RowKit Go.Lib Go.Proofs.YtdmejcfnolhplaaGreat.Span Go.Proofs.YtdmejcfnolhplaaGreat.Need Go.Proofs.YtdmejcfnolhplaaGreat.Mani Go.Proofs.YtdmejcfnolhplaaGreat.Wire
set_option linter.unusedVariables false
theorem good_no {nm : ByteArray} {b : List UInt8} (h : errB b ≠ 0 ∨ (readB b).1 ≠ nm) : goodE nm b = false := by
  unfold goodE
  rcases h with h | h
  · rw [decide_eq_false h]; rfl
  · rw [decide_eq_false h]; simp
theorem good_yes {nm : ByteArray} {b : List UInt8} (h : errB b = 0) (h1 : (readB b).1 = nm) : goodE nm b = true ∧ relE nm b = (readB b).2 := by
  have hg : goodE nm b = true := by unfold goodE; rw [decide_eq_true h, decide_eq_true h1]; rfl
  exact ⟨hg, by unfold relE; rw [if_pos hg]⟩
theorem ne_names {a b : ByteArray} (h : a ≠ b) : (a.toList == b.toList) = false ∧ (a.toList != b.toList) = true := by
  have h1 := eq_names a b
  rw [decide_eq_false h] at h1
  exact ⟨h1, by unfold bne; rw [h1]; rfl⟩
theorem eq_names_yes (a : ByteArray) : (a.toList == a.toList) = true ∧ (a.toList != a.toList) = false := ⟨beq_self_eq_true _, bne_self_eq_false _⟩
end Go.Proofs.YtdmejcfnolhplaaGreat.Depot
/-
  Contracts of the program's Get and read: a manifest that is known, and whether it is good; what a body is as a name's. Condition: a name of at most 1,000,000,000 bytes.
-/
namespace Go.Proofs.YtdmejcfnolhplaaGreat.Index
open Go Go.RowKit Go.Lib Go.Proofs.YtdmejcfnolhplaaGreat.Span Go.Proofs.YtdmejcfnolhplaaGreat.Need Go.Proofs.YtdmejcfnolhplaaGreat.Mani Go.Proofs.YtdmejcfnolhplaaGreat.Wire Go.Proofs.YtdmejcfnolhplaaGreat.Depot Go.Proofs.YtdmejcfnolhplaaGreat.MapV
set_option linter.unusedVariables false
def Gots (w : World) (nm : ByteArray) (k : Kv) (e : Ending) (w' : World) : Prop :=
  ∃ A n c B rs, e = .returned (.tuple #[.agg #[.string nm, .slice A n c], .bool k.2]) ∧ Rls w' B (.slice A n c) n rs k.1 ∧ Below w.heap.size w w'
theorem assert_whole (x : Value) (w : World) : (Instr.typeAssert (.iface 126 x) 95 126 true).run Tryz.prog w = .ok (.tuple #[x, .bool true]) w := by
  simp [Instr.typeAssert, run_underlying Tryz.underlying126]
theorem zero_whole (w : World) : (zeroValue 126).run Tryz.prog w = .ok (.agg #[.string ⟨#[]⟩, .slice none 0 0]) w := by kernel_rfl
theorem assert_broken (x : Value) (w : World) : (Instr.typeAssert (.iface 125 x) 95 126 true).run Tryz.prog w = .ok (.tuple #[.agg #[.string ⟨#[]⟩, .slice none 0 0], .bool false]) w := by
  simp [Instr.typeAssert, run_underlying Tryz.underlying126, zero_whole w]
theorem assert_nil (w : World) : (Instr.typeAssert .nilIface 95 126 true).run Tryz.prog w = .ok (.tuple #[.agg #[.string ⟨#[]⟩, .slice none 0 0], .bool false]) w := by
  simp [Instr.typeAssert, run_underlying Tryz.underlying126, zero_whole w]
theorem found_told {w : World} {v : Value} {nm : ByteArray} {o : Option Kv} (h : Found w v nm o) :
    (∃ A n c B rs, (o.getD ([], false)).2 = true ∧ (∀ wx, (Instr.typeAssert v 95 126 true).run Tryz.prog wx = .ok (.tuple #[.agg #[.string nm, .slice A n c], .bool true]) wx) ∧ Rls w B (.slice A n c) n rs (o.getD ([], false)).1) ∨
    (o.getD ([], false) = ([], false) ∧ ∀ wx, (Instr.typeAssert v 95 126 true).run Tryz.prog wx = .ok (.tuple #[.agg #[.string ⟨#[]⟩, .slice none 0 0], .bool false]) wx) := by
  rcases h with ⟨rfl, rfl⟩ | ⟨k, rfl, ⟨e, A, n, c, B, rs, rfl, hr⟩ | ⟨rfl, rfl⟩⟩
  · exact .inr ⟨rfl, assert_nil⟩
  · exact .inl ⟨A, n, c, B, rs, e, assert_whole _, hr⟩
  · exact .inr ⟨rfl, assert_broken _⟩
set_option maxHeartbeats 4000000 in
set_option maxRecDepth 100000 in
theorem get_any (g : Nat) (mo : Option Nat) (l : List Kn) (nm : ByteArray) (w : World) (h : Idx w g mo l) (hl : FineX l) (hnm : nm.size ≤ 1000000000) :
    Calls Tryz.prog 76 #[.pointer (some ⟨g, 0, none⟩), .string nm] w (Gots w nm (getX l nm)) := by
  have HO := hide (fun (wx : World) (hb : Below w.heap.size w wx) => of_any g mo l nm wx (h.below hb) hnm)
  have HC := hide (fun wx => Label.clone_any nm wx hnm)
  have HM := hide (fun (A : Option Addr) (n c : Nat) (wx : World) (hx : RlOn wx A n (getX l nm).1) => cloneR_any nm (getX l nm).1 A n c wx hx (hl.get nm) hnm)
  have b0 := Blk.new w 100 #[.string ⟨#[]⟩, .slice none 0 0]
  have hw0 : Below w.heap.size w (w.alloc (.cells #[.string ⟨#[]⟩, .slice none 0 0] 100)) := alloc_b _
  have hk : getX l nm = (atX l nm).getD ([], false) := rfl
  clear h hl hnm
  generalize getX l nm = k at *
  go_enter Tryz.func76, Tryz.ntmps76
  go_upto_region 1 with fail
  generalize hW0 : w.alloc (.cells #[.string ⟨#[]⟩, .slice none 0 0] 100) = W0 at *
  clear hW0
  have HO2 := hide (HO.out W0 hw0)
  have hw0s := hw0.size
  clear HO
  go_wp2_with (first
    | (go_at_call 69
       refine HO2.out.mono ?_
       rintro e w1 ⟨v, rfl, rfl, hf⟩
       rcases found_told hf with ⟨A, n, c, B, rs, ek, hta, hr⟩ | ⟨ek, hta⟩))
  · rw [← hk] at ek hr
    obtain ⟨r, b⟩ := k
    simp only at ek hr HM
    subst ek
    clear hk hf HO2 HC
    have hr1 := hide (hr.below (alloc_b (.cells #[.string nm, .slice A n c] 126)))
    have b1 := b0.alloc (.cells #[.string nm, .slice A n c] 126)
    have hw1 := hw0.alloc hw0s (.cells #[.string nm, .slice A n c] 126)
    clear hr
    go_wp2_with (first
      | (go_at_call 111
         refine (HM.out A n c _ hr1.out.on).mono ?_
         rintro e w2 ⟨A2, c2, B2, rs2, rfl, hr2, hb2⟩
         have b2 := b1.below hb2 b1.lt
         have fz0 := b2.frozen 0
         have fz1 := b2.frozen 1
         have k0 := (b2.cell 0).trans (show (#[Value.string ⟨#[]⟩, .slice none 0 0] : Array Value)[0]? = some (.string ⟨#[]⟩) from rfl)
         have k1 := (b2.cell 1).trans (show (#[Value.string ⟨#[]⟩, .slice none 0 0] : Array Value)[1]? = some (.slice none 0 0) from rfl)
         have hw2 := hw1.trans (hb2.mono hw1.size)))
    have hblk := (b2.set_ 0 (.string nm)).set_ 1 (.slice A2 n c2)
    have hR4 := hr2.far (farT_blk b2 (by decide)) (farT_blk b2 (by decide)) (farT_blk b2 (by decide)) (set_two_only w2 w.heap.size (.string nm) (.slice A2 n c2))
    refine bodyPost_ret (results_blk_tmp rfl _ _ w.heap.size 100 _ (0, 0) _ (.bool true) rfl rfl hblk Tryz.underlying100 rfl mani_size) rfl ?_
    exact ⟨A2, n, c2, B2, rs2, rfl, hR4, set_two_below hw2 _ (Nat.le_refl _) _ _⟩
  · rw [← hk] at ek
    subst ek
    clear hk hf HO2 HM
    have b1 := b0.alloc (.cells #[.string ⟨#[]⟩, .slice none 0 0] 126)
    have hw1 := hw0.alloc hw0s (.cells #[.string ⟨#[]⟩, .slice none 0 0] 126)
    go_wp2_with (first
      | (go_at_call 37
         refine (HC.out _).mono ?_
         rintro e w2 ⟨rfl, hb2⟩
         have b2 := b1.below hb2 b1.lt
         have fz0 := b2.frozen 0
         have fz1 := b2.frozen 1
         have k0 := (b2.cell 0).trans (show (#[Value.string ⟨#[]⟩, .slice none 0 0] : Array Value)[0]? = some (.string ⟨#[]⟩) from rfl)
         have k1 := (b2.cell 1).trans (show (#[Value.string ⟨#[]⟩, .slice none 0 0] : Array Value)[1]? = some (.slice none 0 0) from rfl)
         have hw2 := hw1.trans (hb2.mono hw1.size)))
    have hblk := (b2.set_ 0 (.string nm)).set_ 1 (.slice none 0 0)
    refine bodyPost_ret (results_blk_tmp rfl _ _ w.heap.size 100 _ (0, 0) _ (.bool false) rfl rfl hblk Tryz.underlying100 rfl mani_size) rfl ?_
    exact ⟨none, 0, 0, 0, [], rfl, Rls.nil_ _ _, set_two_below hw2 _ (Nat.le_refl _) _ _⟩
set_option maxHeartbeats 4000000 in
set_option maxRecDepth 100000 in
theorem read_any (nm : ByteArray) (b : List UInt8) (A : Option Addr) (n c : Nat) (w : World) (hr : Reads w w.heap.size 1 A n (bcs b)) :
    Calls Tryz.prog 44 #[.string nm, .slice A n c] w fun e w' => ∃ v, e = .returned v ∧ Kept w' v nm (valX nm b) ∧ Below w.heap.size w w' := by
  have HR := hide (readR_any A n c b w hr)
  unfold ReadsR at HR
  have Hno := hide (@good_no nm b)
  have Hyes := hide (@good_yes nm b)
  have hvx : valX nm b = (relE nm b, goodE nm b) := rfl
  have hrel : goodE nm b = false → relE nm b = [] := fun hg => by unfold relE; rw [hg]; rfl
  have Hrel := hide hrel
  clear hrel hr
  generalize hx : (readB b).1 = x at *
  generalize hy : (readB b).2 = y at *
  generalize hz : errB b = z at *
  go_enter Tryz.func44, Tryz.ntmps44
  go_upto_region 2 with (first
    | (go_at_call 70
       refine HR.out.mono ?_
       rintro e w2 ⟨A2, n2, c2, B2, rs2, rfl, hR2, hb2⟩))
  obtain ⟨W, hW⟩ : ∃ W, W = w2.alloc (.cells #[.string x, .slice A2 n2 c2] 100) := ⟨_, rfl⟩
  have m3 : Blk W w2.heap.size 100 #[.string x, .slice A2 n2 c2] := by rw [hW]; exact Blk.new _ _ _
  have hR3 : Rls W B2 (.slice A2 n2 c2) n2 rs2 y := by rw [hW]; exact hR2.below (alloc_b _)
  have hw3 : Below w.heap.size w W := by rw [hW]; exact hb2.alloc hb2.size _
  rw [← hW]
  clear hW hb2 hR2 HR
  have m0 := (m3.cell 0).trans (show (#[Value.string x, .slice A2 n2 c2] : Array Value)[0]? = some (.string x) from rfl)
  have m1 := (m3.cell 1).trans (show (#[Value.string x, .slice A2 n2 c2] : Array Value)[1]? = some (.slice A2 n2 c2) from rfl)
  by_cases hbad : z ≠ 0 ∨ x ≠ nm
  · have hg := Hno.out hbad
    have hv0 : valX nm b = ([], false) := by rw [hvx, hg, Hrel.out hg]
    have Hv := hide hv0
    clear hg hvx hv0 Hyes Hno Hrel
    rcases Decidable.em (z = 0) with hz0 | hz0
    · have hxn : x ≠ nm := hbad.resolve_left (fun g => g hz0)
      obtain ⟨f1, f2⟩ := ne_names hxn
      subst hz0
      clear hbad hxn
      go_wp2
      go_ret
      exact ⟨_, rfl, .inr ⟨Hv.out, rfl⟩, hw3⟩
    · have e1 : (z == 0) = false := beq_eq_false_iff_ne.2 hz0
      have e2 : (z != 0) = true := bne_iff_ne.2 hz0
      clear hbad hz0
      go_wp2
      go_ret
      exact ⟨_, rfl, .inr ⟨Hv.out, rfl⟩, hw3⟩
  · have hz0 : z = 0 := Decidable.byContradiction fun g => hbad (.inl g)
    have hxn : x = nm := Decidable.byContradiction fun g => hbad (.inr g)
    have Hg := hide (Hyes.out hz0 hxn)
    have Hv := hide hvx
    subst hz0 hxn
    obtain ⟨f1, f2⟩ := eq_names_yes x
    clear hbad Hno Hyes hvx
    go_wp2
    go_ret
    refine ⟨_, rfl, .inl ⟨by rw [Hv.out]; exact Hg.out.1, A2, n2, c2, B2, rs2, rfl, ?_⟩, hw3⟩
    rw [Hv.out]
    show Rls _ _ _ _ _ (relE _ _)
    rw [Hg.out.2]
    exact hR3
end Go.Proofs.YtdmejcfnolhplaaGreat.Index
