/-
  Some texts of this claim, one behind the other: DepotManifest, DepotAwake, DepotRefManifest, DepotBroken. What each proves, and its condition, stands at its head.
-/
import Derived.Test.YtbagekkcakfhgaaZ28
import Derived.Test.YtbagekkcakfhgaaZ29
import Derived.Test.YtbagekkcakfhgaaZ11
/-
  The contracts of the program's Manifest and the document's Read and Manifest: a name's manifest, and whether it is broken. Condition: entries that may be; a name of at most 1,000,000,000 bytes.
-/
namespace Go.Proofs.Ytbagekkcakfhgaa.Depot
open Go Go.RowKit Go.Lib Go.Proofs.Ytbagekkcakfhgaa.Span Go.Proofs.Ytbagekkcakfhgaa.Need Go.Proofs.Ytbagekkcakfhgaa.Mani Go.Proofs.Ytbagekkcakfhgaa.Wire
set_option linter.unusedVariables false
/-- It answers this name's manifest, and whether it is good; the releases lie in rows of the call's own. -/
def ManR (w : World) (nm : ByteArray) (b : List UInt8) (e : Ending) (w' : World) : Prop :=
  ∃ A n c B rs, e = .returned (.tuple #[.agg #[.string nm, .slice A n c], .bool (goodE nm b)]) ∧ Rls w' B (.slice A n c) n rs (relE nm b) ∧ Below w.heap.size w w'
theorem man_bad {w w' : World} {nm : ByteArray} {b : List UInt8} {e : Ending} (hg : goodE nm b = false) (he : e = .returned (.tuple #[.agg #[.string nm, .slice none 0 0], .bool false])) (hb : Below w.heap.size w w') : ManR w nm b e w' := by
  refine ⟨none, 0, 0, 0, [], by rw [hg]; exact he, ?_, hb⟩
  have : relE nm b = [] := by unfold relE; rw [hg]; rfl
  rw [this]
  exact Rls.nil_ _ _
theorem good_no {nm : ByteArray} {b : List UInt8} (h : errB b ≠ 0 ∨ (readB b).1 ≠ nm) : goodE nm b = false := by
  unfold goodE
  rcases h with h | h
  · rw [decide_eq_false h]; rfl
  · rw [decide_eq_false h]; simp
theorem good_yes {nm : ByteArray} {b : List UInt8} (h : errB b = 0) (h1 : (readB b).1 = nm) : goodE nm b = true ∧ relE nm b = (readB b).2 := by
  have hg : goodE nm b = true := by unfold goodE; rw [decide_eq_true h, decide_eq_true h1]; rfl
  exact ⟨hg, by unfold relE; rw [if_pos hg]⟩
theorem ne_names {a b : ByteArray} (h : a ≠ b) : (a.toList == b.toList) = false ∧ (a.toList != b.toList) = true := by
  have h1 := eq_names a b
  rw [decide_eq_false h] at h1
  exact ⟨h1, by unfold bne; rw [h1]; rfl⟩
theorem eq_names_yes (a : ByteArray) : (a.toList == a.toList) = true ∧ (a.toList != a.toList) = false := ⟨beq_self_eq_true _, bne_self_eq_false _⟩
set_option maxHeartbeats 4000000 in
set_option maxRecDepth 100000 in
theorem man_any (nm : ByteArray) (l : List En) (A : Option Addr) (n c : Nat) (w : World) (h : EnOn w A n l) (hr : RisesE l) (hl : ∀ q ∈ l, q.2.length ≤ 8192) (hn : n ≤ 1000) (hnm : nm.size ≤ 1000000000) :
    Calls Try.prog 10 #[.slice A n c, .string nm] w (ManR w nm (bodyE l nm)) := by
  have HB := hide (fun (wx : World) (hb : Below w.heap.size w wx) => body_any nm l A n c wx (h.on hb) hr hl hn hnm)
  unfold MakesB at HB
  have HR := hide (fun A' n' c' (wx : World) (hx : Reads wx wx.heap.size 1 A' n' (bcs (bodyE l nm))) => readR_any A' n' c' (bodyE l nm) wx hx)
  unfold ReadsR at HR
  have HC := hide (fun wx => Label.clone_any nm wx hnm)
  generalize bodyE l nm = b at *
  have Hno := hide (@good_no nm b)
  have Hyes := hide (@good_yes nm b)
  have b0 := Blk.new w 28 #[.string ⟨#[]⟩, .slice none 0 0]
  have hw0 : Below w.heap.size w (w.alloc (.cells #[.string ⟨#[]⟩, .slice none 0 0] 28)) := alloc_b _
  clear h hr hl hn hnm
  generalize hx : (readB b).1 = x at *
  generalize hy : (readB b).2 = y at *
  generalize hz : errB b = z at *
  go_enter Try.func10, Try.ntmps10
  go_upto_region 2 with (first
    | (go_at_call 12
       refine (HB.out _ hw0).mono ?_
       rintro e w1 ⟨A1, n1, c1, rfl, hn1, hb1⟩
       have b1 := b0.below hb1 b0.lt
       have hw1 := hw0.trans (hb1.mono hw0.size))
    | (go_at_call 25
       refine (HR.out A1 n1 c1 w1 hn1.2.2.2).mono ?_
       rintro e w2 ⟨A2, n2, c2, B2, rs2, rfl, hR2, hb2⟩
       have b2 := b1.below hb2 b1.lt
       have hw2 := hw1.trans (hb2.mono hw1.size)))
  obtain ⟨W, hW⟩ : ∃ W, W = w2.alloc (.cells #[.string x, .slice A2 n2 c2] 28) := ⟨_, rfl⟩
  have m3 : Blk W w2.heap.size 28 #[.string x, .slice A2 n2 c2] := by rw [hW]; exact Blk.new _ _ _
  have b3 : Blk W w.heap.size 28 #[.string ⟨#[]⟩, .slice none 0 0] := by rw [hW]; exact b2.alloc _
  have hR3 : Rls W B2 (.slice A2 n2 c2) n2 rs2 y := by rw [hW]; exact hR2.below (alloc_b _)
  have hw3 : Below w.heap.size w W := by rw [hW]; exact hw2.alloc hw2.size _
  rw [← hW]
  clear hW b0 b1 b2 hw0 hw1 hw2 hb1 hb2 hn1 hR2 HB HR
  have hw3s := hw3.size
  have m0 := (m3.cell 0).trans (show (#[Value.string x, .slice A2 n2 c2] : Array Value)[0]? = some (.string x) from rfl)
  have m1 := (m3.cell 1).trans (show (#[Value.string x, .slice A2 n2 c2] : Array Value)[1]? = some (.slice A2 n2 c2) from rfl)
  by_cases hbad : z ≠ 0 ∨ x ≠ nm
  · have hg := Hno.out hbad
    have Hg := hide hg
    clear hg Hyes Hno
    have hC2 := HC.out W
    rcases Decidable.em (z = 0) with hz0 | hz0
    · have hxn : x ≠ nm := hbad.resolve_left (fun g => g hz0)
      obtain ⟨f1, f2⟩ := ne_names hxn
      subst hz0
      clear hbad hxn
      go_wp2_with (first
        | (go_at_call 26
           refine (HC.out _).mono ?_
           rintro e w4 ⟨rfl, hb4⟩
           have b4 := b3.below hb4 b3.lt
           have fz0 := b4.frozen 0
           have fz1 := b4.frozen 1
           have k0 := (b4.cell 0).trans (show (#[Value.string ⟨#[]⟩, .slice none 0 0] : Array Value)[0]? = some (.string ⟨#[]⟩) from rfl)
           have k1 := (b4.cell 1).trans (show (#[Value.string ⟨#[]⟩, .slice none 0 0] : Array Value)[1]? = some (.slice none 0 0) from rfl)
           have hw4 := hw3.trans (hb4.mono hw3s)))
      have hblk := (b4.set_ 0 (.string nm)).set_ 1 (.slice none 0 0)
      refine bodyPost_ret (results_blk_tmp rfl _ _ w.heap.size 28 _ (0, 0) _ (.bool false) rfl rfl hblk Try.underlying28 rfl mani_size) rfl ?_
      exact man_bad Hg.out rfl (set_two_below hw4 _ (Nat.le_refl _) _ _)
    · have e1 : (z == 0) = false := beq_eq_false_iff_ne.2 hz0
      have e2 : (z != 0) = true := bne_iff_ne.2 hz0
      clear hbad hz0
      go_wp2_with (first
        | (go_at_call 26
           refine (HC.out _).mono ?_
           rintro e w4 ⟨rfl, hb4⟩
           have b4 := b3.below hb4 b3.lt
           have fz0 := b4.frozen 0
           have fz1 := b4.frozen 1
           have k0 := (b4.cell 0).trans (show (#[Value.string ⟨#[]⟩, .slice none 0 0] : Array Value)[0]? = some (.string ⟨#[]⟩) from rfl)
           have k1 := (b4.cell 1).trans (show (#[Value.string ⟨#[]⟩, .slice none 0 0] : Array Value)[1]? = some (.slice none 0 0) from rfl)
           have hw4 := hw3.trans (hb4.mono hw3s)))
      have hblk := (b4.set_ 0 (.string nm)).set_ 1 (.slice none 0 0)
      refine bodyPost_ret (results_blk_tmp rfl _ _ w.heap.size 28 _ (0, 0) _ (.bool false) rfl rfl hblk Try.underlying28 rfl mani_size) rfl ?_
      exact man_bad Hg.out rfl (set_two_below hw4 _ (Nat.le_refl _) _ _)
  · have hz0 : z = 0 := Decidable.byContradiction fun g => hbad (.inl g)
    have hxn : x = nm := Decidable.byContradiction fun g => hbad (.inr g)
    have Hg := hide (Hyes.out hz0 hxn)
    subst hz0 hxn
    obtain ⟨f1, f2⟩ := eq_names_yes x
    clear hbad Hno Hyes
    have fz0 := b3.frozen 0
    have fz1 := b3.frozen 1
    have k0 := (b3.cell 0).trans (show (#[Value.string ⟨#[]⟩, .slice none 0 0] : Array Value)[0]? = some (.string ⟨#[]⟩) from rfl)
    have k1 := (b3.cell 1).trans (show (#[Value.string ⟨#[]⟩, .slice none 0 0] : Array Value)[1]? = some (.slice none 0 0) from rfl)
    go_wp2
    have hblk := (b3.set_ 0 (.string x)).set_ 1 (.slice A2 n2 c2)
    have hR4 := hR3.far (farT_blk b3 (by decide)) (farT_blk b3 (by decide)) (farT_blk b3 (by decide)) (set_two_only W w.heap.size (.string x) (.slice A2 n2 c2))
    have hlr := Hg.out.2
    rw [← hlr] at hR4
    refine bodyPost_ret (results_blk_tmp rfl _ _ w.heap.size 28 _ (0, 0) _ (.bool true) rfl rfl hblk Try.underlying28 rfl mani_size) rfl ?_
    exact ⟨A2, n2, c2, B2, rs2, by rw [Hg.out.1]; rfl, hR4, set_two_below hw3 _ (Nat.le_refl _) _ _⟩
end Go.Proofs.Ytbagekkcakfhgaa.Depot
/-
  The chapter's example (awake): it holds. No condition.
-/
namespace Go.Proofs.Ytbagekkcakfhgaa.Depot
open Go Go.RowKit Go.Lib Go.Proofs.Ytbagekkcakfhgaa.Span Go.Proofs.Ytbagekkcakfhgaa.Need Go.Proofs.Ytbagekkcakfhgaa.Mani Go.Proofs.Ytbagekkcakfhgaa.Wire
set_option linter.unusedVariables false
theorem body_one : bodyE [] (str [97]) = [1, 97, 0] := by rw [bodyE_none rfl]; exact put_one
theorem good_one : goodE (str [97]) [1, 97, 0] = true ∧ relE (str [97]) [1, 97, 0] = [] := by
  have := good_put ok_one
  rwa [put_one] at this
set_option maxHeartbeats 1600000 in
set_option maxRecDepth 100000 in
theorem awakeD_any (w : World) : Calls Try.prog 6 #[] w (Tells w (.bool true)) := by
  have HM := hide (fun wx => man_any (str [97]) [] none 0 0 wx (EnOn.nil _ _) List.Pairwise.nil (fun q hq => by cases hq) (by decide) (by decide))
  have HB := hide (fun wx => body_any (str [97]) [] none 0 0 wx (EnOn.nil _ _) List.Pairwise.nil (fun q hq => by cases hq) (by decide) (by decide))
  unfold ManR at HM
  unfold MakesB at HB
  rw [body_one] at HM HB
  rw [good_one.1, good_one.2] at HM
  unfold Tells
  go_enter Try.func6, Try.ntmps6
  go_wp2_with (first
    | (go_at_call 10
       refine (HM.out _).mono ?_
       rintro e w1 ⟨A1, n1, c1, B1, rs1, rfl, hR1, hb1⟩
       obtain rfl : n1 = 0 := by
         obtain ⟨A2, c2, _, _, h2⟩ := hR1.told
         exact h2.len.symm
       have bk := Blk.new w1 28 #[.string (str [97]), .slice A1 0 c1]
       have hbA : Below w.heap.size w (w1.alloc (.cells #[.string (str [97]), .slice A1 0 c1] 28)) := hb1.alloc hb1.size _)
    | (go_at_call 12
       refine (HB.out _).mono ?_
       rintro e w2 ⟨A2, n2, c2, rfl, hn2, hb2⟩
       have hcv := hn2.conv
       have hst : ((str [1, 97, 0]).toList == [1, 97, 0]) = true := by rw [str_toList]; rfl
       have hst2 : ((str [97]).toList == [97]) = true := by rw [str_toList]; rfl
       have b2 := bk.below hb2 bk.lt
       have k0 := (b2.cell 0).trans (show (#[Value.string (str [97]), .slice A1 0 c1] : Array Value)[0]? = some (.string (str [97])) from rfl)
       have k1 := (b2.cell 1).trans (show (#[Value.string (str [97]), .slice A1 0 c1] : Array Value)[1]? = some (.slice A1 0 c1) from rfl)
       have hw2 := hbA.trans (hb2.mono hbA.size)))
  go_ret
  exact ⟨rfl, hw2⟩
end Go.Proofs.Ytbagekkcakfhgaa.Depot
/-
  The contracts of the document's Read and Manifest: a name's manifest, and whether it is broken. Condition: entries as many as may be walked; a name of at most 1,000,000,000 bytes.
-/
namespace Go.Proofs.Ytbagekkcakfhgaa.Depot
open Go Go.RowKit Go.Lib Go.Proofs.Ytbagekkcakfhgaa.Span Go.Proofs.Ytbagekkcakfhgaa.Need Go.Proofs.Ytbagekkcakfhgaa.Mani Go.Proofs.Ytbagekkcakfhgaa.Wire
set_option linter.unusedVariables false
set_option maxHeartbeats 4000000 in
set_option maxRecDepth 100000 in
theorem refReadD_any (nm : ByteArray) (b : List UInt8) (w : World) :
    Calls Try.prog 27 #[.string nm, .string (str b)] w (ManR w nm b) := by
  have HR := hide (fun (wx : World) => refReadR_any b wx)
  unfold ReadsR at HR
  have Hno := hide (@good_no nm b)
  have Hyes := hide (@good_yes nm b)
  have b0 := Blk.new w 28 #[.string ⟨#[]⟩, .slice none 0 0]
  have hw0 : Below w.heap.size w (w.alloc (.cells #[.string ⟨#[]⟩, .slice none 0 0] 28)) := alloc_b _
  generalize hx : (readB b).1 = x at *
  generalize hy : (readB b).2 = y at *
  generalize hz : errB b = z at *
  go_enter Try.func27, Try.ntmps27
  go_upto_region 2 with (first
    | (go_at_call 44
       refine (HR.out _).mono ?_
       rintro e w2 ⟨A2, n2, c2, B2, rs2, rfl, hR2, hb2⟩
       have b2 := b0.below hb2 b0.lt
       have hw2 := hw0.trans (hb2.mono hw0.size)))
  obtain ⟨W, hW⟩ : ∃ W, W = w2.alloc (.cells #[.string x, .slice A2 n2 c2] 28) := ⟨_, rfl⟩
  have m3 : Blk W w2.heap.size 28 #[.string x, .slice A2 n2 c2] := by rw [hW]; exact Blk.new _ _ _
  have b3 : Blk W w.heap.size 28 #[.string ⟨#[]⟩, .slice none 0 0] := by rw [hW]; exact b2.alloc _
  have hR3 : Rls W B2 (.slice A2 n2 c2) n2 rs2 y := by rw [hW]; exact hR2.below (alloc_b _)
  have hw3 : Below w.heap.size w W := by rw [hW]; exact hw2.alloc hw2.size _
  rw [← hW]
  clear hW b0 b2 hw0 hw2 hb2 hR2 HR
  have hw3s := hw3.size
  have m0 := (m3.cell 0).trans (show (#[Value.string x, .slice A2 n2 c2] : Array Value)[0]? = some (.string x) from rfl)
  have m1 := (m3.cell 1).trans (show (#[Value.string x, .slice A2 n2 c2] : Array Value)[1]? = some (.slice A2 n2 c2) from rfl)
  have fz0 := b3.frozen 0
  have fz1 := b3.frozen 1
  have k0 := (b3.cell 0).trans (show (#[Value.string ⟨#[]⟩, .slice none 0 0] : Array Value)[0]? = some (.string ⟨#[]⟩) from rfl)
  have k1 := (b3.cell 1).trans (show (#[Value.string ⟨#[]⟩, .slice none 0 0] : Array Value)[1]? = some (.slice none 0 0) from rfl)
  by_cases hbad : z ≠ 0 ∨ x ≠ nm
  · have hg := Hno.out hbad
    have Hg := hide hg
    clear hg Hyes Hno
    rcases Decidable.em (z = 0) with hz0 | hz0
    · have hxn : x ≠ nm := hbad.resolve_left (fun g => g hz0)
      obtain ⟨f1, f2⟩ := ne_names hxn
      subst hz0
      clear hbad hxn
      go_wp2
      have hblk := (b3.set_ 0 (.string nm)).set_ 1 (.slice none 0 0)
      refine bodyPost_ret (results_blk_tmp rfl _ _ w.heap.size 28 _ (0, 0) _ (.bool false) rfl rfl hblk Try.underlying28 rfl mani_size) rfl ?_
      exact man_bad Hg.out rfl (set_two_below hw3 _ (Nat.le_refl _) _ _)
    · have e1 : (z == 0) = false := beq_eq_false_iff_ne.2 hz0
      have e2 : (z != 0) = true := bne_iff_ne.2 hz0
      clear hbad hz0
      go_wp2
      have hblk := (b3.set_ 0 (.string nm)).set_ 1 (.slice none 0 0)
      refine bodyPost_ret (results_blk_tmp rfl _ _ w.heap.size 28 _ (0, 0) _ (.bool false) rfl rfl hblk Try.underlying28 rfl mani_size) rfl ?_
      exact man_bad Hg.out rfl (set_two_below hw3 _ (Nat.le_refl _) _ _)
  · have hz0 : z = 0 := Decidable.byContradiction fun g => hbad (.inl g)
    have hxn : x = nm := Decidable.byContradiction fun g => hbad (.inr g)
    have Hg := hide (Hyes.out hz0 hxn)
    subst hz0 hxn
    obtain ⟨f1, f2⟩ := eq_names_yes x
    clear hbad Hno Hyes
    go_wp2
    have hblk := (b3.set_ 0 (.string x)).set_ 1 (.slice A2 n2 c2)
    have hR4 := hR3.far (farT_blk b3 (by decide)) (farT_blk b3 (by decide)) (farT_blk b3 (by decide)) (set_two_only W w.heap.size (.string x) (.slice A2 n2 c2))
    have hlr := Hg.out.2
    rw [← hlr] at hR4
    refine bodyPost_ret (results_blk_tmp rfl _ _ w.heap.size 28 _ (0, 0) _ (.bool true) rfl rfl hblk Try.underlying28 rfl mani_size) rfl ?_
    exact ⟨A2, n2, c2, B2, rs2, by rw [Hg.out.1]; rfl, hR4, set_two_below hw3 _ (Nat.le_refl _) _ _⟩
set_option maxHeartbeats 4000000 in
set_option maxRecDepth 100000 in
theorem refMan_any (nm : ByteArray) (l : List En) (A : Option Addr) (n c : Nat) (w : World) (h : EnOn w A n l) (hn : n ≤ 140737488355328) (hnm : nm.size ≤ 1000000000) :
    Calls Try.prog 11 #[.slice A n c, .string nm] w (ManR w nm (bodyE l nm)) := by
  have HB := hide (fun (wx : World) (hb : Below w.heap.size w wx) => refBody_any nm l A n c wx (h.on hb) hn hnm)
  unfold Tells at HB
  have HR := hide (fun (wx : World) => refReadD_any nm (bodyE l nm) wx)
  unfold ManR at HR ⊢
  generalize bodyE l nm = b at *
  have b0 := Blk.new w 28 #[.string ⟨#[]⟩, .slice none 0 0]
  have hw0 : Below w.heap.size w (w.alloc (.cells #[.string ⟨#[]⟩, .slice none 0 0] 28)) := alloc_b _
  clear h hn hnm
  generalize relE nm b = y at *
  generalize goodE nm b = g at *
  go_enter Try.func11, Try.ntmps11
  go_wp2_with (first
    | (go_at_call 13
       refine (HB.out _ hw0).mono ?_
       rintro e w1 ⟨rfl, hb1⟩
       have b1 := b0.below hb1 b0.lt
       have hw1 := hw0.trans (hb1.mono hw0.size))
    | (go_at_call 27
       refine (HR.out _).mono ?_
       rintro e w2 ⟨A2, n2, c2, B2, rs2, rfl, hR2, hb2⟩
       have b2 := b1.below hb2 b1.lt
       have hw2 := hw1.trans (hb2.mono hw1.size)
       have fz0 := b2.frozen 0
       have fz1 := b2.frozen 1
       have k0 := (b2.cell 0).trans (show (#[Value.string ⟨#[]⟩, .slice none 0 0] : Array Value)[0]? = some (.string ⟨#[]⟩) from rfl)
       have k1 := (b2.cell 1).trans (show (#[Value.string ⟨#[]⟩, .slice none 0 0] : Array Value)[1]? = some (.slice none 0 0) from rfl)))
  have hblk := (b2.set_ 0 (.string nm)).set_ 1 (.slice A2 n2 c2)
  have hR4 := hR2.far (farT_blk b2 (by decide)) (farT_blk b2 (by decide)) (farT_blk b2 (by decide)) (set_two_only w2 w.heap.size (.string nm) (.slice A2 n2 c2))
  refine bodyPost_ret (results_blk_tmp rfl _ _ w.heap.size 28 _ (0, 0) _ (.bool g) rfl rfl hblk Try.underlying28 rfl mani_size) rfl ?_
  exact ⟨A2, n2, c2, B2, rs2, rfl, hR4, set_two_below hw2 _ (Nat.le_refl _) _ _⟩
end Go.Proofs.Ytbagekkcakfhgaa.Depot
/-
  The contracts of the program's Broken and the document's: the names that are broken. Condition: entries that may be.
-/
namespace Go.Proofs.Ytbagekkcakfhgaa.Depot
open Go Go.RowKit Go.Lib Go.Proofs.Ytbagekkcakfhgaa.Span Go.Proofs.Ytbagekkcakfhgaa.Need Go.Proofs.Ytbagekkcakfhgaa.Mani Go.Proofs.Ytbagekkcakfhgaa.Wire
set_option linter.unusedVariables false
set_option maxHeartbeats 4000000 in
set_option maxRecDepth 100000 in
theorem broken_any (l : List En) (A : Option Addr) (n c : Nat) (w : World) (h : EnOn w A n l) (hr : RisesE l) (hl : ∀ q ∈ l, q.1.size ≤ 1000000000 ∧ q.2.length ≤ 8192) (hn : n ≤ 1000) :
    Calls Try.prog 16 #[.slice A n c] w (MakesT w (brokenE l l)) := by
  unfold MakesT
  obtain ⟨i0, hi0, hz0, hz1, hz2⟩ := info_parts info_str
  have Hlen := hide h.len
  have Hd := hide (fun i q => @brokenE_drop l l i q)
  have HM := hide (fun (x : ByteArray) (hx : x.size ≤ 1000000000) (wx : World) (hbx : Below w.heap.size w wx) => man_any x l A n c wx (h.on hbx) hr (fun q hq => (hl q hq).2) hn hx)
  unfold ManR at HM
  obtain ⟨M, hM⟩ : ∃ M, M = brokenE l l := ⟨_, rfl⟩
  rw [← hM]
  have HMe : Hid ([] ++ brokenE l (l.drop 0) = M) := hide (by rw [hM]; rfl)
  clear hM
  go_enter Try.func16, Try.ntmps16
  go_wp2
  go_loopw [3, 10] (fun u v wr => ∃ (i m : Nat) (out : List ByteArray), i ≤ n ∧ m ≤ i ∧ v = .int .i64 (i : Int) ∧ wr.ownsRow w.heap.size 9 1 u m (tcs out) ∧ Hid (out ++ brokenE l (l.drop i) = M) ∧ Below w.heap.size w wr) (fun _ v _ => n - (RowKit.intOf v).toNat)
  case atStart => exact ⟨0, 0, [], by omega, by omega, rfl, World.ownsRow_nil _ _ _ _, HMe, Below.refl _ _⟩
  case round =>
    obtain ⟨i, m, out, hi, hm, rfl, hown, hf, hb⟩ := hrel
    obtain ⟨Ax, cx, rfl, hcx, hrd⟩ := own_texts hown
    have hbs := hb.size
    by_cases hlt : i < n
    · obtain ⟨ad, q, A', n', c', rfl, hbl, hx, hs, c1, c2⟩ := PIn.at_ (EnIn.below h hb) hlt
      obtain ⟨hq1, hq2⟩ := hl q (List.mem_of_getElem? hx)
      have hd := hf.out
      rw [Hd.out i q hx, ← List.append_assoc] at hd
      obtain ⟨x, s⟩ := q
      simp only [] at c1 c2 hq1 hd
      have HM2 := hide (HM.out x hq1)
      have HC := hide (fun wx => Label.clone_any x wx hq1)
      have hbA : Below w.heap.size w (wr.alloc (.cells #[.string x, .slice A' n' c'] 46)) := hb.alloc hbs _
      have bA := Blk.new wr 46 #[.string x, .slice A' n' c']
      have kA := (bA.cell 0).trans (show (#[Value.string x, .slice A' n' c'] : Array Value)[0]? = some (.string x) from rfl)
      have hownA := own_below hown (alloc_b (.cells #[.string x, .slice A' n' c'] 46))
      clear hx hf hs hq1 hq2 Hd HM h hl hrd
      generalize goodE x (bodyE l x) = g at *
      generalize relE x (bodyE l x) = y at *
      cases g
      · rw [if_neg (by simp)] at hd
        have Hd2 := hide hd
        clear hd
        go_wp2_with (first
          | (go_at_call 26
             refine (HC.out _).mono ?_
             rintro e w3 ⟨rfl, hb3⟩
             have hown3 := own_below (own_below hown1 (alloc_b (.cells #[.string x, .slice A2 n2 c2] 28))) hb3
             have hw3 : Below w.heap.size w w3 := (hw1.alloc hw1.size (.cells #[.string x, .slice A2 n2 c2] 28)).trans (hb3.mono (by have := hw1.size; simp; omega))
             have hw3s := hw3.size)
          | (go_at_call 10
             refine (HM2.out _ hbA).mono ?_
             rintro e w1 ⟨A2, n2, c2, B2, rs2, rfl, hR2, hb1⟩
             have hown1 := own_below hownA hb1
             have b1 := bA.below hb1 bA.lt
             have k1 : ∀ o, (w1.alloc o).cell? ⟨wr.heap.size, 0, none⟩ = some (.string x) := fun o => ((b1.alloc o).cell 0).trans rfl
             have hw1 := hbA.trans (hb1.mono hbA.size))
          | (at_builtin
             refine wpList_append_any _ rfl (.tmp 23) (.tmp 27) _ rfl w.heap.size 9 i0 _ 1 16 Try.underlying36 hi0 hz0 hz1 hz2 rfl (by omega) _ m (tcs out) rfl (own_below hown3 (alloc_b (.cells #[.string x] 9))) _ _ 1 _ _ rfl (Reads.new1 w3 9 (.string x)) (one_str _) (by unfold maxLen; omega) (by omega) (by simp; omega) ?_
             intro v4 w4 hown4 hg4 _
             have hw4 : Below w.heap.size w w4 := (hw3.alloc hw3s _).grown hg4 (by simp; omega) (fun k hk => (hown3.lt k hk).1)
             have hown5 : w4.ownsRow w.heap.size 9 1 v4 (m + 1) (tcs (out ++ [x])) := by rw [tcs_append]; exact hown4))
        go_roundw
        case rel => exact ⟨i + 1, m + 1, out ++ [x], by omega, by omega, by go_num, hown5, Hd2, hw4⟩
        case measure => simp [RowKit.intOf]; omega
      · rw [if_pos rfl, List.append_nil] at hd
        have Hd2 := hide hd
        clear hd
        go_wp2_with (first
          | (go_at_call 10
             refine (HM2.out _ hbA).mono ?_
             rintro e w1 ⟨A2, n2, c2, B2, rs2, rfl, hR2, hb1⟩
             have hown1 := own_below hownA hb1
             have hw1 := hbA.trans (hb1.mono hbA.size)))
        have hown3 := own_below hown1 (alloc_b (.cells #[.string x, .slice A2 n2 c2] 28))
        have hw3 : Below w.heap.size w (w1.alloc (.cells #[.string x, .slice A2 n2 c2] 28)) := hw1.alloc hw1.size _
        go_roundw
        case rel => exact ⟨i + 1, m, out, by omega, by omega, by go_num, hown3, Hd2, hw3⟩
        case measure => simp [RowKit.intOf]; omega
    · have hi2 : i = n := by omega
      have hd := hf.out
      rw [List.drop_of_length_le (by have := Hlen.out; omega)] at hd
      have E : Hid (M = out) := hide (by rw [← hd]; simp [brokenE])
      clear hd hf
      go_wp2
      go_ret
      exact ⟨Ax, m, cx, rfl, by rw [E.out]; exact hrd, hb⟩
set_option maxHeartbeats 4000000 in
set_option maxRecDepth 100000 in
theorem refBroken_any (l : List En) (A : Option Addr) (n c : Nat) (w : World) (h : EnOn w A n l) (hl : ∀ q ∈ l, q.1.size ≤ 1000000000) (hn : n ≤ 1000000) :
    Calls Try.prog 17 #[.slice A n c] w (MakesT w (brokenE l l)) := by
  unfold MakesT
  obtain ⟨i0, hi0, hz0, hz1, hz2⟩ := info_parts info_str
  have Hlen := hide h.len
  have Hd := hide (fun i q => @brokenE_drop l l i q)
  have HM := hide (fun (x : ByteArray) (hx : x.size ≤ 1000000000) (wx : World) (hbx : Below w.heap.size w wx) => refMan_any x l A n c wx (h.on hbx) (by omega) hx)
  unfold ManR at HM
  obtain ⟨M, hM⟩ : ∃ M, M = brokenE l l := ⟨_, rfl⟩
  rw [← hM]
  have HMe : Hid ([] ++ brokenE l (l.drop 0) = M) := hide (by rw [hM]; rfl)
  clear hM
  go_enter Try.func17, Try.ntmps17
  go_wp2
  go_loopw [3, 4] (fun u v wr => ∃ (i m : Nat) (out : List ByteArray), i ≤ n ∧ m ≤ i ∧ v = .int .i64 (i : Int) ∧ wr.ownsRow w.heap.size 9 1 u m (tcs out) ∧ Hid (out ++ brokenE l (l.drop i) = M) ∧ Below w.heap.size w wr) (fun _ v _ => n - (RowKit.intOf v).toNat)
  case atStart => exact ⟨0, 0, [], by omega, by omega, rfl, World.ownsRow_nil _ _ _ _, HMe, Below.refl _ _⟩
  case round =>
    obtain ⟨i, m, out, hi, hm, rfl, hown, hf, hb⟩ := hrel
    obtain ⟨Ax, cx, rfl, hcx, hrd⟩ := own_texts hown
    have hbs := hb.size
    by_cases hlt : i < n
    · obtain ⟨ad, q, A', n', c', rfl, hbl, hx, hs, c1, c2⟩ := PIn.at_ (EnIn.below h hb) hlt
      have hq1 := hl q (List.mem_of_getElem? hx)
      have hd := hf.out
      rw [Hd.out i q hx, ← List.append_assoc] at hd
      obtain ⟨x, s⟩ := q
      simp only [] at c1 c2 hq1 hd
      have HM2 := hide (HM.out x hq1)
      clear hx hf hs hq1 Hd HM h hl hrd c2
      generalize goodE x (bodyE l x) = g at *
      generalize relE x (bodyE l x) = y at *
      cases g
      · rw [if_neg (by simp)] at hd
        have Hd2 := hide hd
        clear hd
        go_wp2_with (first
          | (go_at_call 11
             refine (HM2.out _ hb).mono ?_
             rintro e w1 ⟨A2, n2, c2, B2, rs2, rfl, hR2, hb1⟩
             have hown1 := own_below hown hb1
             have hown3 := own_below hown1 (alloc_b (.cells #[.string x, .slice A2 n2 c2] 28))
             have k1 : ∀ o, (w1.alloc o).cell? (ad.add (i * 2)) = some (.string x) := fun o => ((hb1.trans ((alloc_b o).mono hb1.size)).cell (p := ad.add (i * 2)) (by rw [block_of_add]; omega)).trans c1
             have hw1 := hb.trans (hb1.mono hbs)
             have hw3 : Below w.heap.size w (w1.alloc (.cells #[.string x, .slice A2 n2 c2] 28)) := hw1.alloc hw1.size _
             have hw3s := hw3.size
             have hrd3 : Reads ((w1.alloc (.cells #[.string x, .slice A2 n2 c2] 28)).alloc (.cells #[.string x] 9)) (w1.heap.size + 1 + 1) 1 (some ⟨w1.heap.size + 1, 0, none⟩) 1 [.string x] := by
               have := Reads.new1 (w1.alloc (.cells #[.string x, .slice A2 n2 c2] 28)) 9 (.string x)
               rwa [World.size_alloc] at this)
          | (at_builtin
             refine wpList_append_any _ rfl (.tmp 25) (.tmp 31) _ rfl w.heap.size 9 i0 _ 1 16 Try.underlying36 hi0 hz0 hz1 hz2 rfl (by omega) _ m (tcs out) rfl (own_below hown3 (alloc_b (.cells #[.string x] 9))) _ _ 1 _ _ rfl hrd3 (one_str _) (by unfold maxLen; omega) (by omega) (by simp at hw3s; simp; omega) ?_
             intro v4 w4 hown4 hg4 _
             have hw4 : Below w.heap.size w w4 := (hw3.alloc hw3s _).grown hg4 (by simp at hw3s; simp; omega) (fun k hk => (hown3.lt k hk).1)
             have hown5 : w4.ownsRow w.heap.size 9 1 v4 (m + 1) (tcs (out ++ [x])) := by rw [tcs_append]; exact hown4))
        go_roundw
        case rel => exact ⟨i + 1, m + 1, out ++ [x], by omega, by omega, by go_num, hown5, Hd2, hw4⟩
        case measure => simp [RowKit.intOf]; omega
      · rw [if_pos rfl, List.append_nil] at hd
        have Hd2 := hide hd
        clear hd
        go_wp2_with (first
          | (go_at_call 11
             refine (HM2.out _ hb).mono ?_
             rintro e w1 ⟨A2, n2, c2, B2, rs2, rfl, hR2, hb1⟩
             have hown1 := own_below hown hb1
             have hw1 := hb.trans (hb1.mono hbs)))
        have hown3 := own_below hown1 (alloc_b (.cells #[.string x, .slice A2 n2 c2] 28))
        have hw3 : Below w.heap.size w (w1.alloc (.cells #[.string x, .slice A2 n2 c2] 28)) := hw1.alloc hw1.size _
        go_roundw
        case rel => exact ⟨i + 1, m, out, by omega, by omega, by go_num, hown3, Hd2, hw3⟩
        case measure => simp [RowKit.intOf]; omega
    · have hi2 : i = n := by omega
      have hd := hf.out
      rw [List.drop_of_length_le (by have := Hlen.out; omega)] at hd
      have E : Hid (M = out) := hide (by rw [← hd]; simp [brokenE])
      clear hd hf
      go_wp2
      go_ret
      exact ⟨Ax, m, cx, rfl, by rw [E.out]; exact hrd, hb⟩
end Go.Proofs.Ytbagekkcakfhgaa.Depot
