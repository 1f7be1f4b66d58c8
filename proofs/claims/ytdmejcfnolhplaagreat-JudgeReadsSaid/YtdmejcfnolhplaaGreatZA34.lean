/-
  Some texts of this claim, one behind the other: IndexGet, IndexRef. What each proves, and its condition, stands at its head.
-/
import Derived.Test.YtdmejcfnolhplaaGreatZA33
import Derived.Test.YtdmejcfnolhplaaGreatZA26
import Derived.Test.YtdmejcfnolhplaaGreatZA32
import Derived.Test.YtdmejcfnolhplaaGreatZA17
import Derived.Test.YtdmejcfnolhplaaGreatZA21
import Derived.Test.YtdmejcfnolhplaaGreatZA11
import Derived.Shelf.Abstract
import Derived.Test.YtdmejcfnolhplaaGreatZA20
import Derived.Test.YtdmejcfnolhplaaGreatZA3
import Derived.Deep.RegionHeld3
/-
  Contracts of the program's Get and read: a manifest that is known, and whether it is good; what a body is as a name's. Condition: a name of at most 1,000,000,000 bytes.
-/
namespace Go.Proofs.YtdmejcfnolhplaaGreat.Index
open Go Go.RowKit Go.Lib Go.Proofs.YtdmejcfnolhplaaGreat.Span Go.Proofs.YtdmejcfnolhplaaGreat.Need Go.Proofs.YtdmejcfnolhplaaGreat.Mani Go.Proofs.YtdmejcfnolhplaaGreat.Wire Go.Proofs.YtdmejcfnolhplaaGreat.Depot Go.Proofs.YtdmejcfnolhplaaGreat.MapV
set_option linter.unusedVariables false
def Gots (w : World) (nm : ByteArray) (k : Kv) (e : Ending) (w' : World) : Prop :=
  ∃ A n c B rs, e = .returned (.tuple #[.agg #[.string nm, .slice A n c], .bool k.2]) ∧ Rls w' B (.slice A n c) n rs k.1 ∧ Below w.heap.size w w'
theorem assert_whole (x : Value) (w : World) : (Instr.typeAssert (.iface 126 x) 95 126 true).run Tryz.prog w = .ok (.tuple #[x, .bool true]) w := by
  simp [Instr.typeAssert, run_underlying Tryz.underlying126]
theorem zero_whole (w : World) : (zeroValue 126).run Tryz.prog w = .ok (.agg #[.string ⟨#[]⟩, .slice none 0 0]) w := by kernel_rfl
theorem assert_broken (x : Value) (w : World) : (Instr.typeAssert (.iface 125 x) 95 126 true).run Tryz.prog w = .ok (.tuple #[.agg #[.string ⟨#[]⟩, .slice none 0 0], .bool false]) w := by
  simp [Instr.typeAssert, run_underlying Tryz.underlying126, zero_whole w]
theorem assert_nil (w : World) : (Instr.typeAssert .nilIface 95 126 true).run Tryz.prog w = .ok (.tuple #[.agg #[.string ⟨#[]⟩, .slice none 0 0], .bool false]) w := by
  simp [Instr.typeAssert, run_underlying Tryz.underlying126, zero_whole w]
theorem found_told {w : World} {v : Value} {nm : ByteArray} {o : Option Kv} (h : Found w v nm o) :
    (∃ A n c B rs, (o.getD ([], false)).2 = true ∧ (∀ wx, (Instr.typeAssert v 95 126 true).run Tryz.prog wx = .ok (.tuple #[.agg #[.string nm, .slice A n c], .bool true]) wx) ∧ Rls w B (.slice A n c) n rs (o.getD ([], false)).1) ∨
    (o.getD ([], false) = ([], false) ∧ ∀ wx, (Instr.typeAssert v 95 126 true).run Tryz.prog wx = .ok (.tuple #[.agg #[.string ⟨#[]⟩, .slice none 0 0], .bool false]) wx) := by
  rcases h with ⟨rfl, rfl⟩ | ⟨k, rfl, ⟨e, A, n, c, B, rs, rfl, hr⟩ | ⟨rfl, rfl⟩⟩
  · exact .inr ⟨rfl, assert_nil⟩
  · exact .inl ⟨A, n, c, B, rs, e, assert_whole _, hr⟩
  · exact .inr ⟨rfl, assert_broken _⟩
set_option maxHeartbeats 4000000 in
set_option maxRecDepth 100000 in
theorem get_any (g : Nat) (mo : Option Nat) (l : List Kn) (nm : ByteArray) (w : World) (h : Idx w g mo l) (hl : FineX l) (hnm : nm.size ≤ 1000000000) :
    Calls Tryz.prog 76 #[.pointer (some ⟨g, 0, none⟩), .string nm] w (Gots w nm (getX l nm)) := by
  have HO := hide (fun (wx : World) (hb : Below w.heap.size w wx) => of_any g mo l nm wx (h.below hb) hnm)
  have HC := hide (fun wx => Label.clone_any nm wx hnm)
  have HM := hide (fun (A : Option Addr) (n c : Nat) (wx : World) (hx : RlOn wx A n (getX l nm).1) => cloneR_any nm (getX l nm).1 A n c wx hx (hl.get nm) hnm)
  have b0 := Blk.new w 100 #[.string ⟨#[]⟩, .slice none 0 0]
  have hw0 : Below w.heap.size w (w.alloc (.cells #[.string ⟨#[]⟩, .slice none 0 0] 100)) := alloc_b _
  have hk : getX l nm = (atX l nm).getD ([], false) := rfl
  clear h hl hnm
  generalize getX l nm = k at *
  go_enter Tryz.func76, Tryz.ntmps76
  go_upto_region 1 with fail
  generalize hW0 : w.alloc (.cells #[.string ⟨#[]⟩, .slice none 0 0] 100) = W0 at *
  clear hW0
  have HO2 := hide (HO.out W0 hw0)
  have hw0s := hw0.size
  clear HO
  go_wp2_with (first
    | (go_at_call 69
       refine HO2.out.mono ?_
       rintro e w1 ⟨v, rfl, rfl, hf⟩
       rcases found_told hf with ⟨A, n, c, B, rs, ek, hta, hr⟩ | ⟨ek, hta⟩))
  · rw [← hk] at ek hr
    obtain ⟨r, b⟩ := k
    simp only at ek hr HM
    subst ek
    clear hk hf HO2 HC
    have hr1 := hide (hr.below (alloc_b (.cells #[.string nm, .slice A n c] 126)))
    have b1 := b0.alloc (.cells #[.string nm, .slice A n c] 126)
    have hw1 := hw0.alloc hw0s (.cells #[.string nm, .slice A n c] 126)
    clear hr
    go_wp2_with (first
      | (go_at_call 111
         refine (HM.out A n c _ hr1.out.on).mono ?_
         rintro e w2 ⟨A2, c2, B2, rs2, rfl, hr2, hb2⟩
         have b2 := b1.below hb2 b1.lt
         have fz0 := b2.frozen 0
         have fz1 := b2.frozen 1
         have k0 := (b2.cell 0).trans (show (#[Value.string ⟨#[]⟩, .slice none 0 0] : Array Value)[0]? = some (.string ⟨#[]⟩) from rfl)
         have k1 := (b2.cell 1).trans (show (#[Value.string ⟨#[]⟩, .slice none 0 0] : Array Value)[1]? = some (.slice none 0 0) from rfl)
         have hw2 := hw1.trans (hb2.mono hw1.size)))
    have hblk := (b2.set_ 0 (.string nm)).set_ 1 (.slice A2 n c2)
    have hR4 := hr2.far (farT_blk b2 (by decide)) (farT_blk b2 (by decide)) (farT_blk b2 (by decide)) (set_two_only w2 w.heap.size (.string nm) (.slice A2 n c2))
    refine bodyPost_ret (results_blk_tmp rfl _ _ w.heap.size 100 _ (0, 0) _ (.bool true) rfl rfl hblk Tryz.underlying100 rfl mani_size) rfl ?_
    exact ⟨A2, n, c2, B2, rs2, rfl, hR4, set_two_below hw2 _ (Nat.le_refl _) _ _⟩
  · rw [← hk] at ek
    subst ek
    clear hk hf HO2 HM
    have b1 := b0.alloc (.cells #[.string ⟨#[]⟩, .slice none 0 0] 126)
    have hw1 := hw0.alloc hw0s (.cells #[.string ⟨#[]⟩, .slice none 0 0] 126)
    go_wp2_with (first
      | (go_at_call 37
         refine (HC.out _).mono ?_
         rintro e w2 ⟨rfl, hb2⟩
         have b2 := b1.below hb2 b1.lt
         have fz0 := b2.frozen 0
         have fz1 := b2.frozen 1
         have k0 := (b2.cell 0).trans (show (#[Value.string ⟨#[]⟩, .slice none 0 0] : Array Value)[0]? = some (.string ⟨#[]⟩) from rfl)
         have k1 := (b2.cell 1).trans (show (#[Value.string ⟨#[]⟩, .slice none 0 0] : Array Value)[1]? = some (.slice none 0 0) from rfl)
         have hw2 := hw1.trans (hb2.mono hw1.size)))
    have hblk := (b2.set_ 0 (.string nm)).set_ 1 (.slice none 0 0)
    refine bodyPost_ret (results_blk_tmp rfl _ _ w.heap.size 100 _ (0, 0) _ (.bool false) rfl rfl hblk Tryz.underlying100 rfl mani_size) rfl ?_
    exact ⟨none, 0, 0, 0, [], rfl, Rls.nil_ _ _, set_two_below hw2 _ (Nat.le_refl _) _ _⟩
set_option maxHeartbeats 4000000 in
set_option maxRecDepth 100000 in
theorem read_any (nm : ByteArray) (b : List UInt8) (A : Option Addr) (n c : Nat) (w : World) (hr : Reads w w.heap.size 1 A n (bcs b)) :
    Calls Tryz.prog 44 #[.string nm, .slice A n c] w fun e w' => ∃ v, e = .returned v ∧ Kept w' v nm (valX nm b) ∧ Below w.heap.size w w' := by
  have HR := hide (readR_any A n c b w hr)
  unfold ReadsR at HR
  have Hno := hide (@good_no nm b)
  have Hyes := hide (@good_yes nm b)
  have hvx : valX nm b = (relE nm b, goodE nm b) := rfl
  have hrel : goodE nm b = false → relE nm b = [] := fun hg => by unfold relE; rw [hg]; rfl
  have Hrel := hide hrel
  clear hrel hr
  generalize hx : (readB b).1 = x at *
  generalize hy : (readB b).2 = y at *
  generalize hz : errB b = z at *
  go_enter Tryz.func44, Tryz.ntmps44
  go_upto_region 2 with (first
    | (go_at_call 70
       refine HR.out.mono ?_
       rintro e w2 ⟨A2, n2, c2, B2, rs2, rfl, hR2, hb2⟩))
  obtain ⟨W, hW⟩ : ∃ W, W = w2.alloc (.cells #[.string x, .slice A2 n2 c2] 100) := ⟨_, rfl⟩
  have m3 : Blk W w2.heap.size 100 #[.string x, .slice A2 n2 c2] := by rw [hW]; exact Blk.new _ _ _
  have hR3 : Rls W B2 (.slice A2 n2 c2) n2 rs2 y := by rw [hW]; exact hR2.below (alloc_b _)
  have hw3 : Below w.heap.size w W := by rw [hW]; exact hb2.alloc hb2.size _
  rw [← hW]
  clear hW hb2 hR2 HR
  have m0 := (m3.cell 0).trans (show (#[Value.string x, .slice A2 n2 c2] : Array Value)[0]? = some (.string x) from rfl)
  have m1 := (m3.cell 1).trans (show (#[Value.string x, .slice A2 n2 c2] : Array Value)[1]? = some (.slice A2 n2 c2) from rfl)
  by_cases hbad : z ≠ 0 ∨ x ≠ nm
  · have hg := Hno.out hbad
    have hv0 : valX nm b = ([], false) := by rw [hvx, hg, Hrel.out hg]
    have Hv := hide hv0
    clear hg hvx hv0 Hyes Hno Hrel
    rcases Decidable.em (z = 0) with hz0 | hz0
    · have hxn : x ≠ nm := hbad.resolve_left (fun g => g hz0)
      obtain ⟨f1, f2⟩ := ne_names hxn
      subst hz0
      clear hbad hxn
      go_wp2
      go_ret
      exact ⟨_, rfl, .inr ⟨Hv.out, rfl⟩, hw3⟩
    · have e1 : (z == 0) = false := beq_eq_false_iff_ne.2 hz0
      have e2 : (z != 0) = true := bne_iff_ne.2 hz0
      clear hbad hz0
      go_wp2
      go_ret
      exact ⟨_, rfl, .inr ⟨Hv.out, rfl⟩, hw3⟩
  · have hz0 : z = 0 := Decidable.byContradiction fun g => hbad (.inl g)
    have hxn : x = nm := Decidable.byContradiction fun g => hbad (.inr g)
    have Hg := hide (Hyes.out hz0 hxn)
    have Hv := hide hvx
    subst hz0 hxn
    obtain ⟨f1, f2⟩ := eq_names_yes x
    clear hbad Hno Hyes hvx
    go_wp2
    go_ret
    refine ⟨_, rfl, .inl ⟨by rw [Hv.out]; exact Hg.out.1, A2, n2, c2, B2, rs2, rfl, ?_⟩, hw3⟩
    rw [Hv.out]
    show Rls _ _ _ _ _ (relE _ _)
    rw [Hg.out.2]
    exact hR3
end Go.Proofs.YtdmejcfnolhplaaGreat.Index
/-
  Contracts of the document's index: at, Has, Get, Names and Same. Condition: lists and names of a length that may be walked.
-/
namespace Go.Proofs.YtdmejcfnolhplaaGreat.Index
open Go Go.RowKit Go.Lib Go.Proofs.YtdmejcfnolhplaaGreat.Span Go.Proofs.YtdmejcfnolhplaaGreat.Need Go.Proofs.YtdmejcfnolhplaaGreat.Mani Go.Proofs.YtdmejcfnolhplaaGreat.Wire Go.Proofs.YtdmejcfnolhplaaGreat.Depot
set_option linter.unusedVariables false
def idxX : List Kn → ByteArray → Int → Int
  | [], _, _ => -1
  | q :: t, n, i => if q.1 = n then i else idxX t n (i + 1)
theorem idxX_drop {l : List Kn} {n : ByteArray} {i : Nat} {q : Kn} (h : l[i]? = some q) : idxX (l.drop i) n i = if q.1 = n then (i : Int) else idxX (l.drop (i + 1)) n ((i : Int) + 1) := by
  obtain ⟨hi, e⟩ := List.getElem?_eq_some_iff.1 h
  rw [List.drop_eq_getElem_cons hi, e]
  rfl
theorem idxX_none : ∀ {l : List Kn} {n : ByteArray} (i : Int), atX l n = none → idxX l n i = -1
  | [], _, _, _ => rfl
  | q :: t, n, i, h => by
    rw [atX] at h
    split at h
    · cases h
    · rename_i e
      rw [idxX, if_neg e]
      exact idxX_none (i + 1) h
theorem idxX_some : ∀ {l : List Kn} {n : ByteArray} {k : Kv} (i : Nat), atX l n = some k → ∃ j : Nat, idxX l n i = ((i + j : Nat) : Int) ∧ l[j]? = some (n, k)
  | [], _, _, _, h => by cases h
  | q :: t, n, k, i, h => by
    rw [atX] at h
    split at h
    · rename_i e
      injection h with h
      refine ⟨0, by rw [idxX, if_pos e]; rfl, ?_⟩
      subst e h
      rfl
    · rename_i e
      obtain ⟨j, h1, h2⟩ := idxX_some (i + 1) h
      refine ⟨j + 1, ?_, by simpa using h2⟩
      rw [idxX, if_neg e]
      have e2 : ((i + 1 : Nat) : Int) = (i : Int) + 1 := by omega
      rw [e2] at h1
      rw [h1]
      congr 1
      omega
set_option maxHeartbeats 2000000 in
set_option maxRecDepth 100000 in
theorem refAt_any (l : List Kn) (nm : ByteArray) (A : Option Addr) (n c : Nat) (w : World) (h : InK w A n l) (hn : n ≤ 1000000) :
    Calls Tryz.prog 71 #[.agg #[.slice A n c], .string nm] w (Tells w (.int .i64 (idxX l nm 0))) := by
  unfold Tells
  have Hlen := hide h.len
  have Hd := hide (fun i q => @idxX_drop l nm i q)
  obtain ⟨r, hr⟩ : ∃ r, r = idxX l nm 0 := ⟨_, rfl⟩
  rw [← hr]
  have Hr : Hid (r = idxX (l.drop 0) nm ((0 : Nat) : Int)) := hide hr
  have Hend : Hid (idxX (l.drop n) nm (n : Int) = -1) := hide (by rw [List.drop_of_length_le (by have := Hlen.out; omega)]; rfl)
  clear hr
  have b0 := Blk.new w 33 #[.slice A n c]
  go_enter Tryz.func71, Tryz.ntmps71
  go_wp2
  go_loopw [5] (fun v wr => ∃ i : Nat, i ≤ n ∧ v = .int .i64 (i : Int) ∧ Hid (r = idxX (l.drop i) nm (i : Int)) ∧ Blk wr w.heap.size 33 #[.slice A n c] ∧ Below w.heap.size w wr) (fun v _ => n - (RowKit.intOf v).toNat)
  case atStart => exact ⟨0, by omega, rfl, Hr, b0, alloc_b _⟩
  case round =>
    obtain ⟨i, hi, rfl, hf, hk, hb⟩ := hrel
    have k0 := (hk.cell 0).trans (show (#[Value.slice A n c] : Array Value)[0]? = some (.slice A n c) from rfl)
    clear b0
    by_cases hlt : i < n
    · obtain ⟨ad, q, A', n', c', B', rs', rfl, hbl, hx, _, c1, _, _⟩ := InK.at_ (h.below hb) hlt
      have hd := hf.out.trans (Hd.out i q hx)
      obtain ⟨x, kv⟩ := q
      simp only [] at c1 hd
      have he := eq_names x nm
      clear hx hf Hend Hr h Hd
      by_cases hxn : x = nm
      · rw [if_pos hxn] at hd
        rw [decide_eq_true hxn] at he
        have E := hide hd
        clear hxn hd
        go_wp2
        go_ret
        exact ⟨by rw [E.out]; rfl, hb⟩
      · rw [if_neg hxn] at hd
        rw [decide_eq_false hxn] at he
        have e2 : ((i + 1 : Nat) : Int) = (i : Int) + 1 := by omega
        rw [← e2] at hd
        have E := hide hd
        clear hxn hd e2
        go_wp2
        go_roundw
        case rel => exact ⟨i + 1, by omega, by go_num, E, hk, hb⟩
        case measure => simp [RowKit.intOf]; omega
    · have hi2 : i = n := by omega
      have e : r = -1 := by rw [hf.out, hi2]; exact Hend.out
      have E := hide e
      clear e hi2 hf Hend Hr
      go_wp2
      go_ret
      exact ⟨by rw [E.out]; rfl, hb⟩
set_option maxHeartbeats 2000000 in
set_option maxRecDepth 100000 in
theorem refHasX_any (l : List Kn) (nm : ByteArray) (A : Option Addr) (n c : Nat) (w : World) (h : InK w A n l) (hn : n ≤ 1000000) :
    Calls Tryz.prog 45 #[.agg #[.slice A n c], .string nm] w (Tells w (.bool (atX l nm).isSome)) := by
  unfold Tells
  have HA := hide (fun (wx : World) (hx : Below w.heap.size w wx) => refAt_any l nm A n c wx (h.below hx) hn)
  unfold Tells at HA
  have b0 := alloc_b (w := w) (.cells #[.slice A n c] 33)
  cases ho : atX l nm with
  | none =>
    rw [idxX_none 0 ho] at HA
    clear ho h
    go_enter Tryz.func45, Tryz.ntmps45
    go_wp2_with (first
      | (go_at_call 71
         refine (HA.out _ b0).mono ?_
         rintro e w2 ⟨rfl, hb2⟩
         have hbw := b0.trans (hb2.mono b0.size)))
    go_ret
    exact ⟨rfl, hbw⟩
  | some k =>
    obtain ⟨j, h1, h2⟩ := idxX_some 0 ho
    have h1' : idxX l nm 0 = ((0 + j : Nat) : Int) := h1
    rw [h1', Nat.zero_add] at HA
    have hj : (0 : Int) ≤ (j : Int) := by omega
    clear ho h h1 h1' h2
    go_enter Tryz.func45, Tryz.ntmps45
    go_wp2_with (first
      | (go_at_call 71
         refine (HA.out _ b0).mono ?_
         rintro e w2 ⟨rfl, hb2⟩
         have hbw := b0.trans (hb2.mono b0.size)))
    go_ret
    exact ⟨rfl, hbw⟩
set_option maxHeartbeats 4000000 in
set_option maxRecDepth 100000 in
theorem refGetX_any (l : List Kn) (nm : ByteArray) (A : Option Addr) (n c : Nat) (w : World) (h : InK w A n l) (hn : n ≤ 1000000) :
    Calls Tryz.prog 86 #[.agg #[.slice A n c], .string nm] w (Gots w nm (getX l nm)) := by
  have HA := hide (fun (wx : World) (hx : Below w.heap.size w wx) => refAt_any l nm A n c wx (h.below hx) hn)
  unfold Tells at HA
  obtain ⟨W, hW⟩ : ∃ W, W = (w.alloc (.cells #[.slice A n c] 33)).alloc (.cells #[.string ⟨#[]⟩, .slice none 0 0] 100) := ⟨_, rfl⟩
  have bX : Blk W w.heap.size 33 #[.slice A n c] := by rw [hW]; exact (Blk.new w _ _).alloc _
  have bM : Blk W (w.heap.size + 1) 100 #[.string ⟨#[]⟩, .slice none 0 0] := by
    rw [hW]
    have := Blk.new (w.alloc (.cells #[.slice A n c] 33)) 100 #[.string ⟨#[]⟩, .slice none 0 0]
    rwa [World.size_alloc] at this
  have hbw : Below w.heap.size w W := by rw [hW]; exact ((Below.refl _ _).alloc (Nat.le_refl _) _).alloc (by simp) _
  have kX := (bX.cell 0).trans (show (#[Value.slice A n c] : Array Value)[0]? = some (.slice A n c) from rfl)
  have hbs := hbw.size
  cases ho : atX l nm with
  | none =>
    rw [idxX_none 0 ho] at HA
    have hk : Hid (getX l nm = ([], false)) := hide (by unfold getX; rw [ho]; rfl)
    clear ho h
    go_enter Tryz.func86, Tryz.ntmps86
    go_upto_region 1 with fail
    rw [← hW]
    clear hW
    go_wp2_with (first
      | (go_at_call 71
         refine (HA.out _ hbw).mono ?_
         rintro e w2 ⟨rfl, hb2⟩
         have b2 := bM.below hb2 bM.lt
         have fz0 := b2.frozen 0
         have fz1 := b2.frozen 1
         have k0 := (b2.cell 0).trans (show (#[Value.string ⟨#[]⟩, .slice none 0 0] : Array Value)[0]? = some (.string ⟨#[]⟩) from rfl)
         have k1 := (b2.cell 1).trans (show (#[Value.string ⟨#[]⟩, .slice none 0 0] : Array Value)[1]? = some (.slice none 0 0) from rfl)
         have hw2 := hbw.trans (hb2.mono hbs)))
    have hblk := (b2.set_ 0 (.string nm)).set_ 1 (.slice none 0 0)
    refine bodyPost_ret (results_blk_tmp rfl _ _ (w.heap.size + 1) 100 _ (0, 0) _ (.bool false) rfl rfl hblk Tryz.underlying100 rfl mani_size) rfl ?_
    rw [hk.out]
    exact ⟨none, 0, 0, 0, [], rfl, Rls.nil_ _ _, set_two_below hw2 _ (Nat.le_succ _) _ _⟩
  | some k =>
    obtain ⟨j, h1, h2⟩ := idxX_some 0 ho
    have h1' : idxX l nm 0 = ((0 + j : Nat) : Int) := h1
    rw [h1', Nat.zero_add] at HA
    have hjn : j < n := by
      have := (List.getElem?_eq_some_iff.1 h2).1
      rw [h.len] at this
      exact this
    have hk : Hid (getX l nm = k) := hide (by unfold getX; rw [ho]; rfl)
    have HI := hide (fun (wx : World) (hx : Below w.heap.size w wx) => h.below hx)
    have hz : ¬ ((j : Int) < 0) := by omega
    have hj1 : (0 : Int) ≤ (j : Int) := by omega
    have hj2 : (j : Int) < (n : Int) := by omega
    clear ho h h1 h1'
    go_enter Tryz.func86, Tryz.ntmps86
    go_upto_region 1 with fail
    rw [← hW]
    clear hW
    go_upto_region 4 with (first
      | (go_at_call 71
         refine (HA.out _ hbw).mono ?_
         rintro e w2 ⟨rfl, hb2⟩))
    have bX2 := bX.below hb2 bX.lt
    have b2 := bM.below hb2 bM.lt
    have kX2 := (bX2.cell 0).trans (show (#[Value.slice A n c] : Array Value)[0]? = some (.slice A n c) from rfl)
    have fz0 := b2.frozen 0
    have fz1 := b2.frozen 1
    have k0 := (b2.cell 0).trans (show (#[Value.string ⟨#[]⟩, .slice none 0 0] : Array Value)[0]? = some (.string ⟨#[]⟩) from rfl)
    have k1 := (b2.cell 1).trans (show (#[Value.string ⟨#[]⟩, .slice none 0 0] : Array Value)[1]? = some (.slice none 0 0) from rfl)
    have hw2 := hbw.trans (hb2.mono hbs)
    obtain ⟨ad, q, A', n', c', B', rs', rfl, hbl, hx, hR, c1, c2, c3⟩ := InK.at_ (HI.out w2 hw2) hjn
    rw [h2] at hx
    injection hx with hx
    subst hx
    simp only at c1 c2 c3 hR
    clear h2 HA HI kX hb2 hbl
    go_region
    go_wp2
    have hg4 := set_two_only w2 (w.heap.size + 1) (.string nm) (.slice A' n' c')
    have hblk := ((b2.set_ 0 (.string nm)).set_ 1 (.slice A' n' c')).drew
    have hR4 := (hR.far (farT_blk b2 (by decide)) (farT_blk b2 (by decide)) (farT_blk b2 (by decide)) hg4).below ((Below.refl _ _).drew)
    refine bodyPost_ret (results_blk_tmp rfl _ _ (w.heap.size + 1) 100 _ (0, 0) _ (.bool k.2) rfl rfl hblk Tryz.underlying100 rfl mani_size) rfl ?_
    rw [hk.out]
    exact ⟨A', n', c', B', rs', rfl, hR4, (set_two_below hw2 _ (Nat.le_succ _) _ _).drew⟩
end Go.Proofs.YtdmejcfnolhplaaGreat.Index
