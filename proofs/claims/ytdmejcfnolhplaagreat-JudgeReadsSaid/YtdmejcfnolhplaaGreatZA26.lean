/-
  Some texts of this claim, one behind the other: NeedFind, ManiClone, ManiCloneM, ManiGet, FitGet. What each proves, and its condition, stands at its head.
-/
import Derived.Test.YtdmejcfnolhplaaGreatZA21
import Derived.Test.YtdmejcfnolhplaaGreatZA9
import Derived.Test.YtdmejcfnolhplaaGreatZA13
import Derived.Test.YtdmejcfnolhplaaGreatZA3
/-
  Contracts of clone and Find: a need that is alike and new; what is needed of a name. Condition: names of at most 1,000,000,000 bytes, sets of at most 1,000,000,001 spans.
-/
namespace Go.Proofs.YtdmejcfnolhplaaGreat.Need
open Go Go.RowKit Go.Lib Go.Proofs.YtdmejcfnolhplaaGreat.Span Go.Proofs.YtdmejcfnolhplaaGreat.Grow
open Go.Proofs.YtdmejcfnolhplaaGreat.Label (runes fitL)
set_option linter.unusedVariables false
theorem reads_of_spIn {w : World} {B n : Nat} {A : Option Addr} {l : List S} (h : SpIn w B A n l) : Reads w B 2 A n (scs l) := by
  refine ⟨by rw [scs_length, h.1], fun hn => ?_⟩
  obtain ⟨ad, hA, hb, hc⟩ := h.2 hn
  refine ⟨ad, hA, hb, fun j u hu => ?_⟩
  have hj : j < l.length * 2 := by
    have := (List.getElem?_eq_some_iff.1 hu).1
    rwa [scs_length] at this
  have hi : l[j / 2]? = some (l[j / 2]'(by omega)) := by simp
  obtain ⟨c1, c2⟩ := hc _ _ hi
  obtain ⟨g1, g2⟩ := scs_get l _ _ hi
  rcases Nat.mod_two_eq_zero_or_one j with h0 | h0
  · have ej : j = j / 2 * 2 := by omega
    rw [ej, g1] at hu
    injection hu with hu
    subst hu
    rw [← ej] at c1
    exact c1
  · have ej : j = j / 2 * 2 + 1 := by omega
    rw [ej, g2] at hu
    injection hu with hu
    subst hu
    rw [← add_field, ← ej] at c2
    exact c2
def isS (B : Nat) (l : List S) : Rel := fun w v => ∃ A n c, v = .slice A n c ∧ NewS w B A n c l
theorem isS_stable (B : Nat) (l : List S) : ∀ w w' v, Below w.heap.size w w' → isS B l w v → isS B l w' v :=
  fun _ _ _ hb ⟨A, n, c, hv, hn⟩ => ⟨A, n, c, hv, hn.below hb⟩
theorem below_none {w w' : World} (h : w.grownBy w' none) : Below w.heap.size w w' := ⟨h.os, h.tape, h.output, h.size, fun i hi => h.block i hi (by simp)⟩
theorem slice_def2 (A : Option Addr) (n c : Nat) : Value.slice A n c ≠ undef := by intro h; cases h
def storesN (g B : Nat) (nm : ByteArray) (s : List S) : Wr := fun w1 _ w2 => ∃ A n c, NewS w1 B A n c s ∧ w2 = (w1.setCell ⟨g, 0, none⟩ (.string nm)).setCell ⟨g, 1, none⟩ (.slice A n c)
theorem stored {w1 : World} {g B : Nat} {nm : ByteArray} {s : List S} {A : Option Addr} {n c : Nat} {cs : Array Value} (h : Blk w1 g 60 cs) (h2 : cs.size = 2) (hN : NewS w1 B A n c s) (hB : B ≤ w1.heap.size) :
    Blk ((w1.setCell ⟨g, 0, none⟩ (.string nm)).setCell ⟨g, 1, none⟩ (.slice A n c)) g 60 #[.string nm, .slice A n c] ∧ InS ((w1.setCell ⟨g, 0, none⟩ (.string nm)).setCell ⟨g, 1, none⟩ (.slice A n c)) 0 A n s := by
  have hb := (h.set_ 0 (.string nm)).set_ 1 (.slice A n c)
  have e : (cs.setIfInBounds 0 (.string nm)).setIfInBounds 1 (.slice A n c) = #[.string nm, .slice A n c] := by
    apply Array.ext
    · simp [h2]
    · intro i h1 h3
      have : i < 2 := by simpa [h2] using h1
      rcases i with _ | i
      · simp [h2]
      · have : i = 0 := by omega
        subst this
        simp
  rw [e] at hb
  refine ⟨hb, ?_⟩
  have hI := InS.of_new (B' := 0) hN
  have key : ∀ ad, A = some ad → 0 < n → ad.block ≠ g := by
    intro ad hA hn e
    rcases hN.2.2.1.2 with ⟨hv, _⟩ | ⟨g', cap, cur, hv, hB, hg, _⟩
    · injection hv with e1 e2 e3
      omega
    · injection hv with e1 e2 e3
      rw [hA] at e1
      injection e1 with e1
      subst e1
      unfold Blk at h
      simp only at e
      rw [e, h] at hg
      injection hg with hg
      injection hg with _ hg _
      exact absurd hg (by decide)
  refine ⟨⟨hI.1.1, fun hn => ?_⟩, fun ad hA hn => ?_⟩
  · obtain ⟨ad, hA, hlt, hc⟩ := hI.1.2 hn
    have hne := key ad hA hn
    refine ⟨ad, hA, by simpa [World.setCell] using hlt, fun i t ht => ?_⟩
    obtain ⟨c1, c2⟩ := hc i t ht
    constructor
    · rw [World.cell?_setCell_other _ _ _ _ (fun e => hne (by rw [← block_of_add ad (i * 2), ← e])), World.cell?_setCell_other _ _ _ _ (fun e => hne (by rw [← block_of_add ad (i * 2), ← e]))]
      exact c1
    · rw [World.cell?_setCell_other _ _ _ _ (fun e => hne (by rw [← block_of_add ad (i * 2)]; exact (congrArg Addr.block e).symm)), World.cell?_setCell_other _ _ _ _ (fun e => hne (by rw [← block_of_add ad (i * 2)]; exact (congrArg Addr.block e).symm))]
      exact c2
  · have hne := key ad hA hn
    rcases hI.2 ad hA hn with h1 | ⟨cur, m, h1⟩
    · exact .inl h1
    · refine .inr ⟨cur, m, ?_⟩
      obtain ⟨ad', hA', hlt, _⟩ := hI.1.2 hn
      rw [hA] at hA'
      injection hA' with hA'
      subst hA'
      rw [Below.heap_setCell _ _ _ _ (fun e => hne e), Below.heap_setCell _ _ _ _ (fun e => hne e)]
      exact h1
set_option maxHeartbeats 4000000 in
set_option maxRecDepth 100000 in
theorem cloneN_any (nm : ByteArray) (A : Option Addr) (n c : Nat) (s : List S) (w : World) (h : SpOn w A n s) (hnm : nm.size ≤ 1000000000) (hn : n ≤ 1000000001) :
    Calls Tryz.prog 104 #[.agg #[.string nm, .slice A n c]] w fun e w' =>
      ∃ A' n' c', e = .returned (.agg #[.string nm, .slice A' n' c']) ∧ InS w' 0 A' n' s ∧ Below w.heap.size w w' := by
  obtain ⟨i0, hi0, hz0, hz1, hz2⟩ := info_parts info_span
  have HK := hide (fun wx => Label.clone_any nm wx hnm)
  have hr := reads_of_spIn h
  go_enter Tryz.func104, Tryz.ntmps104
  go_upto_region 1 with fail
  obtain ⟨wr, hwr⟩ : ∃ wr, wr = (w.alloc (.cells #[.string nm, .slice A n c] 60)).alloc (.cells #[.string ⟨#[]⟩, .slice none 0 0] 60) := ⟨_, rfl⟩
  have hB0 : Blk wr w.heap.size 60 #[.string nm, .slice A n c] := by rw [hwr]; exact (Blk.new w _ _).alloc _
  have hB1 : Blk wr (w.heap.size + 1) 60 #[.string ⟨#[]⟩, .slice none 0 0] := by
    rw [hwr]
    have := Blk.new (w.alloc (.cells #[.string nm, .slice A n c] 60)) 60 #[.string ⟨#[]⟩, .slice none 0 0]
    rwa [World.size_alloc] at this
  have hbw : Below w.heap.size w wr := by rw [hwr]; exact ((Below.refl _ _).alloc (Nat.le_refl _) _).alloc (by simp) _
  have hsz : wr.heap.size = w.heap.size + 2 := by rw [hwr]; simp
  try rw [← hwr]
  clear hwr
  have q1 := cell_reg_ ((hB0.cell 0).trans rfl) hB0.lt
  have q2 := cell_reg_ ((hB0.cell 1).trans rfl) hB0.lt
  refine wp_region_grow_w [(5, isC (.string nm)), (8, isS w.heap.size s)] [5, 8] 7 (storesN (w.heap.size + 1) w.heap.size nm s) _
    (by kernel_rfl) (by kernel_rfl) rfl (by kernel_rfl) (by kernel_rfl) (by kernel_rfl) rfl rfl (by kernel_rfl) (by kernel_rfl) ⟨isC_stable _, isS_stable _ _, trivial⟩ ?_
  repeat (first
    | (refine lexK_skip (by decide) rfl ?_; simp only [Act.put, List.setIfInBounds_toArray, List.set_cons_zero, List.set_cons_succ])
    | (refine lexK_quiet (by decide) rfl rfl rfl (fun K hK => ?_); unfold Reg; go_big_quiet_op; refine hK _ ?_; clear hK K)
    | (refine lexK_rel (by decide) rfl rfl (fun w' hb9 hK => ?_) (fun v w' hb9 hv => ?_)
       · unfold grows
         go_simp
         go_at_call 37
         exact call_isC (HK.out w')
       obtain rfl := hv
       simp only [Act.put, List.setIfInBounds_toArray, List.set_cons_zero, List.set_cons_succ])
    | (refine lexK_rel (by decide) rfl rfl (fun w' hb9 hK => ?_) (fun v w' hb9 hv => ?_)
       · have hww := hbw.trans (hb9.mono hbw.size)
         refine grows_append _ (.tmp 7) _ rfl w.heap.size 67 i0 _ 2 16 Tryz.underlying58 hi0 hz0 hz1 hz2 rfl (by omega) _ 0 [] rfl (World.ownsRow_nil w' _ _ 2) _ _ n _ (scs s) rfl (hr.below hww) (scs_one _) (by unfold maxLen; omega) (by omega) hww.size ?_
         intro v' w2 hown hg _
         rw [Nat.zero_add, List.nil_append] at hown
         obtain ⟨A2, c2, rfl, hN⟩ := newS_of_own hown
         exact ⟨below_none hg, A2, n, c2, rfl, hN⟩
       obtain ⟨A3, n3, c3, rfl, hN3⟩ := hv
       simp only [Act.put, List.setIfInBounds_toArray, List.set_cons_zero, List.set_cons_succ])
    | (refine lexK_wr rfl rfl (fun w' hb9 hK => ?_) (fun v w' w'' hb9 hv => ?_)
       · obtain ⟨A4, n4, c4, e4, hN4⟩ := hK.at_ 8 rfl (slice_def2 _ _ _)
         have k0 := (hB1.below hb9 hB1.lt).cell 0
         have k1 := (hB1.below hb9 hB1.lt).cell 1
         have f0 := (hB1.below hb9 hB1.lt).frozen 0
         have f1 := (hB1.below hb9 hB1.lt).frozen 1
         unfold grows
         go_simp
         have e5 : Value.slice A3 n3 c3 = .slice A4 n4 c4 := e4
         injection e5 with e6 e7 e8
         subst e6 e7 e8
         exact ⟨_, _, _, hN4, rfl⟩
       simp only [Act.put]))
  refine lexK_nil (fun w9 w1 v hC9 hall hS _ => ?_)
  have hb9 := reg_iff.1 hC9
  obtain ⟨A5, n5, c5, hN5, rfl⟩ := hS
  clear hall q1 q2 hr h HK
  obtain ⟨hblk, hI⟩ := stored (nm := nm) (hB1.below hb9 hB1.lt) rfl hN5 (by have := hb9.size; omega)
  go_wp2
  refine bodyPost_ret (results_cell_row rfl _ _ (w.heap.size + 1) 60 _ (0, 0) _ rfl hblk Tryz.underlying60 rfl rfl) rfl ?_
  exact ⟨A5, n5, ⟨c5, rfl⟩, hI, ((hbw.trans (hb9.mono hbw.size)).setCell (Nat.le_succ _) _).setCell (Nat.le_succ _) _⟩
theorem fld1 (nm : ByteArray) (A : Option Addr) (n c : Nat) (w : World) : (Instr.field 60 (.agg #[.string nm, .slice A n c]) 1).run Tryz.prog w = .ok (.slice A n c) w := by kernel_rfl
def Finds (w : World) (r : Option (List S)) (e : Ending) (w' : World) : Prop := ∃ A n c, e = .returned (.tuple #[.slice A n c, .bool r.isSome]) ∧ SpOn w' A n (r.getD []) ∧ Below w.heap.size w w'
set_option maxHeartbeats 4000000 in
set_option maxRecDepth 100000 in
theorem findN_any (l : List Nd) (nm : ByteArray) (A : Option Addr) (n c : Nat) (w : World) (h : NdOn w A n l) (hl : ∀ q ∈ l, q.1.size ≤ 1000000000 ∧ q.2.length ≤ 1000000001) (hn : n ≤ 140737488355328) :
    Calls Tryz.prog 73 #[.slice A n c, .string nm] w (Finds w (findS l nm)) := by
  unfold Finds
  have hlen := hide h.len
  have Hd := hide (fun i q => @find_drop l nm i q)
  have Hend : Hid (findS (l.drop n) nm = none) := hide (by rw [List.drop_of_length_le (by have := hlen.out; omega)]; rfl)
  obtain ⟨r, hr⟩ : ∃ r, r = findS l nm := ⟨_, rfl⟩
  rw [← hr]
  have Hr := hide hr
  clear hr
  go_enter Tryz.func73, Tryz.ntmps73
  go_wp2
  go_loopw [10] (fun v wr => ∃ i : Nat, i ≤ n ∧ v = .int .i64 (i : Int) ∧ Hid (r = findS (l.drop i) nm) ∧ Below w.heap.size w wr) (fun v _ => n - (RowKit.intOf v).toNat)
  case atStart => exact ⟨0, by omega, rfl, Hr, Below.refl _ _⟩
  case round =>
    obtain ⟨i, hi, rfl, hf, hb⟩ := hrel
    by_cases hlt : i < n
    · obtain ⟨ad, q, A', n', c', rfl, hbl, hx, hs, c1, c2⟩ := NdIn.at_ (NdIn.below h hb) hlt
      obtain ⟨hq1, hq2⟩ := hl q (List.mem_of_getElem? hx)
      have hd := hf.out.trans (Hd.out i q hx)
      have hbs := hb.size
      obtain ⟨x, s⟩ := q
      simp only [] at c1 c2 hs hq1 hq2 hd
      have hsl := hs.1
      have HC := hide (fun (wx : World) (hbx : Below wr.heap.size wr wx) => cloneN_any x A' n' c' s wx ((hs.below (hbx.mono hb.size)).more (Nat.le_trans hb.size hbx.size)) hq1 (by omega))
      have he := eq_names x nm
      clear hx hf hs hq1 hq2 hsl Hend Hr h hl
      by_cases hxn : x = nm
      · rw [if_pos hxn] at hd
        rw [decide_eq_true hxn] at he
        subst hd
        have hfd := fld1 x
        clear hxn
        go_wp2_with (go_at_call 104
                     refine (HC.out _ (alloc_b _)).mono ?_
                     rintro e w1 ⟨A1, n1, c1', rfl, hI, hb1⟩
                     have hbw := hb.trans (((alloc_b _).trans (hb1.mono (by simp))).mono hbs))
        go_ret2
        exact ⟨A1, n1, c1', rfl, hI.1, hbw⟩
      · rw [if_neg hxn] at hd
        rw [decide_eq_false hxn] at he
        have Hd2 := hide hd
        clear hxn hd
        go_wp2
        go_roundw
        case rel => exact ⟨i + 1, by omega, by go_num, Hd2, hb.alloc hbs _⟩
        case measure => simp [RowKit.intOf]; omega
    · have hi2 : i = n := by omega
      have e : r = none := by rw [hf.out, hi2]; exact Hend.out
      subst e
      clear hf Hr Hend
      go_wp2
      go_ret2
      exact ⟨none, 0, 0, rfl, SpIn.nil _ _ _, hb⟩
set_option maxHeartbeats 4000000 in
set_option maxRecDepth 100000 in
theorem refFindN_any (l : List Nd) (nm : ByteArray) (A : Option Addr) (n c : Nat) (w : World) (h : NdOn w A n l) (hn : n ≤ 140737488355328) :
    Calls Tryz.prog 83 #[.slice A n c, .string nm] w (Finds w (findS l nm)) := by
  unfold Finds
  have hlen := hide h.len
  have Hd := hide (fun i q => @find_drop l nm i q)
  have Hend : Hid (findS (l.drop n) nm = none) := hide (by rw [List.drop_of_length_le (by have := hlen.out; omega)]; rfl)
  obtain ⟨r, hr⟩ : ∃ r, r = findS l nm := ⟨_, rfl⟩
  rw [← hr]
  have Hr := hide hr
  clear hr
  go_enter Tryz.func83, Tryz.ntmps83
  go_wp2
  go_loopw [6] (fun v wr => ∃ i : Nat, i ≤ n ∧ v = .int .i64 (i : Int) ∧ Hid (r = findS (l.drop i) nm) ∧ Below w.heap.size w wr) (fun v _ => n - (RowKit.intOf v).toNat)
  case atStart => exact ⟨0, by omega, rfl, Hr, Below.refl _ _⟩
  case round =>
    obtain ⟨i, hi, rfl, hf, hb⟩ := hrel
    by_cases hlt : i < n
    · obtain ⟨ad, q, A', n', c', rfl, hbl, hx, hs, c1, c2⟩ := NdIn.at_ (NdIn.below h hb) hlt
      have hd := hf.out.trans (Hd.out i q hx)
      have hbs := hb.size
      obtain ⟨x, s⟩ := q
      simp only [] at c1 c2 hs hd
      have he := eq_names x nm
      have hs2 := hs.more hbs
      clear hx hf hs Hend Hr h
      by_cases hxn : x = nm
      · rw [if_pos hxn] at hd
        rw [decide_eq_true hxn] at he
        subst hd
        clear hxn
        go_wp2
        go_ret2
        exact ⟨A', n', c', rfl, hs2, hb⟩
      · rw [if_neg hxn] at hd
        rw [decide_eq_false hxn] at he
        have Hd2 := hide hd
        clear hxn hd
        go_wp2
        go_roundw
        case rel => exact ⟨i + 1, by omega, by go_num, Hd2, hb⟩
        case measure => simp [RowKit.intOf]; omega
    · have hi2 : i = n := by omega
      have e : r = none := by rw [hf.out, hi2]; exact Hend.out
      subst e
      clear hf Hr Hend
      go_wp2
      go_ret2
      exact ⟨none, 0, 0, rfl, SpIn.nil _ _ _, hb⟩
end Go.Proofs.YtdmejcfnolhplaaGreat.Need
/-
  The contract of clone: a release that is alike, and new. Condition: needs, names and sets of a length that may be walked.
-/
namespace Go.Proofs.YtdmejcfnolhplaaGreat.Mani
open Go Go.RowKit Go.Lib Go.Proofs.YtdmejcfnolhplaaGreat.Span Go.Proofs.YtdmejcfnolhplaaGreat.Need Go.Proofs.YtdmejcfnolhplaaGreat.Grow
set_option linter.unusedVariables false
def rowD (nm : ByteArray) (s : List S) : Rel := fun w v => ∃ A c A' n' c', v = .slice A 1 c ∧ Reads w w.heap.size 2 A 1 (rcs [(nm, .slice A' n' c')]) ∧ InS w 0 A' n' s
theorem rowD_stable (nm : ByteArray) (s : List S) : ∀ w w' v, Below w.heap.size w w' → rowD nm s w v → rowD nm s w' v :=
  fun _ _ _ hb ⟨A, c, A', n', c', hv, hr, hI⟩ => ⟨A, c, A', n', c', hv, (hr.below hb).more hb.size, hI.below hb⟩
def needD (nm : ByteArray) (s : List S) : Rel := fun w v => ∃ A n c, v = .agg #[.string nm, .slice A n c] ∧ InS w 0 A n s
theorem needD_stable (nm : ByteArray) (s : List S) : ∀ w w' v, Below w.heap.size w w' → needD nm s w v → needD nm s w' v :=
  fun _ _ _ hb ⟨A, n, c, hv, hI⟩ => ⟨A, n, c, hv, hI.below hb⟩
theorem agg_def2 (l : Array Value) : Value.agg l ≠ undef := by intro h; cases h
def putsD (B n : Nat) (rs : List Rw) (x : Value) (nm : ByteArray) (s : List S) : Wr := fun w1 v w2 =>
  ∃ A' n' c', InS w1 0 A' n' s ∧ w2.ownsRow B 60 2 v (n + 1) (rcs rs ++ rcs [(nm, .slice A' n' c')]) ∧ w1.grownBy w2 x.ownBlock
theorem putsD_slice {B n : Nat} {rs : List Rw} {x : Value} {nm : ByteArray} {s : List S} {w1 w2 : World} {v : Value} (h : putsD B n rs x nm s w1 v w2) : ∃ A c, v = .slice A (n + 1) c := by
  obtain ⟨A', n', c', hI, hown, hg⟩ := h
  obtain ⟨A, c, e, _⟩ := own_form hown
  exact ⟨A, c, e⟩
def putsD2 (g B n : Nat) (rs : List Rw) (x : Value) (nm : ByteArray) (s : List S) : Wr := fun w1 v w3 => ∃ w2, putsD B n rs x nm s w1 v w2 ∧ w3 = w2.setCell ⟨g, 1, none⟩ v
theorem putsD2_told {g B n : Nat} {rs : List Rw} {x : Value} {nm : ByteArray} {s : List S} {w w1 w3 : World} {v z : Value} {l : List Nd} (hk : Blk w1 g 136 #[z, x]) (ho : w1.ownsRow B 60 2 x n (rcs rs)) (hall : AllIn w1 0 rs l) (hB : B ≤ g) (hb : Below B w w1) (hBs : B ≤ w1.heap.size)
    (h : putsD2 g B n rs x nm s w1 v w3) : ∃ rs', Blk w3 g 136 #[z, v] ∧ w3.ownsRow B 60 2 v (n + 1) (rcs rs') ∧ AllIn w3 0 rs' (l ++ [(nm, s)]) ∧ Below B w w3 ∧ w1.heap.size ≤ w3.heap.size ∧ ∀ b, b < w1.heap.size → b ≠ g → some b ≠ x.ownBlock → w3.heap[b]? = w1.heap[b]? := by
  obtain ⟨w2, ⟨A', n', c', hI, hown, hg⟩, rfl⟩ := h
  have hk2 : Blk w2 g 136 #[z, x] := hk.grown hg (farT_own ho (T := 136) (by decide) g _ _ hk)
  have h2 : AllIn w2 0 (rs ++ [(nm, .slice A' n' c')]) (l ++ [(nm, s)]) := (hall.append (AllIn.one hI)).mono fun _ _ _ hs => insFar hs (farT_own ho (by decide)) hg
  have hg3 : w2.grownBy (w2.setCell ⟨g, 1, none⟩ v) (some g) := only_setCell (only_self w2 g) (.inl rfl) v
  refine ⟨rs ++ [(nm, .slice A' n' c')], hk2.set_ 1 v, ?_, h2.mono fun _ _ _ hs => insFar hs (farT_blk hk2 (by decide)) hg3, (hb.grown hg hBs fun k hk => (ho.lt k hk).1).setCell hB _, Nat.le_trans hg.size hg3.size, fun b hlt hne hnx => ?_⟩
  · rw [rcs_append]
    exact own_far hown (farT_blk hk2 (by decide)) hg3
  · rw [Below.heap_setCell _ _ _ _ (fun e => hne (by simpa using e))]
    exact hg.block b hlt hnx
theorem take_snocN {l : List Nd} {i : Nat} {q : Nd} (h : l[i]? = some q) : l.take i ++ [q] = l.take (i + 1) := (take_snoc' l i q h).symm
set_option maxHeartbeats 8000000 in
set_option maxRecDepth 100000 in
theorem cloneRl_any (z : Int) (l : List Nd) (A : Option Addr) (n c : Nat) (w : World) (h : NdOn w A n l) (hl : Fine l) :
    Calls Tryz.prog 114 #[.agg #[.int .i64 z, .slice A n c]] w fun e w' => ∃ A' c', e = .returned (.agg #[.int .i64 z, .slice A' n c']) ∧ n ≤ c' ∧ InN w' A' n l ∧ Below w.heap.size w w' := by
  obtain ⟨i0, hi0, hz0, hz1, hz2⟩ := info_parts info_span
  obtain ⟨i1, hi1, hy0, hy1, hy2⟩ := info_parts info_need
  have hlen := h.len
  have hn : n ≤ 40 := by rw [← hlen]; exact hl.1
  have Hlen := hide hlen
  clear hlen
  go_enter Tryz.func114, Tryz.ntmps114
  go_wp2
  go_loopw [12] (fun v wr => ∃ (i : Nat) (x : Value) (rs : List Rw), i ≤ n ∧ v = .int .i64 (i : Int) ∧ Blk wr (w.heap.size + 2) 136 #[.int .i64 z, x] ∧ Blk wr (w.heap.size + 1) 136 #[.int .i64 0, .slice none 0 0] ∧ wr.ownsRow w.heap.size 60 2 x i (rcs rs) ∧ AllIn wr 0 rs (l.take i) ∧ Below w.heap.size w wr) (fun v _ => n - (RowKit.intOf v).toNat)
  case atStart =>
    have b0 := Blk.new w 136 #[.int .i64 z, .slice A n c]
    have b1 := Blk.new (w.alloc (.cells #[.int .i64 z, .slice A n c] 136)) 136 #[.int .i64 0, .slice none 0 0]
    have b2 := Blk.new ((w.alloc (.cells #[.int .i64 z, .slice A n c] 136)).alloc (.cells #[.int .i64 0, .slice none 0 0] 136)) 136 #[.int .i64 z, .slice none 0 0]
    simp only [World.size_alloc] at b1 b2
    exact ⟨0, .slice none 0 0, [], by omega, rfl, b2, b1.alloc _, World.ownsRow_nil _ _ _ 2, ⟨rfl, fun i r q hr _ => by simp at hr⟩, (((Below.refl _ _).alloc (Nat.le_refl _) _).alloc (by simp) _).alloc (by simp; omega) _⟩
  case round =>
    obtain ⟨i, x, rs, hi, rfl, hk, hk1, ho, hall, hb⟩ := hrel
    have hbs := hb.size
    obtain ⟨Ax, cx, rfl, hcx, hmx, _⟩ := own_form ho
    by_cases hlt : i < n
    · obtain ⟨ad, q, A', n', c', rfl, hbl, hx, hs, c1, c2⟩ := NdIn.at_ (NdIn.below h hb) hlt
      have hq := hl.2 q (List.mem_of_getElem? hx)
      obtain ⟨nm, s⟩ := q
      simp only [] at c1 c2 hs hq
      have hsl := hs.1
      have hrd := reads_of_spIn (hs.more hbs)
      have HK := hide (fun wx => Label.clone_any nm wx (by omega))
      have Htk := hide (take_snocN hx)
      clear hx hs
      go_upto_region 5 with fail
      obtain ⟨w5, hw5⟩ : ∃ w5, w5 = wr.alloc (.cells #[.string nm, .slice A' n' c'] 60) := ⟨_, rfl⟩
      have hB5 : Blk w5 wr.heap.size 60 #[.string nm, .slice A' n' c'] := by rw [hw5]; exact Blk.new _ _ _
      have hB3 : Blk w5 (w.heap.size + 2) 136 #[.int .i64 z, .slice Ax i cx] := by rw [hw5]; exact hk.alloc _
      have hB2 : Blk w5 (w.heap.size + 1) 136 #[.int .i64 0, .slice none 0 0] := by rw [hw5]; exact hk1.alloc _
      have hb5' : Below wr.heap.size wr w5 := by rw [hw5]; exact alloc_b _
      have hb5 : Below w.heap.size w w5 := hb.trans (hb5'.mono hbs)
      have hbs5 := hb5.size
      have ho5 := own_below ho hb5'
      have hall5 : AllIn w5 0 rs (l.take i) := hall.mono fun _ _ _ hs => hs.below hb5'
      have hrd5 := (hrd.below hb5').more hb5'.size
      try rw [← hw5]
      clear hw5 hk hk1 ho hall hrd c1 c2
      have q1 := cell_reg_ ((hB3.cell 1).trans rfl) hB3.lt
      have q2 := cell_reg_ ((hB5.cell 0).trans rfl) hB5.lt
      have q3 := cell_reg_ ((hB5.cell 1).trans rfl) hB5.lt
      refine wp_region_grow_s [(20, isC (.string nm)), (23, isS 0 s), (24, needD nm s), (25, rowD nm s)] [20, 23, 24, 25] 10 12 (putsD w.heap.size i rs (.slice Ax i cx) nm s) (putsD2 (w.heap.size + 2) w.heap.size i rs (.slice Ax i cx) nm s) _ _
        (by kernel_rfl) (by kernel_rfl) rfl (by kernel_rfl) (by kernel_rfl) (by kernel_rfl) rfl rfl rfl rfl (by decide) rfl (by kernel_rfl) (by kernel_rfl) (by kernel_rfl) ⟨isC_stable _, isS_stable _ _, needD_stable _ _, rowD_stable _ _, trivial⟩ ?_
      repeat (first
        | (refine lexS_quiet (by decide) rfl rfl rfl (fun K hK => ?_); unfold Reg; go_big_quiet_op; refine hK _ ?_; clear hK K)
        | (refine lexS_rel (by decide) rfl rfl (fun w' hb9 hK => ?_) (fun v w' hb9 hv => ?_)
           · unfold grows
             go_simp
             go_at_call 37
             exact call_isC (HK.out w')
           obtain rfl := hv
           simp only [Act.put, List.setIfInBounds_toArray, List.set_cons_zero, List.set_cons_succ])
        | (refine lexS_rel (by decide) rfl rfl (fun w' hb9 hK => ?_) (fun v w' hb9 hv => ?_)
           · refine grows_append _ (.tmp 22) _ rfl 0 67 i0 _ 2 16 Tryz.underlying58 hi0 hz0 hz1 hz2 rfl (by omega) _ 0 [] rfl (World.ownsRow_nil w' _ _ 2) _ _ n' _ (scs s) rfl (hrd5.below hb9) (scs_one _) (by unfold maxLen; omega) (by omega) (Nat.zero_le _) ?_
             intro v' w2 hown hg _
             rw [Nat.zero_add, List.nil_append] at hown
             obtain ⟨A2, c2, rfl, hN⟩ := newS_of_own hown
             exact ⟨below_none hg, A2, n', c2, rfl, hN⟩
           obtain ⟨A3, n3, c3, rfl, hN3⟩ := hv
           simp only [Act.put, List.setIfInBounds_toArray, List.set_cons_zero, List.set_cons_succ])
        | (refine lexS_rel (by decide) rfl rfl (fun w' hb9 hK => ?_) (fun v w' hb9 hv => ?_)
           · obtain ⟨A4, n4, c4, e4, hN4⟩ := hK.at_ 23 rfl rfl (slice_def2 _ _ _)
             unfold grows
             go_simp
             have e5 : Value.slice A3 n3 c3 = .slice A4 n4 c4 := e4
             injection e5 with e6 e7 e8
             subst e6 e7 e8
             exact ⟨Below.refl _ _, _, _, _, rfl, InS.of_new hN4⟩
           obtain ⟨A8, n8, c8, rfl, hI8⟩ := hv
           simp only [Act.put, List.setIfInBounds_toArray, List.set_cons_zero, List.set_cons_succ])
        | (refine lexS_rel (by decide) rfl rfl (fun w' hb9 hK => ?_) (fun v w' hb9 hv => ?_)
           · obtain ⟨A9, n9, c9, e9, hI9⟩ := hK.at_ 24 rfl rfl (agg_def2 _)
             have e10 : Value.agg #[.string nm, .slice A8 n8 c8] = .agg #[.string nm, .slice A9 n9 c9] := e9
             injection e10 with e10
             injection e10 with e10
             simp only [List.cons.injEq, Value.slice.injEq, and_true, true_and] at e10
             obtain ⟨rfl, rfl, rfl⟩ := e10
             unfold grows
             go_simp
             exact ⟨alloc_b _, some ⟨w'.heap.size, 0, none⟩, 1, A8, n8, c8, rfl, (reads_need w' nm A8 n8 c8 _ _ rfl).more (by simp), hI9.below (alloc_b _)⟩
           obtain ⟨A6, c6, A7, n7, c7, rfl, hr6, hI6⟩ := hv
           simp only [Act.put, List.setIfInBounds_toArray, List.set_cons_zero, List.set_cons_succ])
        | (refine lexS_wr rfl rfl (fun w' hb9 hK => ?_) (fun v w' w'' hb9 hv => ?_)
           · obtain ⟨A4, c4, A5, n5, c5, e4, hr4, hI4⟩ := hK.at_ 25 rfl (slice_def2 _ _ _)
             injection e4 with e5 e6 e7
             subst e5 e7
             refine grows_append (.tmp 17) (.tmp 25) _ rfl w.heap.size 60 i1 _ 2 40 Tryz.underlying23 hi1 hy0 hy1 hy2 rfl (by omega) _ i (rcs rs) rfl (own_below ho5 hb9) _ _ 1 _ _ rfl hr4 (one_need _ _ _ _) (by unfold maxLen; omega) (by omega) (Nat.le_trans hbs5 hb9.size) ?_
             intro v' w5' hown hg _
             exact ⟨_, _, _, hI4, hown, hg⟩
           obtain ⟨Av, cv, rfl⟩ := putsD_slice hv
           simp only [Act.put, List.setIfInBounds_toArray, List.set_cons_zero, List.set_cons_succ])
        | (refine lexS_late (by decide) (by decide) rfl rfl (fun K hK => ?_); go_big_quiet_op; refine hK _ ?_; clear hK K)
        | (refine lexS_last (by decide) rfl (fun w1 v w' hb9 hS hd => ?_) (fun v => ?_)
           · have e : Value.slice Av (i + 1) cv = v := (hd 26 rfl).resolve_right (slice_def2 _ _ _)
             subst e
             have hk1 : Blk w1 (w.heap.size + 2) 136 #[.int .i64 z, .slice Ax i cx] := hB3.below hb9 hB3.lt
             have hk2 : Blk w' (w.heap.size + 2) 136 #[.int .i64 z, .slice Ax i cx] := by
               obtain ⟨_, _, _, _, _, hg⟩ := hS
               exact hk1.grown hg (farT_own (own_below ho5 hb9) (T := 136) (by decide) _ _ _ hk1)
             have kc := hk2.cell 1
             have kf := hk2.frozen 1
             unfold grows
             go_simp
             exact ⟨_, hS, rfl⟩
           simp only [Act.put]))
      refine lexS_nil (fun w9 w1 v hC9 hS2 => ?_)
      have hb9 := reg_iff.1 hC9
      have hk1 := hB3.below hb9 hB3.lt
      obtain ⟨rs', hk9, ho9, hall9, hb10, hsz9, hkeep⟩ := putsD2_told hk1 (own_below ho5 hb9) (hall5.mono fun _ _ _ hs => hs.below hb9) (by omega) (hb5.trans (hb9.mono hbs5)) (Nat.le_trans hbs5 hb9.size) hS2
      have hkr := hB2.below hb9 hB2.lt
      have hkr9 : Blk w9 (w.heap.size + 1) 136 #[.int .i64 0, .slice none 0 0] := (hkeep _ hkr.lt (by omega) (farT_own (own_below ho5 hb9) (T := 136) (by decide) _ _ _ hkr)).trans hkr
      rw [Htk.out] at hall9
      clear hC9 hS2 q1 q2 q3 hkeep hall5 ho5 hrd5
      go_wp2
      go_roundw
      case rel => exact ⟨i + 1, v, rs', by omega, by go_num, hk9, hkr9, ho9, hall9, hb10⟩
      case measure => simp [RowKit.intOf]; omega
    · have hi2 : i = n := by omega
      subst hi2
      rw [List.take_of_length_le (by rw [Hlen.out]; exact Nat.le_refl _)] at hall
      obtain ⟨A9, c9, e9, hc9, hN⟩ := inN_of ho hall
      injection e9 with e1 e2 e3
      subst e1 e3
      have k0 := hk.cell 0
      have k1 := hk.cell 1
      have k2 := hk1.cell 0
      have k3 := hk1.cell 1
      have f2 := hk1.frozen 0
      have f3 := hk1.frozen 1
      go_wp2
      have hblk := (hk1.set_ 0 (.int .i64 z)).set_ 1 (.slice Ax i cx)
      have hg2 : wr.grownBy ((wr.setCell ⟨w.heap.size + 1, 0, none⟩ (.int .i64 z)).setCell ⟨w.heap.size + 1, 1, none⟩ (.slice Ax i cx)) (some (w.heap.size + 1)) := only_setCell (p := ⟨w.heap.size + 1, 1, none⟩) (only_setCell (p := ⟨w.heap.size + 1, 0, none⟩) (only_self wr (w.heap.size + 1)) (.inl rfl) _) (.inl rfl) _
      refine bodyPost_ret (results_cell_row rfl _ _ (w.heap.size + 1) 136 _ (0, 0) _ rfl hblk Tryz.underlying136 rfl rfl) rfl ?_
      exact ⟨Ax, cx, rfl, hcx, hN.far (farT_blk hk1 (by decide)) (farT_blk hk1 (by decide)) hg2, (hb.setCell (Nat.le_succ _) _).setCell (Nat.le_succ _) _⟩
end Go.Proofs.YtdmejcfnolhplaaGreat.Mani
/-
  The contract of Clone: a manifest that is alike, and new. Condition: releases, needs, names and sets of a length that may be walked.
-/
namespace Go.Proofs.YtdmejcfnolhplaaGreat.Mani
open Go Go.RowKit Go.Lib Go.Proofs.YtdmejcfnolhplaaGreat.Span Go.Proofs.YtdmejcfnolhplaaGreat.Need Go.Proofs.YtdmejcfnolhplaaGreat.Grow
set_option linter.unusedVariables false
def relD (z : Int) (s : List Nd) : Rel := fun w v => ∃ A n c, v = .agg #[.int .i64 z, .slice A n c] ∧ InN w A n s
theorem relD_stable (z : Int) (s : List Nd) : ∀ w w' v, Below w.heap.size w w' → relD z s w v → relD z s w' v :=
  fun _ _ _ hb ⟨A, n, c, hv, hI⟩ => ⟨A, n, c, hv, hI.below hb⟩
def rowR (z : Int) (s : List Nd) : Rel := fun w v => ∃ A c A' n' c', v = .slice A 1 c ∧ Reads w w.heap.size 2 A 1 (vcs [(z, .slice A' n' c')]) ∧ InN w A' n' s
theorem rowR_stable (z : Int) (s : List Nd) : ∀ w w' v, Below w.heap.size w w' → rowR z s w v → rowR z s w' v :=
  fun _ _ _ hb ⟨A, c, A', n', c', hv, hr, hI⟩ => ⟨A, c, A', n', c', hv, (hr.below hb).more hb.size, hI.below hb⟩
def putsR (B n : Nat) (rs : List Vr) (x : Value) (z : Int) (s : List Nd) : Wr := fun w1 v w2 =>
  ∃ A' n' c', InN w1 A' n' s ∧ w2.ownsRow B 136 2 v (n + 1) (vcs rs ++ vcs [(z, .slice A' n' c')]) ∧ w1.grownBy w2 x.ownBlock
theorem putsR_slice {B n : Nat} {rs : List Vr} {x : Value} {z : Int} {s : List Nd} {w1 w2 : World} {v : Value} (h : putsR B n rs x z s w1 v w2) : ∃ A c, v = .slice A (n + 1) c := by
  obtain ⟨A', n', c', hI, hown, hg⟩ := h
  obtain ⟨A, c, e, _⟩ := own_form hown
  exact ⟨A, c, e⟩
def putsR2 (g B n : Nat) (rs : List Vr) (x : Value) (z : Int) (s : List Nd) : Wr := fun w1 v w3 => ∃ w2, putsR B n rs x z s w1 v w2 ∧ w3 = w2.setCell ⟨g, 1, none⟩ v
theorem putsR2_told {g B n : Nat} {rs : List Vr} {x : Value} {z : Int} {s : List Nd} {w w1 w3 : World} {v y : Value} {l : List Rl} (hk : Blk w1 g 100 #[y, x]) (ho : Rls w1 B x n rs l) (hB : B ≤ g) (hb : Below B w w1) (hBs : B ≤ w1.heap.size)
    (h : putsR2 g B n rs x z s w1 v w3) : ∃ rs', Blk w3 g 100 #[y, v] ∧ Rls w3 B v (n + 1) rs' (l ++ [(z, s)]) ∧ Below B w w3 ∧ w1.heap.size ≤ w3.heap.size ∧ ∀ b, b < w1.heap.size → b ≠ g → some b ≠ x.ownBlock → w3.heap[b]? = w1.heap[b]? := by
  obtain ⟨w2, ⟨A', n', c', hI, hown, hg⟩, rfl⟩ := h
  have hk2 : Blk w2 g 100 #[y, x] := hk.grown hg (farT_own ho.1 (T := 100) (by decide) g _ _ hk)
  have h2 := ho.cat (AllN.one hI) hown hg
  have hg3 : w2.grownBy (w2.setCell ⟨g, 1, none⟩ v) (some g) := only_setCell (p := ⟨g, 1, none⟩) (only_self w2 g) (.inl rfl) v
  refine ⟨rs ++ [(z, .slice A' n' c')], hk2.set_ 1 v, h2.far (farT_blk hk2 (by decide)) (farT_blk hk2 (by decide)) (farT_blk hk2 (by decide)) hg3, (hb.grown hg hBs fun k hk => (ho.1.lt k hk).1).setCell hB _, Nat.le_trans hg.size hg3.size, fun b hlt hne hnx => ?_⟩
  rw [Below.heap_setCell _ _ _ _ (fun e => hne (by simpa using e))]
  exact hg.block b hlt hnx
theorem take_snocR {l : List Rl} {i : Nat} {q : Rl} (h : l[i]? = some q) : l.take i ++ [q] = l.take (i + 1) := (take_snoc' l i q h).symm
set_option maxHeartbeats 8000000 in
set_option maxRecDepth 100000 in
theorem cloneR_any (nm : ByteArray) (l : List Rl) (A : Option Addr) (n c : Nat) (w : World) (h : RlOn w A n l) (hl : FineR l) (hnm : nm.size ≤ 1000000000) :
    Calls Tryz.prog 111 #[.agg #[.string nm, .slice A n c]] w fun e w' => ∃ A' c' B rs, e = .returned (.agg #[.string nm, .slice A' n c']) ∧ Rls w' B (.slice A' n c') n rs l ∧ Below w.heap.size w w' := by
  obtain ⟨i1, hi1, hy0, hy1, hy2⟩ := info_parts info_rel
  have hlen := h.len
  have hn : n ≤ 30 := by rw [← hlen]; exact hl.1
  have Hlen := hide hlen
  clear hlen
  have HK0 := hide (fun wx => Label.clone_any nm wx hnm)
  have b0 := Blk.new w 100 #[.string nm, .slice A n c]
  have b1 := Blk.new (w.alloc (.cells #[.string nm, .slice A n c] 100)) 100 #[.string ⟨#[]⟩, .slice none 0 0]
  have b00 := b0.alloc (.cells #[.string ⟨#[]⟩, .slice none 0 0] 100)
  have hbw0 : Below w.heap.size w ((w.alloc (.cells #[.string nm, .slice A n c] 100)).alloc (.cells #[.string ⟨#[]⟩, .slice none 0 0] 100)) := ((Below.refl _ _).alloc (Nat.le_refl _) _).alloc (by simp) _
  simp only [World.size_alloc] at b1
  go_enter Tryz.func111, Tryz.ntmps111
  go_wp2_with (go_at_call 37
               refine (HK0.out _).mono ?_
               rintro e w1 ⟨rfl, hb1⟩
               have hbw1 := hbw0.trans (hb1.mono hbw0.size)
               have hsz1 := hb1.size
               simp only [World.size_alloc] at hsz1
               have b10 := b1.below hb1 (by simp)
               have b01 := b00.below hb1 (by simp; omega)
               have kk1 : ∀ o, (w1.alloc o).cell? ⟨w.heap.size, 1, none⟩ = some (.slice A n c) := fun o => ((b01.alloc o).cell 1).trans rfl)
  clear HK0
  go_loopw [13] (fun v wr => ∃ (i : Nat) (x : Value) (rs : List Vr), i ≤ n ∧ v = .int .i64 (i : Int) ∧ Blk wr w1.heap.size 100 #[.string nm, x] ∧ Blk wr (w.heap.size + 1) 100 #[.string ⟨#[]⟩, .slice none 0 0] ∧ Rls wr w.heap.size x i rs (l.take i) ∧ Below w.heap.size w wr) (fun v _ => n - (RowKit.intOf v).toNat)
  case atStart =>
    exact ⟨0, .slice none 0 0, [], by omega, rfl, Blk.new _ _ _, b10.alloc _, Rls.nil_ _ _, hbw1.alloc hbw1.size _⟩
  case round =>
    obtain ⟨i, x, rs, hi, rfl, hk, hk1, ho, hb⟩ := hrel
    have hbs := hb.size
    obtain ⟨Ax, cx, rfl, hcx, hmx, _⟩ := own_form ho.1
    clear b0 b1 b00 b10 b01 kk1
    by_cases hlt : i < n
    · obtain ⟨ad, q, A', n', c', rfl, hbl, hx, hs, c1, c2⟩ := RlIn.at_ (RlIn.below h hb) hlt
      have hq := hl.2 q (List.mem_of_getElem? hx)
      obtain ⟨z, s⟩ := q
      simp only [] at c1 c2 hs hq
      have HK := hide (fun (wx : World) (hbx : Below wr.heap.size wr wx) => cloneRl_any z s A' n' c' wx (NdOn.on (hs.more hbs) hbx) hq)
      have Htk := hide (take_snocR hx)
      clear hx hs
      go_upto_region 5 with fail
      obtain ⟨w5, hw5⟩ : ∃ w5, w5 = wr.alloc (.cells #[.int .i64 z, .slice A' n' c'] 136) := ⟨_, rfl⟩
      have hB5 : Blk w5 wr.heap.size 136 #[.int .i64 z, .slice A' n' c'] := by rw [hw5]; exact Blk.new _ _ _
      have hB3 : Blk w5 w1.heap.size 100 #[.string nm, .slice Ax i cx] := by rw [hw5]; exact hk.alloc _
      have hB2 : Blk w5 (w.heap.size + 1) 100 #[.string ⟨#[]⟩, .slice none 0 0] := by rw [hw5]; exact hk1.alloc _
      have hb5' : Below wr.heap.size wr w5 := by rw [hw5]; exact alloc_b _
      have hb5 : Below w.heap.size w w5 := hb.trans (hb5'.mono hbs)
      have hbs5 := hb5.size
      have ho5 := ho.below hb5'
      try rw [← hw5]
      clear hw5 hk hk1 ho c1 c2
      have q1 := cell_reg_ ((hB3.cell 1).trans rfl) hB3.lt
      have q2 := cell_reg_ ((hB5.cell 0).trans rfl) hB5.lt
      have q3 := cell_reg_ ((hB5.cell 1).trans rfl) hB5.lt
      refine wp_region_grow_s [(20, relD z s), (21, rowR z s)] [20, 21] 5 7 (putsR w.heap.size i rs (.slice Ax i cx) z s) (putsR2 w1.heap.size w.heap.size i rs (.slice Ax i cx) z s) _ _
        (by kernel_rfl) (by kernel_rfl) rfl (by kernel_rfl) (by kernel_rfl) (by kernel_rfl) rfl rfl rfl rfl (by decide) rfl (by kernel_rfl) (by kernel_rfl) (by kernel_rfl) ⟨relD_stable _ _, rowR_stable _ _, trivial⟩ ?_
      repeat (first
        | (refine lexS_quiet (by decide) rfl rfl rfl (fun K hK => ?_); unfold Reg; go_big_quiet_op; refine hK _ ?_; clear hK K)
        | (refine lexS_rel (by decide) rfl rfl (fun w' hb9 hK => ?_) (fun v w' hb9 hv => ?_)
           · unfold grows
             go_simp
             go_at_call 114
             refine (HK.out w' (hb5'.trans (hb9.mono hb5'.size))).mono ?_
             rintro e w5' ⟨A5, c5, rfl, _, hI5, hb5⟩
             exact ⟨_, rfl, hb5, A5, n', c5, rfl, hI5⟩
           obtain ⟨A8, n8, c8, rfl, hI8⟩ := hv
           simp only [Act.put, List.setIfInBounds_toArray, List.set_cons_zero, List.set_cons_succ])
        | (refine lexS_rel (by decide) rfl rfl (fun w' hb9 hK => ?_) (fun v w' hb9 hv => ?_)
           · obtain ⟨A9, n9, c9, e9, hI9⟩ := hK.at_ 20 rfl rfl (agg_def2 _)
             have e10 : Value.agg #[.int .i64 z, .slice A8 n8 c8] = .agg #[.int .i64 z, .slice A9 n9 c9] := e9
             injection e10 with e10
             injection e10 with e10
             simp only [List.cons.injEq, Value.slice.injEq, and_true, true_and] at e10
             obtain ⟨rfl, rfl, rfl⟩ := e10
             unfold grows
             go_simp
             exact ⟨alloc_b _, some ⟨w'.heap.size, 0, none⟩, 1, A8, n8, c8, rfl, (reads_rel w' z A8 n8 c8 _ _ rfl).more (by simp), hI9.below (alloc_b _)⟩
           obtain ⟨A6, c6, A7, n7, c7, rfl, hr6, hI6⟩ := hv
           simp only [Act.put, List.setIfInBounds_toArray, List.set_cons_zero, List.set_cons_succ])
        | (refine lexS_wr rfl rfl (fun w' hb9 hK => ?_) (fun v w' w'' hb9 hv => ?_)
           · obtain ⟨A4, c4, A5, n5, c5, e4, hr4, hI4⟩ := hK.at_ 21 rfl (slice_def2 _ _ _)
             injection e4 with e5 e6 e7
             subst e5 e7
             refine grows_append (.tmp 18) (.tmp 21) _ rfl w.heap.size 136 i1 _ 2 32 Tryz.underlying98 hi1 hy0 hy1 hy2 rfl (by omega) _ i (vcs rs) rfl (own_below ho5.1 hb9) _ _ 1 _ _ rfl hr4 (one_rel _ _ _ _) (by unfold maxLen; omega) (by omega) (Nat.le_trans hbs5 hb9.size) ?_
             intro v' w5' hown hg _
             exact ⟨_, _, _, hI4, hown, hg⟩
           obtain ⟨Av, cv, rfl⟩ := putsR_slice hv
           simp only [Act.put, List.setIfInBounds_toArray, List.set_cons_zero, List.set_cons_succ])
        | (refine lexS_late (by decide) (by decide) rfl rfl (fun K hK => ?_); go_big_quiet_op; refine hK _ ?_; clear hK K)
        | (refine lexS_last (by decide) rfl (fun w1' v w' hb9 hS hd => ?_) (fun v => ?_)
           · have e : Value.slice Av (i + 1) cv = v := (hd 22 rfl).resolve_right (slice_def2 _ _ _)
             subst e
             have hk1 : Blk w1' w1.heap.size 100 #[.string nm, .slice Ax i cx] := hB3.below hb9 hB3.lt
             have hk2 : Blk w' w1.heap.size 100 #[.string nm, .slice Ax i cx] := by
               obtain ⟨_, _, _, _, _, hg⟩ := hS
               exact hk1.grown hg (farT_own (own_below ho5.1 hb9) (T := 100) (by decide) _ _ _ hk1)
             have kc := hk2.cell 1
             have kf := hk2.frozen 1
             unfold grows
             go_simp
             exact ⟨_, hS, rfl⟩
           simp only [Act.put]))
      refine lexS_nil (fun w9 w1' v hC9 hS2 => ?_)
      have hb9 := reg_iff.1 hC9
      have hk1 := hB3.below hb9 hB3.lt
      obtain ⟨rs', hk9, ho9, hb10, hsz9, hkeep⟩ := putsR2_told hk1 (ho5.below hb9) (by omega) (hb5.trans (hb9.mono hbs5)) (Nat.le_trans hbs5 hb9.size) hS2
      have hkr := hB2.below hb9 hB2.lt
      have hkr9 : Blk w9 (w.heap.size + 1) 100 #[.string ⟨#[]⟩, .slice none 0 0] := (hkeep _ hkr.lt (by omega) (farT_own (own_below ho5.1 hb9) (T := 100) (by decide) _ _ _ hkr)).trans hkr
      rw [Htk.out] at ho9
      clear hC9 hS2 q1 q2 q3 hkeep ho5
      go_wp2
      go_roundw
      case rel => exact ⟨i + 1, v, rs', by omega, by go_num, hk9, hkr9, ho9, hb10⟩
      case measure => simp [RowKit.intOf]; omega
    · have hi2 : i = n := by omega
      subst hi2
      rw [List.take_of_length_le (by rw [Hlen.out]; exact Nat.le_refl _)] at ho
      have k0 := hk.cell 0
      have k1 := hk.cell 1
      have k2 := hk1.cell 0
      have k3 := hk1.cell 1
      have f2 := hk1.frozen 0
      have f3 := hk1.frozen 1
      go_wp2
      have hblk := (hk1.set_ 0 (.string nm)).set_ 1 (.slice Ax i cx)
      have hg2 : wr.grownBy ((wr.setCell ⟨w.heap.size + 1, 0, none⟩ (.string nm)).setCell ⟨w.heap.size + 1, 1, none⟩ (.slice Ax i cx)) (some (w.heap.size + 1)) := only_setCell (p := ⟨w.heap.size + 1, 1, none⟩) (only_setCell (p := ⟨w.heap.size + 1, 0, none⟩) (only_self wr (w.heap.size + 1)) (.inl rfl) _) (.inl rfl) _
      have hN := ho.far (farT_blk hk1 (by decide)) (farT_blk hk1 (by decide)) (farT_blk hk1 (by decide)) hg2
      refine bodyPost_ret (results_cell_row rfl _ _ (w.heap.size + 1) 100 _ (0, 0) _ rfl hblk Tryz.underlying100 rfl rfl) rfl ?_
      exact ⟨Ax, cx, _, _, rfl, hN, (hb.setCell (Nat.le_succ _) _).setCell (Nat.le_succ _) _⟩
theorem Rls.on {w : World} {B n c : Nat} {A : Option Addr} {rs : List Vr} {l : List Rl} (h : Rls w B (.slice A n c) n rs l) : RlOn w A n l := by
  obtain ⟨A', c', e, _, h2⟩ := h.told
  injection e with e1 e2 e3
  subst e1
  exact h2
end Go.Proofs.YtdmejcfnolhplaaGreat.Mani
/-
  Contracts of Get, the program's and the document's: a manifest's release. Condition: releases, needs, names and sets of a length that may be walked.
-/
namespace Go.Proofs.YtdmejcfnolhplaaGreat.Mani
open Go Go.RowKit Go.Lib Go.Proofs.YtdmejcfnolhplaaGreat.Span Go.Proofs.YtdmejcfnolhplaaGreat.Need
set_option linter.unusedVariables false
theorem rel_size : (Tryz.prog.info? 136).map (·.size) = some 2 := by kernel_rfl
theorem results_row_tmp {P : Program} {fn : Func} {p u : Tmp} {ty : TypeId} (h : fn.results = #[.cell p ty, .tmp u]) (tmps : Array Value) (w : World) (g : Nat) (t : TypeId) (cs : Array Value) (fr : Nat × Nat) (d : TypeDesc) (v : Value)
    (hp : tmps.getD p undef = .pointer (some ⟨g, 0, none⟩)) (hv : tmps.getD u undef = v) (hg : w.heap[g]? = some (.cells cs t fr))
    (hu : P.underlying ty = some d) (hd : (match d with | .struct _ | .array _ _ => true | _ => false) = true) (hi : (P.info? ty).map (·.size) = some cs.size) :
    (results fn tmps).run P w = .ok (.tuple #[.agg cs, v]) w := by
  rw [results_cell_tmp h]
  simp only [hp, hv, asAddr, Sem.run_pure, Result.andThen_ok, run_loadVar_row w g t ty cs fr d hg hu hd hi]
def Gets (w : World) (r : Option Rl) (e : Ending) (w' : World) : Prop := ∃ A n c, e = .returned (.tuple #[.agg #[.int .i64 (r.getD (0, [])).1, .slice A n c], .bool r.isSome]) ∧ NdOn w' A n (r.getD (0, [])).2 ∧ Below w.heap.size w w'
theorem setTwo_only (w : World) (g : Nat) (u v : Value) : w.grownBy ((w.setCell ⟨g, 0, none⟩ u).setCell ⟨g, 1, none⟩ v) (some g) := only_setCell (p := ⟨g, 1, none⟩) (only_setCell (p := ⟨g, 0, none⟩) (only_self w g) (.inl rfl) _) (.inl rfl) _
theorem below_two {w w' : World} {B g : Nat} (h : Below B w w') (hg : B ≤ g) (u v : Value) : Below B w ((w'.setCell ⟨g, 0, none⟩ u).setCell ⟨g, 1, none⟩ v) := (h.setCell (p := ⟨g, 0, none⟩) hg u).setCell (p := ⟨g, 1, none⟩) hg v
set_option maxHeartbeats 4000000 in
set_option maxRecDepth 100000 in
theorem getM_any (y : Int) (nm : ByteArray) (l : List Rl) (A : Option Addr) (n c : Nat) (w : World) (h : RlOn w A n l) (hl : FineR l) :
    Calls Tryz.prog 78 #[.agg #[.string nm, .slice A n c], .int .i64 y] w (Gets w (getR l y)) := by
  unfold Gets
  have hlen := hide h.len
  have hn : n ≤ 30 := by rw [← h.len]; exact hl.1
  have Hd := hide (fun i q => @getR_drop l y i q)
  have Hend : Hid (getR (l.drop n) y = none) := hide (by rw [List.drop_of_length_le (by have := hlen.out; omega)]; rfl)
  obtain ⟨r, hr⟩ : ∃ r, r = getR l y := ⟨_, rfl⟩
  rw [← hr]
  have Hr := hide hr
  clear hr
  have b1 := Blk.new (w.alloc (.cells #[.string nm, .slice A n c] 100)) 136 #[.int .i64 0, .slice none 0 0]
  simp only [World.size_alloc] at b1
  go_enter Tryz.func78, Tryz.ntmps78
  go_wp2
  go_loopw [11] (fun v wr => ∃ i : Nat, i ≤ n ∧ v = .int .i64 (i : Int) ∧ Hid (r = getR (l.drop i) y) ∧ Blk wr (w.heap.size + 1) 136 #[.int .i64 0, .slice none 0 0] ∧ Below w.heap.size w wr) (fun v _ => n - (RowKit.intOf v).toNat)
  case atStart => exact ⟨0, by omega, rfl, Hr, b1, ((Below.refl _ _).alloc (Nat.le_refl _) _).alloc (by simp) _⟩
  case round =>
    obtain ⟨i, hi, rfl, hf, hk, hb⟩ := hrel
    have hbs := hb.size
    clear b1
    by_cases hlt : i < n
    · obtain ⟨ad, q, A', n', c', rfl, hbl, hx, hs, c1, c2⟩ := RlIn.at_ (RlIn.below h hb) hlt
      have hq := hl.2 q (List.mem_of_getElem? hx)
      have hd := hf.out.trans (Hd.out i q hx)
      obtain ⟨z, s⟩ := q
      simp only [] at c1 c2 hs hq hd
      have HC := hide (fun (wx : World) (hbx : Below wr.heap.size wr wx) => cloneRl_any z s A' n' c' wx (NdOn.on (hs.more hbs) hbx) hq)
      have hkx := hk.alloc (.cells #[.int .i64 z, .slice A' n' c'] 136)
      clear hx hf hs hq Hend Hr h hl
      by_cases hzy : z = y
      · rw [if_pos hzy] at hd
        subst hd hzy
        go_wp2_with (go_at_call 114
                     refine (HC.out _ (alloc_b _)).mono ?_
                     rintro e w1 ⟨A1, c1', rfl, _, hI, hb1⟩
                     have hbw := hb.trans (((alloc_b _).trans (hb1.mono (by simp))).mono hbs)
                     have hk1 := hkx.below hb1 hkx.lt
                     have k2 := hk1.cell 0
                     have k3 := hk1.cell 1
                     have f2 := hk1.frozen 0
                     have f3 := hk1.frozen 1)
        have hblk := (hk1.set_ 0 (.int .i64 z)).set_ 1 (.slice A1 n' c1')
        refine bodyPost_ret (results_row_tmp rfl _ _ (w.heap.size + 1) 136 _ (0, 0) _ (.bool true) rfl rfl hblk Tryz.underlying136 rfl rel_size) rfl ?_
        exact ⟨A1, n', c1', rfl, (hI.far (farT_blk hk1 (by decide)) (farT_blk hk1 (by decide)) (setTwo_only _ _ _ _)).on, below_two hbw (by omega) _ _⟩
      · rw [if_neg hzy] at hd
        have Hd2 := hide hd
        clear hd
        go_wp2
        go_roundw
        case rel => exact ⟨i + 1, by omega, by go_num, Hd2, hkx, hb.alloc hbs _⟩
        case measure => simp [RowKit.intOf]; omega
    · have hi2 : i = n := by omega
      have e : r = none := by rw [hf.out, hi2]; exact Hend.out
      subst e
      have k2 := hk.cell 0
      have k3 := hk.cell 1
      have f2 := hk.frozen 0
      have f3 := hk.frozen 1
      clear hf Hr Hend
      go_wp2
      have hblk := (hk.set_ 0 (.int .i64 0)).set_ 1 (.slice none 0 0)
      refine bodyPost_ret (results_row_tmp rfl _ _ (w.heap.size + 1) 136 _ (0, 0) _ (.bool false) rfl rfl hblk Tryz.underlying136 rfl rel_size) rfl ?_
      exact ⟨none, 0, 0, rfl, NdIn.nil _ _ _, below_two hb (by omega) _ _⟩
set_option maxHeartbeats 4000000 in
set_option maxRecDepth 100000 in
theorem refGetM_any (y : Int) (nm : ByteArray) (l : List Rl) (A : Option Addr) (n c : Nat) (w : World) (h : RlOn w A n l) (hl : FineR l) :
    Calls Tryz.prog 89 #[.agg #[.string nm, .slice A n c], .int .i64 y] w (Gets w (getR l y)) := by
  unfold Gets
  have hlen := hide h.len
  have hn : n ≤ 30 := by rw [← h.len]; exact hl.1
  have Hd := hide (fun i q => @getR_drop l y i q)
  have Hend : Hid (getR (l.drop n) y = none) := hide (by rw [List.drop_of_length_le (by have := hlen.out; omega)]; rfl)
  obtain ⟨r, hr⟩ : ∃ r, r = getR l y := ⟨_, rfl⟩
  rw [← hr]
  have Hr := hide hr
  clear hr
  have b0 := (Blk.new w 100 #[.string nm, .slice A n c]).alloc (.cells #[.int .i64 0, .slice none 0 0] 136)
  have b1 := Blk.new (w.alloc (.cells #[.string nm, .slice A n c] 100)) 136 #[.int .i64 0, .slice none 0 0]
  simp only [World.size_alloc] at b1
  go_enter Tryz.func89, Tryz.ntmps89
  go_wp2
  go_loopw [6] (fun v wr => ∃ i : Nat, i ≤ n ∧ v = .int .i64 (i : Int) ∧ Hid (r = getR (l.drop i) y) ∧ Blk wr w.heap.size 100 #[.string nm, .slice A n c] ∧ Blk wr (w.heap.size + 1) 136 #[.int .i64 0, .slice none 0 0] ∧ Below w.heap.size w wr) (fun v _ => n - (RowKit.intOf v).toNat)
  case atStart => exact ⟨0, by omega, rfl, Hr, b0, b1, ((Below.refl _ _).alloc (Nat.le_refl _) _).alloc (by simp) _⟩
  case round =>
    obtain ⟨i, hi, rfl, hf, hm, hk, hb⟩ := hrel
    have hbs := hb.size
    have m1 := hm.cell 1
    have k2 := hk.cell 0
    have k3 := hk.cell 1
    have f2 := hk.frozen 0
    have f3 := hk.frozen 1
    clear b0 b1
    by_cases hlt : i < n
    · obtain ⟨ad, q, A', n', c', rfl, hbl, hx, hs, c1, c2⟩ := RlIn.at_ (RlIn.below h hb) hlt
      have hd := hf.out.trans (Hd.out i q hx)
      obtain ⟨z, s⟩ := q
      simp only [] at c1 c2 hs hd
      clear hx hf Hend Hr h hl
      by_cases hzy : z = y
      · rw [if_pos hzy] at hd
        subst hd hzy
        go_wp2
        have hblk := (hk.set_ 0 (.int .i64 z)).set_ 1 (.slice A' n' c')
        refine bodyPost_ret (results_row_tmp rfl _ _ (w.heap.size + 1) 136 _ (0, 0) _ (.bool true) rfl rfl hblk Tryz.underlying136 rfl rel_size) rfl ?_
        exact ⟨A', n', c', rfl, (hs.below (below_two (Below.refl _ _) (Nat.le_succ _) _ _)).more (below_two hb (Nat.le_succ _) _ _).size, below_two hb (Nat.le_succ _) _ _⟩
      · rw [if_neg hzy] at hd
        have Hd2 := hide hd
        clear hd
        go_wp2
        go_roundw
        case rel => exact ⟨i + 1, by omega, by go_num, Hd2, hm, hk, hb⟩
        case measure => simp [RowKit.intOf]; omega
    · have hi2 : i = n := by omega
      have e : r = none := by rw [hf.out, hi2]; exact Hend.out
      subst e
      clear hf Hr Hend
      go_wp2
      have hblk := (hk.set_ 0 (.int .i64 0)).set_ 1 (.slice none 0 0)
      refine bodyPost_ret (results_row_tmp rfl _ _ (w.heap.size + 1) 136 _ (0, 0) _ (.bool false) rfl rfl hblk Tryz.underlying136 rfl rel_size) rfl ?_
      exact ⟨none, 0, 0, rfl, NdIn.nil _ _ _, below_two hb (Nat.le_succ _) _ _⟩
end Go.Proofs.YtdmejcfnolhplaaGreat.Mani
/-
  The contract of mani's Get once more, its needs told with the types of their rows. Condition: the slice reads as releases that are looked at.
-/
namespace Go.Proofs.YtdmejcfnolhplaaGreat.Mani
open Go Go.RowKit Go.Lib Go.Proofs.YtdmejcfnolhplaaGreat.Span Go.Proofs.YtdmejcfnolhplaaGreat.Need
set_option linter.unusedVariables false
def GetsI (w : World) (r : Option Rl) (e : Ending) (w' : World) : Prop := ∃ A n c, e = .returned (.tuple #[.agg #[.int .i64 (r.getD (0, [])).1, .slice A n c], .bool r.isSome]) ∧ InN w' A n (r.getD (0, [])).2 ∧ Below w.heap.size w w'
set_option maxHeartbeats 4000000 in
set_option maxRecDepth 100000 in
theorem getI_any (y : Int) (nm : ByteArray) (l : List Rl) (A : Option Addr) (n c : Nat) (w : World) (h : RlOn w A n l) (hl : FineR l) :
    Calls Tryz.prog 78 #[.agg #[.string nm, .slice A n c], .int .i64 y] w (GetsI w (getR l y)) := by
  unfold GetsI
  have hlen := hide h.len
  have hn : n ≤ 30 := by rw [← h.len]; exact hl.1
  have Hd := hide (fun i q => @getR_drop l y i q)
  have Hend : Hid (getR (l.drop n) y = none) := hide (by rw [List.drop_of_length_le (by have := hlen.out; omega)]; rfl)
  obtain ⟨r, hr⟩ : ∃ r, r = getR l y := ⟨_, rfl⟩
  rw [← hr]
  have Hr := hide hr
  clear hr
  have b1 := Blk.new (w.alloc (.cells #[.string nm, .slice A n c] 100)) 136 #[.int .i64 0, .slice none 0 0]
  simp only [World.size_alloc] at b1
  go_enter Tryz.func78, Tryz.ntmps78
  go_wp2
  go_loopw [11] (fun v wr => ∃ i : Nat, i ≤ n ∧ v = .int .i64 (i : Int) ∧ Hid (r = getR (l.drop i) y) ∧ Blk wr (w.heap.size + 1) 136 #[.int .i64 0, .slice none 0 0] ∧ Below w.heap.size w wr) (fun v _ => n - (RowKit.intOf v).toNat)
  case atStart => exact ⟨0, by omega, rfl, Hr, b1, ((Below.refl _ _).alloc (Nat.le_refl _) _).alloc (by simp) _⟩
  case round =>
    obtain ⟨i, hi, rfl, hf, hk, hb⟩ := hrel
    have hbs := hb.size
    clear b1
    by_cases hlt : i < n
    · obtain ⟨ad, q, A', n', c', rfl, hbl, hx, hs, c1, c2⟩ := RlIn.at_ (RlIn.below h hb) hlt
      have hq := hl.2 q (List.mem_of_getElem? hx)
      have hd := hf.out.trans (Hd.out i q hx)
      obtain ⟨z, s⟩ := q
      simp only [] at c1 c2 hs hq hd
      have HC := hide (fun (wx : World) (hbx : Below wr.heap.size wr wx) => cloneRl_any z s A' n' c' wx (NdOn.on (hs.more hbs) hbx) hq)
      have hkx := hk.alloc (.cells #[.int .i64 z, .slice A' n' c'] 136)
      clear hx hf hs hq Hend Hr h hl
      by_cases hzy : z = y
      · rw [if_pos hzy] at hd
        subst hd hzy
        go_wp2_with (go_at_call 114
                     refine (HC.out _ (alloc_b _)).mono ?_
                     rintro e w1 ⟨A1, c1', rfl, _, hI, hb1⟩
                     have hbw := hb.trans (((alloc_b _).trans (hb1.mono (by simp))).mono hbs)
                     have hk1 := hkx.below hb1 hkx.lt
                     have k2 := hk1.cell 0
                     have k3 := hk1.cell 1
                     have f2 := hk1.frozen 0
                     have f3 := hk1.frozen 1)
        have hblk := (hk1.set_ 0 (.int .i64 z)).set_ 1 (.slice A1 n' c1')
        refine bodyPost_ret (results_row_tmp rfl _ _ (w.heap.size + 1) 136 _ (0, 0) _ (.bool true) rfl rfl hblk Tryz.underlying136 rfl rel_size) rfl ?_
        exact ⟨A1, n', c1', rfl, hI.far (farT_blk hk1 (by decide)) (farT_blk hk1 (by decide)) (setTwo_only _ _ _ _), below_two hbw (by omega) _ _⟩
      · rw [if_neg hzy] at hd
        have Hd2 := hide hd
        clear hd
        go_wp2
        go_roundw
        case rel => exact ⟨i + 1, by omega, by go_num, Hd2, hkx, hb.alloc hbs _⟩
        case measure => simp [RowKit.intOf]; omega
    · have hi2 : i = n := by omega
      have e : r = none := by rw [hf.out, hi2]; exact Hend.out
      subst e
      have k2 := hk.cell 0
      have k3 := hk.cell 1
      have f2 := hk.frozen 0
      have f3 := hk.frozen 1
      clear hf Hr Hend
      go_wp2
      have hblk := (hk.set_ 0 (.int .i64 0)).set_ 1 (.slice none 0 0)
      refine bodyPost_ret (results_row_tmp rfl _ _ (w.heap.size + 1) 136 _ (0, 0) _ (.bool false) rfl rfl hblk Tryz.underlying136 rfl rel_size) rfl ?_
      exact ⟨none, 0, 0, rfl, InN.nil _, below_two hb (by omega) _ _⟩
end Go.Proofs.YtdmejcfnolhplaaGreat.Mani
