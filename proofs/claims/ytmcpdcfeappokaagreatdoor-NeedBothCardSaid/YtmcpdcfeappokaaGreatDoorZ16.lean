/-
  Some texts of this claim, one behind the other: NeedFind, NeedBoth, NeedMerge. What each proves, and its condition, stands at its head.
-/
import Derived.Test.YtmcpdcfeappokaaGreatDoorZ12
import Derived.Test.YtmcpdcfeappokaaGreatDoorZ13
import Derived.Test.YtmcpdcfeappokaaGreatDoorZ14
import Derived.Test.YtmcpdcfeappokaaGreatDoorZ15
/-
  Contracts of clone and Find: a need that is alike and new; what is needed of a name. Condition: names of at most 1,000,000,000 bytes, sets of at most 1,000,000,001 spans.
-/
namespace Go.Proofs.YtmcpdcfeappokaaGreatDoor.Need
open Go Go.RowKit Go.Lib Go.Proofs.YtmcpdcfeappokaaGreatDoor.Span Go.Proofs.YtmcpdcfeappokaaGreatDoor.Grow
open Go.Proofs.YtmcpdcfeappokaaGreatDoor.Label (runes fitL)
set_option linter.unusedVariables false
theorem reads_of_spIn {w : World} {B n : Nat} {A : Option Addr} {l : List S} (h : SpIn w B A n l) : Reads w B 2 A n (scs l) := by
  refine ⟨by rw [scs_length, h.1], fun hn => ?_⟩
  obtain ⟨ad, hA, hb, hc⟩ := h.2 hn
  refine ⟨ad, hA, hb, fun j u hu => ?_⟩
  have hj : j < l.length * 2 := by
    have := (List.getElem?_eq_some_iff.1 hu).1
    rwa [scs_length] at this
  have hi : l[j / 2]? = some (l[j / 2]'(by omega)) := by simp
  obtain ⟨c1, c2⟩ := hc _ _ hi
  obtain ⟨g1, g2⟩ := scs_get l _ _ hi
  rcases Nat.mod_two_eq_zero_or_one j with h0 | h0
  · have ej : j = j / 2 * 2 := by omega
    rw [ej, g1] at hu
    injection hu with hu
    subst hu
    rw [← ej] at c1
    exact c1
  · have ej : j = j / 2 * 2 + 1 := by omega
    rw [ej, g2] at hu
    injection hu with hu
    subst hu
    rw [← add_field, ← ej] at c2
    exact c2
/-- The relation 'it is a new slice of these spans'. -/
def isS (B : Nat) (l : List S) : Rel := fun w v => ∃ A n c, v = .slice A n c ∧ NewS w B A n c l
theorem isS_stable (B : Nat) (l : List S) : ∀ w w' v, Below w.heap.size w w' → isS B l w v → isS B l w' v :=
  fun _ _ _ hb ⟨A, n, c, hv, hn⟩ => ⟨A, n, c, hv, hn.below hb⟩
theorem below_none {w w' : World} (h : w.grownBy w' none) : Below w.heap.size w w' := ⟨h.os, h.tape, h.output, h.size, fun i hi => h.block i hi (by simp)⟩
theorem slice_def2 (A : Option Addr) (n c : Nat) : Value.slice A n c ≠ undef := by intro h; cases h
/-- What is stored: a name, and a new set. -/
def storesN (g B : Nat) (nm : ByteArray) (s : List S) : Wr := fun w1 _ w2 => ∃ A n c, NewS w1 B A n c s ∧ w2 = (w1.setCell ⟨g, 0, none⟩ (.string nm)).setCell ⟨g, 1, none⟩ (.slice A n c)
theorem stored {w1 : World} {g B : Nat} {nm : ByteArray} {s : List S} {A : Option Addr} {n c : Nat} {cs : Array Value} (h : Blk w1 g 33 cs) (h2 : cs.size = 2) (hN : NewS w1 B A n c s) (hB : B ≤ w1.heap.size) :
    Blk ((w1.setCell ⟨g, 0, none⟩ (.string nm)).setCell ⟨g, 1, none⟩ (.slice A n c)) g 33 #[.string nm, .slice A n c] ∧ InS ((w1.setCell ⟨g, 0, none⟩ (.string nm)).setCell ⟨g, 1, none⟩ (.slice A n c)) 0 A n s := by
  have hb := (h.set_ 0 (.string nm)).set_ 1 (.slice A n c)
  have e : (cs.setIfInBounds 0 (.string nm)).setIfInBounds 1 (.slice A n c) = #[.string nm, .slice A n c] := by
    apply Array.ext
    · simp [h2]
    · intro i h1 h3
      have : i < 2 := by simpa [h2] using h1
      rcases i with _ | i
      · simp [h2]
      · have : i = 0 := by omega
        subst this
        simp
  rw [e] at hb
  refine ⟨hb, ?_⟩
  have hI := InS.of_new (B' := 0) hN
  have key : ∀ ad, A = some ad → 0 < n → ad.block ≠ g := by
    intro ad hA hn e
    rcases hN.2.2.1.2 with ⟨hv, _⟩ | ⟨g', cap, cur, hv, hB, hg, _⟩
    · injection hv with e1 e2 e3
      omega
    · injection hv with e1 e2 e3
      rw [hA] at e1
      injection e1 with e1
      subst e1
      unfold Blk at h
      simp only at e
      rw [e, h] at hg
      injection hg with hg
      injection hg with _ hg _
      exact absurd hg (by decide)
  refine ⟨⟨hI.1.1, fun hn => ?_⟩, fun ad hA hn => ?_⟩
  · obtain ⟨ad, hA, hlt, hc⟩ := hI.1.2 hn
    have hne := key ad hA hn
    refine ⟨ad, hA, by simpa [World.setCell] using hlt, fun i t ht => ?_⟩
    obtain ⟨c1, c2⟩ := hc i t ht
    constructor
    · rw [World.cell?_setCell_other _ _ _ _ (fun e => hne (by rw [← block_of_add ad (i * 2), ← e])), World.cell?_setCell_other _ _ _ _ (fun e => hne (by rw [← block_of_add ad (i * 2), ← e]))]
      exact c1
    · rw [World.cell?_setCell_other _ _ _ _ (fun e => hne (by rw [← block_of_add ad (i * 2)]; exact (congrArg Addr.block e).symm)), World.cell?_setCell_other _ _ _ _ (fun e => hne (by rw [← block_of_add ad (i * 2)]; exact (congrArg Addr.block e).symm))]
      exact c2
  · have hne := key ad hA hn
    rcases hI.2 ad hA hn with h1 | ⟨cur, m, h1⟩
    · exact .inl h1
    · refine .inr ⟨cur, m, ?_⟩
      obtain ⟨ad', hA', hlt, _⟩ := hI.1.2 hn
      rw [hA] at hA'
      injection hA' with hA'
      subst hA'
      rw [Below.heap_setCell _ _ _ _ (fun e => hne e), Below.heap_setCell _ _ _ _ (fun e => hne e)]
      exact h1
set_option maxHeartbeats 4000000 in
set_option maxRecDepth 100000 in
theorem cloneN_any (nm : ByteArray) (A : Option Addr) (n c : Nat) (s : List S) (w : World) (h : SpOn w A n s) (hnm : nm.size ≤ 1000000000) (hn : n ≤ 1000000001) :
    Calls Tryz.prog 19 #[.agg #[.string nm, .slice A n c]] w fun e w' =>
      ∃ A' n' c', e = .returned (.agg #[.string nm, .slice A' n' c']) ∧ InS w' 0 A' n' s ∧ Below w.heap.size w w' := by
  obtain ⟨i0, hi0, hz0, hz1, hz2⟩ := info_parts info_span
  have HK := hide (fun wx => Label.clone_any nm wx hnm)
  have hr := reads_of_spIn h
  go_enter Tryz.func19, Tryz.ntmps19
  go_upto_region 1 with fail
  obtain ⟨wr, hwr⟩ : ∃ wr, wr = (w.alloc (.cells #[.string nm, .slice A n c] 33)).alloc (.cells #[.string ⟨#[]⟩, .slice none 0 0] 33) := ⟨_, rfl⟩
  have hB0 : Blk wr w.heap.size 33 #[.string nm, .slice A n c] := by rw [hwr]; exact (Blk.new w _ _).alloc _
  have hB1 : Blk wr (w.heap.size + 1) 33 #[.string ⟨#[]⟩, .slice none 0 0] := by
    rw [hwr]
    have := Blk.new (w.alloc (.cells #[.string nm, .slice A n c] 33)) 33 #[.string ⟨#[]⟩, .slice none 0 0]
    rwa [World.size_alloc] at this
  have hbw : Below w.heap.size w wr := by rw [hwr]; exact ((Below.refl _ _).alloc (Nat.le_refl _) _).alloc (by simp) _
  have hsz : wr.heap.size = w.heap.size + 2 := by rw [hwr]; simp
  try rw [← hwr]
  clear hwr
  have q1 := cell_reg_ ((hB0.cell 0).trans rfl) hB0.lt
  have q2 := cell_reg_ ((hB0.cell 1).trans rfl) hB0.lt
  refine wp_region_grow_w [(5, isC (.string nm)), (8, isS w.heap.size s)] [5, 8] 7 (storesN (w.heap.size + 1) w.heap.size nm s) _
    (by kernel_rfl) (by kernel_rfl) rfl (by kernel_rfl) (by kernel_rfl) (by kernel_rfl) rfl rfl (by kernel_rfl) (by kernel_rfl) ⟨isC_stable _, isS_stable _ _, trivial⟩ ?_
  repeat (first
    | (refine lexK_skip (by decide) rfl ?_; simp only [Act.put, List.setIfInBounds_toArray, List.set_cons_zero, List.set_cons_succ])
    | (refine lexK_quiet (by decide) rfl rfl rfl (fun K hK => ?_); unfold Reg; go_big_quiet_op; refine hK _ ?_; clear hK K)
    | (refine lexK_rel (by decide) rfl rfl (fun w' hb9 hK => ?_) (fun v w' hb9 hv => ?_)
       · unfold grows
         go_simp
         go_at_call 39
         exact call_isC (HK.out w')
       obtain rfl := hv
       simp only [Act.put, List.setIfInBounds_toArray, List.set_cons_zero, List.set_cons_succ])
    | (refine lexK_rel (by decide) rfl rfl (fun w' hb9 hK => ?_) (fun v w' hb9 hv => ?_)
       · have hww := hbw.trans (hb9.mono hbw.size)
         refine grows_append _ (.tmp 7) _ rfl w.heap.size 47 i0 _ 2 16 Tryz.underlying25 hi0 hz0 hz1 hz2 rfl (by omega) _ 0 [] rfl (World.ownsRow_nil w' _ _ 2) _ _ n _ (scs s) rfl (hr.below hww) (scs_one _) (by unfold maxLen; omega) (by omega) hww.size ?_
         intro v' w2 hown hg _
         rw [Nat.zero_add, List.nil_append] at hown
         obtain ⟨A2, c2, rfl, hN⟩ := newS_of_own hown
         exact ⟨below_none hg, A2, n, c2, rfl, hN⟩
       obtain ⟨A3, n3, c3, rfl, hN3⟩ := hv
       simp only [Act.put, List.setIfInBounds_toArray, List.set_cons_zero, List.set_cons_succ])
    | (refine lexK_wr rfl rfl (fun w' hb9 hK => ?_) (fun v w' w'' hb9 hv => ?_)
       · obtain ⟨A4, n4, c4, e4, hN4⟩ := hK.at_ 8 rfl (slice_def2 _ _ _)
         have k0 := (hB1.below hb9 hB1.lt).cell 0
         have k1 := (hB1.below hb9 hB1.lt).cell 1
         have f0 := (hB1.below hb9 hB1.lt).frozen 0
         have f1 := (hB1.below hb9 hB1.lt).frozen 1
         unfold grows
         go_simp
         have e5 : Value.slice A3 n3 c3 = .slice A4 n4 c4 := e4
         injection e5 with e6 e7 e8
         subst e6 e7 e8
         exact ⟨_, _, _, hN4, rfl⟩
       simp only [Act.put]))
  refine lexK_nil (fun w9 w1 v hC9 hall hS _ => ?_)
  have hb9 := reg_iff.1 hC9
  obtain ⟨A5, n5, c5, hN5, rfl⟩ := hS
  clear hall q1 q2 hr h HK
  obtain ⟨hblk, hI⟩ := stored (nm := nm) (hB1.below hb9 hB1.lt) rfl hN5 (by have := hb9.size; omega)
  go_wp2
  refine bodyPost_ret (results_cell_row rfl _ _ (w.heap.size + 1) 33 _ (0, 0) _ rfl hblk Tryz.underlying33 rfl rfl) rfl ?_
  exact ⟨A5, n5, ⟨c5, rfl⟩, hI, ((hbw.trans (hb9.mono hbw.size)).setCell (Nat.le_succ _) _).setCell (Nat.le_succ _) _⟩
theorem fld1 (nm : ByteArray) (A : Option Addr) (n c : Nat) (w : World) : (Instr.field 33 (.agg #[.string nm, .slice A n c]) 1).run Tryz.prog w = .ok (.slice A n c) w := by kernel_rfl
/-- What Find answers. -/
def Finds (w : World) (r : Option (List S)) (e : Ending) (w' : World) : Prop := ∃ A n c, e = .returned (.tuple #[.slice A n c, .bool r.isSome]) ∧ SpOn w' A n (r.getD []) ∧ Below w.heap.size w w'
set_option maxHeartbeats 4000000 in
set_option maxRecDepth 100000 in
theorem findN_any (l : List Nd) (nm : ByteArray) (A : Option Addr) (n c : Nat) (w : World) (h : NdOn w A n l) (hl : ∀ q ∈ l, q.1.size ≤ 1000000000 ∧ q.2.length ≤ 1000000001) (hn : n ≤ 140737488355328) :
    Calls Tryz.prog 7 #[.slice A n c, .string nm] w (Finds w (findS l nm)) := by
  unfold Finds
  have hlen := hide h.len
  have Hd := hide (fun i q => @find_drop l nm i q)
  have Hend : Hid (findS (l.drop n) nm = none) := hide (by rw [List.drop_of_length_le (by have := hlen.out; omega)]; rfl)
  obtain ⟨r, hr⟩ : ∃ r, r = findS l nm := ⟨_, rfl⟩
  rw [← hr]
  have Hr := hide hr
  clear hr
  go_enter Tryz.func7, Tryz.ntmps7
  go_wp2
  go_loopw [10] (fun v wr => ∃ i : Nat, i ≤ n ∧ v = .int .i64 (i : Int) ∧ Hid (r = findS (l.drop i) nm) ∧ Below w.heap.size w wr) (fun v _ => n - (RowKit.intOf v).toNat)
  case atStart => exact ⟨0, by omega, rfl, Hr, Below.refl _ _⟩
  case round =>
    obtain ⟨i, hi, rfl, hf, hb⟩ := hrel
    by_cases hlt : i < n
    · obtain ⟨ad, q, A', n', c', rfl, hbl, hx, hs, c1, c2⟩ := NdIn.at_ (NdIn.below h hb) hlt
      obtain ⟨hq1, hq2⟩ := hl q (List.mem_of_getElem? hx)
      have hd := hf.out.trans (Hd.out i q hx)
      have hbs := hb.size
      obtain ⟨x, s⟩ := q
      simp only [] at c1 c2 hs hq1 hq2 hd
      have hsl := hs.1
      have HC := hide (fun (wx : World) (hbx : Below wr.heap.size wr wx) => cloneN_any x A' n' c' s wx ((hs.below (hbx.mono hb.size)).more (Nat.le_trans hb.size hbx.size)) hq1 (by omega))
      have he := eq_names x nm
      clear hx hf hs hq1 hq2 hsl Hend Hr h hl
      by_cases hxn : x = nm
      · rw [if_pos hxn] at hd
        rw [decide_eq_true hxn] at he
        subst hd
        have hfd := fld1 x
        clear hxn
        go_wp2_with (go_at_call 19
                     refine (HC.out _ (alloc_b _)).mono ?_
                     rintro e w1 ⟨A1, n1, c1', rfl, hI, hb1⟩
                     have hbw := hb.trans (((alloc_b _).trans (hb1.mono (by simp))).mono hbs))
        go_ret2
        exact ⟨A1, n1, c1', rfl, hI.1, hbw⟩
      · rw [if_neg hxn] at hd
        rw [decide_eq_false hxn] at he
        have Hd2 := hide hd
        clear hxn hd
        go_wp2
        go_roundw
        case rel => exact ⟨i + 1, by omega, by go_num, Hd2, hb.alloc hbs _⟩
        case measure => simp [RowKit.intOf]; omega
    · have hi2 : i = n := by omega
      have e : r = none := by rw [hf.out, hi2]; exact Hend.out
      subst e
      clear hf Hr Hend
      go_wp2
      go_ret2
      exact ⟨none, 0, 0, rfl, SpIn.nil _ _ _, hb⟩
set_option maxHeartbeats 4000000 in
set_option maxRecDepth 100000 in
theorem refFindN_any (l : List Nd) (nm : ByteArray) (A : Option Addr) (n c : Nat) (w : World) (h : NdOn w A n l) (hn : n ≤ 140737488355328) :
    Calls Tryz.prog 8 #[.slice A n c, .string nm] w (Finds w (findS l nm)) := by
  unfold Finds
  have hlen := hide h.len
  have Hd := hide (fun i q => @find_drop l nm i q)
  have Hend : Hid (findS (l.drop n) nm = none) := hide (by rw [List.drop_of_length_le (by have := hlen.out; omega)]; rfl)
  obtain ⟨r, hr⟩ : ∃ r, r = findS l nm := ⟨_, rfl⟩
  rw [← hr]
  have Hr := hide hr
  clear hr
  go_enter Tryz.func8, Tryz.ntmps8
  go_wp2
  go_loopw [6] (fun v wr => ∃ i : Nat, i ≤ n ∧ v = .int .i64 (i : Int) ∧ Hid (r = findS (l.drop i) nm) ∧ Below w.heap.size w wr) (fun v _ => n - (RowKit.intOf v).toNat)
  case atStart => exact ⟨0, by omega, rfl, Hr, Below.refl _ _⟩
  case round =>
    obtain ⟨i, hi, rfl, hf, hb⟩ := hrel
    by_cases hlt : i < n
    · obtain ⟨ad, q, A', n', c', rfl, hbl, hx, hs, c1, c2⟩ := NdIn.at_ (NdIn.below h hb) hlt
      have hd := hf.out.trans (Hd.out i q hx)
      have hbs := hb.size
      obtain ⟨x, s⟩ := q
      simp only [] at c1 c2 hs hd
      have he := eq_names x nm
      have hs2 := hs.more hbs
      clear hx hf hs Hend Hr h
      by_cases hxn : x = nm
      · rw [if_pos hxn] at hd
        rw [decide_eq_true hxn] at he
        subst hd
        clear hxn
        go_wp2
        go_ret2
        exact ⟨A', n', c', rfl, hs2, hb⟩
      · rw [if_neg hxn] at hd
        rw [decide_eq_false hxn] at he
        have Hd2 := hide hd
        clear hxn hd
        go_wp2
        go_roundw
        case rel => exact ⟨i + 1, by omega, by go_num, Hd2, hb⟩
        case measure => simp [RowKit.intOf]; omega
    · have hi2 : i = n := by omega
      have e : r = none := by rw [hf.out, hi2]; exact Hend.out
      subst e
      clear hf Hr Hend
      go_wp2
      go_ret2
      exact ⟨none, 0, 0, rfl, SpIn.nil _ _ _, hb⟩
end Go.Proofs.YtmcpdcfeappokaaGreatDoor.Need
/-
  Contracts of what Both is made of: clones, the closure that meets two needs. Condition: names of at most 1,000,000,000 bytes, sets of at most 1,000,000,001 spans, at most 1,000,000 needs.
-/
namespace Go.Proofs.YtmcpdcfeappokaaGreatDoor.Need
open Go Go.RowKit Go.Lib Go.Proofs.YtmcpdcfeappokaaGreatDoor.Span Go.Proofs.YtmcpdcfeappokaaGreatDoor.Grow
set_option linter.unusedVariables false
set_option maxHeartbeats 4000000 in
set_option maxRecDepth 100000 in
theorem clonesN_any (l : List Nd) (A : Option Addr) (n c : Nat) (w : World) (h : NdOn w A n l) (hl : ∀ q ∈ l, q.1.size ≤ 1000000000 ∧ q.2.length ≤ 1000000001) (hn : n ≤ 1000000) :
    Calls Tryz.prog 32 #[.slice A n c] w fun e w' => ∃ A' c', e = .returned (.slice A' n c') ∧ n ≤ c' ∧ NdOn w' A' n l ∧ Below w.heap.size w w' := by
  obtain ⟨i0, hi0, hz0, hz1, hz2⟩ := info_parts info_need
  have hlen := hide h.len
  have Hend : Hid (l.take n = l) := hide (List.take_of_length_le (by have := hlen.out; omega))
  go_enter Tryz.func32, Tryz.ntmps32
  go_wp2
  go_loopw [3, 8] (fun u v wr => ∃ (i : Nat) (rs : List Rw), i ≤ n ∧ v = .int .i64 (i : Int) ∧ Nds wr w.heap.size u i rs (l.take i) ∧ Below w.heap.size w wr) (fun _ v _ => n - (RowKit.intOf v).toNat)
  case atStart => exact ⟨0, [], by omega, rfl, Nds.nil_ _ _, Below.refl _ _⟩
  case round =>
    obtain ⟨i, rs, hi, rfl, hN, hb⟩ := hrel
    obtain ⟨Au, cu, rfl, hcu, hin⟩ := hN.told
    by_cases hlt : i < n
    · obtain ⟨ad, q, A', n', c', rfl, hbl, hx, hs, c1, c2⟩ := NdIn.at_ (NdIn.below h hb) hlt
      obtain ⟨hq1, hq2⟩ := hl q (List.mem_of_getElem? hx)
      have hbs := hb.size
      have Hst : Hid (l.take (i + 1) = l.take i ++ [q]) := hide (take_snoc' l i q hx)
      obtain ⟨x, s⟩ := q
      simp only [] at c1 c2 hs hq1 hq2
      have hsl := hs.1
      have HC := hide (fun (wx : World) (hbx : Below wr.heap.size wr wx) => cloneN_any x A' n' c' s wx ((hs.below (hbx.mono hb.size)).more (Nat.le_trans hb.size hbx.size)) hq1 (by omega))
      generalize l.take i = T at *
      clear hx hs hq1 hq2 hsl Hend h hl hin
      go_wp2_with (first
        | (go_at_call 19
           refine (HC.out _ (alloc_b _)).mono ?_
           rintro e w1 ⟨A1, n1, c1', rfl, hI, hb1⟩
           have hbx := (alloc_b (w := wr) (.cells #[.string x, .slice A' n' c'] 33)).trans (hb1.mono (by simp))
           have hbw := hb.trans (hbx.mono hbs)
           have hN1 := hN.below hbx)
        | (at_builtin
           refine wpList_append_any _ rfl (.tmp 12) (.tmp 15) _ rfl w.heap.size 33 i0 _ 2 40 Tryz.underlying22 hi0 hz0 hz1 hz2 rfl (by omega) _ i (rcs rs) rfl
             (own_below hN1.1 ?_) _ _ 1 _ _ rfl (reads_need _ x A1 n1 c1' _ _ (by simp)) (one_need _ _ _ _) (by unfold maxLen; omega) (by omega) (by have := hbw.size; simp; omega) ?_
           · exact (Below.refl _ _).alloc (Nat.le_refl _) _
           intro v1 w2 hown2 hg2 hat2
           have hA := (alloc_b (w := w1) (.cells #[.string x, .slice A1 n1 c1'] 33))
           have hN2 := (hN1.below hA).cat (AllIn.one ((hI.any w.heap.size).below hA)) hown2 hg2
           have hb2 : Below w.heap.size w w2 := (hbw.alloc hbw.size _).grown hg2 (by have := hbw.size; simp; omega) (fun k hk => (hN1.1.lt k hk).1)))
      go_roundw
      case rel => exact ⟨i + 1, _, by omega, by go_num, by rw [Hst.out]; exact hN2, hb2⟩
      case measure => simp [RowKit.intOf]; omega
    · have hi2 : i = n := by omega
      subst hi2
      rw [Hend.out] at hin
      go_wp2
      go_ret
      exact ⟨Au, cu, rfl, hcu, hin, hb⟩
set_option maxHeartbeats 4000000 in
set_option maxRecDepth 100000 in
theorem meetN_any (nm nm' : ByteArray) (A A' : Option Addr) (n c n' c' : Nat) (s t : List S) (w : World) (h : SpOn w A n s) (h' : SpOn w A' n' t) (hs : isSet (-1) s = true) (ht : isSet (-1) t = true) :
    Calls Tryz.prog 29 #[.agg #[.string nm, .slice A n c], .agg #[.string nm', .slice A' n' c']] w fun e w' =>
      ∃ A1 n1 c1, e = .returned (.agg #[.string nm, .slice A1 n1 c1]) ∧ InS w' 0 A1 n1 (meetS s t) ∧ Below w.heap.size w w' := by
  have HM := hide (fun (wx : World) (hbx : Below w.heap.size w wx) => @meet_any _ _ c _ _ c' A A' s t wx (h.below hbx) (h'.below hbx) hbx.size hbx.size hs ht)
  generalize meetS s t = M at *
  clear h h' hs ht
  go_enter Tryz.func29, Tryz.ntmps29
  go_upto_region 1 with fail
  obtain ⟨wr, hwr⟩ : ∃ wr, wr = ((w.alloc (.cells #[.string nm, .slice A n c] 33)).alloc (.cells #[.string nm', .slice A' n' c'] 33)).alloc (.cells #[.string ⟨#[]⟩, .slice none 0 0] 33) := ⟨_, rfl⟩
  have hB0 : Blk wr w.heap.size 33 #[.string nm, .slice A n c] := by rw [hwr]; exact ((Blk.new w _ _).alloc _).alloc _
  have hB1 : Blk wr (w.heap.size + 1) 33 #[.string nm', .slice A' n' c'] := by
    rw [hwr]
    have := (Blk.new (w.alloc (.cells #[.string nm, .slice A n c] 33)) 33 #[.string nm', .slice A' n' c']).alloc (.cells #[.string ⟨#[]⟩, .slice none 0 0] 33)
    rwa [World.size_alloc] at this
  have hB2 : Blk wr (w.heap.size + 2) 33 #[.string ⟨#[]⟩, .slice none 0 0] := by
    rw [hwr]
    have := Blk.new ((w.alloc (.cells #[.string nm, .slice A n c] 33)).alloc (.cells #[.string nm', .slice A' n' c'] 33)) 33 #[.string ⟨#[]⟩, .slice none 0 0]
    rwa [World.size_alloc, World.size_alloc] at this
  have hbw : Below w.heap.size w wr := by rw [hwr]; exact (((Below.refl _ _).alloc (Nat.le_refl _) _).alloc (by simp) _).alloc (by simp; omega) _
  have hsz : wr.heap.size = w.heap.size + 3 := by rw [hwr]; simp
  try rw [← hwr]
  clear hwr
  have q0 := cell_reg_ ((hB0.cell 0).trans rfl) hB0.lt
  have q1 := cell_reg_ ((hB0.cell 1).trans rfl) hB0.lt
  have q2 := cell_reg_ ((hB1.cell 1).trans rfl) hB1.lt
  refine wp_region_grow_w [(11, isS w.heap.size M)] [11] 8 (storesN (w.heap.size + 2) w.heap.size nm M) _
    (by kernel_rfl) (by kernel_rfl) rfl (by kernel_rfl) (by kernel_rfl) (by kernel_rfl) rfl rfl (by kernel_rfl) (by kernel_rfl) ⟨isS_stable _ _, trivial⟩ ?_
  repeat (first
    | (refine lexK_skip (by decide) rfl ?_; simp only [Act.put, List.setIfInBounds_toArray, List.set_cons_zero, List.set_cons_succ])
    | (refine lexK_quiet (by decide) rfl rfl rfl (fun K hK => ?_); unfold Reg; go_big_quiet_op; refine hK _ ?_; clear hK K)
    | (refine lexK_rel (by decide) rfl rfl (fun w' hb9 hK => ?_) (fun v w' hb9 hv => ?_)
       · have hww := hbw.trans (hb9.mono hbw.size)
         unfold grows
         go_simp
         go_at_call 30
         refine (HM.out w' hww).mono ?_
         rintro e w2 ⟨A2, n2, c2, rfl, hN, hb2⟩
         exact ⟨_, rfl, hb2, A2, n2, c2, rfl, hN.less hww.size⟩
       obtain ⟨A3, n3, c3, rfl, hN3⟩ := hv
       simp only [Act.put, List.setIfInBounds_toArray, List.set_cons_zero, List.set_cons_succ])
    | (refine lexK_wr rfl rfl (fun w' hb9 hK => ?_) (fun v w' w'' hb9 hv => ?_)
       · obtain ⟨A4, n4, c4, e4, hN4⟩ := hK.at_ 11 rfl (slice_def2 _ _ _)
         have k0 := (hB2.below hb9 hB2.lt).cell 0
         have k1 := (hB2.below hb9 hB2.lt).cell 1
         have f0 := (hB2.below hb9 hB2.lt).frozen 0
         have f1 := (hB2.below hb9 hB2.lt).frozen 1
         unfold grows
         go_simp
         have e5 : Value.slice A3 n3 c3 = .slice A4 n4 c4 := e4
         injection e5 with e6 e7 e8
         subst e6 e7 e8
         exact ⟨_, _, _, hN4, rfl⟩
       simp only [Act.put]))
  refine lexK_nil (fun w9 w1 v hC9 hall hS _ => ?_)
  have hb9 := reg_iff.1 hC9
  obtain ⟨A5, n5, c5, hN5, rfl⟩ := hS
  clear hall q0 q1 q2 HM
  obtain ⟨hblk, hI⟩ := stored (nm := nm) (hB2.below hb9 hB2.lt) rfl hN5 (by have := hb9.size; omega)
  go_wp2
  refine bodyPost_ret (results_cell_row rfl _ _ (w.heap.size + 2) 33 _ (0, 0) _ rfl hblk Tryz.underlying33 rfl rfl) rfl ?_
  exact ⟨A5, n5, ⟨c5, rfl⟩, hI, ((hbw.trans (hb9.mono hbw.size)).setCell (Nat.le_add_right _ 2) _).setCell (Nat.le_add_right _ 2) _⟩
end Go.Proofs.YtmcpdcfeappokaaGreatDoor.Need
/-
  Contracts of together, at needs, and of Both: what both need. Condition: names of at most 1,000,000,000 bytes; the Ins are sets; at most 1,000,000 needs each.
-/
namespace Go.Proofs.YtmcpdcfeappokaaGreatDoor.Need
open Go Go.RowKit Go.Lib Go.Proofs.YtmcpdcfeappokaaGreatDoor.Span Go.Proofs.YtmcpdcfeappokaaGreatDoor.Grow
set_option linter.unusedVariables false
/-- The relation 'a slice of one need'. -/
def rowN (B : Nat) (nm : ByteArray) (s : List S) : Rel := fun w v => ∃ A c A' n' c', v = .slice A 1 c ∧ Reads w w.heap.size 2 A 1 (rcs [(nm, .slice A' n' c')]) ∧ InS w B A' n' s
theorem rowN_stable (B : Nat) (nm : ByteArray) (s : List S) : ∀ w w' v, Below w.heap.size w w' → rowN B nm s w v → rowN B nm s w' v :=
  fun _ _ _ hb ⟨A, c, A', n', c', hv, hr, hI⟩ => ⟨A, c, A', n', c', hv, (hr.below hb).more hb.size, hI.below hb⟩
/-- The relation 'a need whose set is new'. -/
def needV (nm : ByteArray) (s : List S) : Rel := fun w v => ∃ A n c, v = .agg #[.string nm, .slice A n c] ∧ InS w 0 A n s
theorem needV_stable (nm : ByteArray) (s : List S) : ∀ w w' v, Below w.heap.size w w' → needV nm s w v → needV nm s w' v :=
  fun _ _ _ hb ⟨A, n, c, hv, hI⟩ => ⟨A, n, c, hv, hI.below hb⟩
theorem agg_def2 (l : Array Value) : Value.agg l ≠ undef := by intro h; cases h
/-- A need more is appended. -/
def putsN (B n : Nat) (rs : List Rw) (x : Value) (nm : ByteArray) (s : List S) : Wr := fun w1 v w2 =>
  ∃ A' n' c', InS w1 B A' n' s ∧ w2.ownsRow B 33 2 v (n + 1) (rcs rs ++ rcs [(nm, .slice A' n' c')]) ∧ w1.grownBy w2 x.ownBlock
theorem putsN_told {B n : Nat} {rs : List Rw} {x : Value} {nm : ByteArray} {s : List S} {w1 w2 : World} {v : Value} {out : List Nd} (hN : Nds w1 B x n rs out) (h : putsN B n rs x nm s w1 v w2) : ∃ rs', Nds w2 B v (n + 1) rs' (out ++ [(nm, s)]) := by
  obtain ⟨A', n', c', hI, hown, hg⟩ := h
  exact ⟨_, hN.cat (AllIn.one hI) hown hg⟩
theorem putsN_slice {B n : Nat} {rs : List Rw} {x : Value} {nm : ByteArray} {s : List S} {w1 w2 : World} {v : Value} (h : putsN B n rs x nm s w1 v w2) : ∃ A c, v = .slice A (n + 1) c := by
  obtain ⟨A', n', c', hI, hown, hg⟩ := h
  obtain ⟨A, c, e, _⟩ := own_form hown
  exact ⟨A, c, e⟩
theorem putsN_below {B0 B n : Nat} {rs : List Rw} {x : Value} {nm : ByteArray} {s : List S} {w w1 w2 : World} {v : Value} {out : List Nd} (hN : Nds w1 B x n rs out) (hb : Below B w w1) (hB : B ≤ w1.heap.size) (h : putsN B n rs x nm s w1 v w2) : Below B w w2 := by
  obtain ⟨A', n', c', hI, hown, hg⟩ := h
  exact hb.grown hg hB fun k hk => (hN.1.lt k hk).1
theorem NdIn.head_ {w : World} {B k : Nat} {A : Option Addr} {l : List Nd} (h : NdIn w B A (k + 1) l) :
    ∃ ad q t A' n' c', A = some ad ∧ ad.block < B ∧ l = q :: t ∧ SpIn w B A' n' q.2 ∧ w.cell? ad = some (.string q.1) ∧ w.cell? ⟨ad.block, ad.off + 1, none⟩ = some (.slice A' n' c') := by
  have hl := h.len
  obtain ⟨ad, q, A', n', c', hA, hb, hx, hs, c1, c2⟩ := h.at_ (k := 0) (by omega)
  rw [Nat.zero_mul, add_zero'] at c1 c2
  cases l with
  | nil => simp at hl
  | cons y t =>
    simp at hx
    subst hx
    exact ⟨ad, y, t, A', n', c', hA, hb, rfl, hs, c1, c2⟩
theorem NdIn.rest_ {w : World} {B k d : Nat} {ad : Addr} {q : Nd} {t : List Nd} (h : NdIn w B (some ad) (k + 1) (q :: t)) (hd : k ≤ d) : NdIn w B (if d = 0 then some ad else some (ad.add 2)) k t := by
  have := h.tail (c := d + 1) (by omega) (by omega)
  simpa using this
def lenV : Value → Nat
  | .slice _ n _ => n
  | _ => 0
set_option maxHeartbeats 16000000 in
set_option maxRecDepth 100000 in
theorem together_any (a b : List Nd) (Aa Ab : Option Addr) (na ca nb cb : Nat) (w : World) (ha : NdOn w Aa na a) (hb : NdOn w Ab nb b) (hca : na ≤ ca) (hcb : nb ≤ cb)
    (hsa : ∀ q ∈ a, isSet (-1) q.2 = true) (hsb : ∀ q ∈ b, isSet (-1) q.2 = true) (hna : na ≤ 1000000) (hnb : nb ≤ 1000000) :
    Calls Tryz.prog 31 #[.slice Aa na ca, .slice Ab nb cb, .func (.func 27) #[] #[], .func (.func 29) #[] #[]] w fun e w' =>
      ∃ A n c, e = .returned (.slice A n c) ∧ NdOn w' A n (mergeS a b) ∧ Below w.heap.size w w' := by
  obtain ⟨i0, hi0, hz0, hz1, hz2⟩ := info_parts info_need
  have HM : Hid ([] ++ mergeS a b = mergeS a b) := hide rfl
  obtain ⟨M, hM⟩ : ∃ M, M = mergeS a b := ⟨_, rfl⟩
  have HM : Hid ([] ++ mergeS a b = M) := hide (by rw [hM]; rfl)
  rw [← hM]
  clear hM
  go_enter Tryz.func31, Tryz.ntmps31
  go_wp2
  go_loopw [0, 1, 9] (fun u v x wr => ∃ (A1 A2 : Option Addr) (n1 c1 n2 c2 n : Nat) (rs : List Rw) (a' b' out : List Nd), u = .slice A1 n1 c1 ∧ v = .slice A2 n2 c2 ∧ n1 ≤ c1 ∧ n2 ≤ c2 ∧ NdIn wr w.heap.size A1 n1 a' ∧ NdIn wr w.heap.size A2 n2 b' ∧ Nds wr w.heap.size x n rs out ∧ Hid (out ++ mergeS a' b' = M) ∧ Hid (∀ q ∈ a', isSet (-1) q.2 = true) ∧ Hid (∀ q ∈ b', isSet (-1) q.2 = true) ∧ n + n1 + n2 ≤ 2000000 ∧ Below w.heap.size w wr) (fun u v _ _ => lenV u + lenV v)
  case atStart => exact ⟨Aa, Ab, na, ca, nb, cb, 0, [], a, b, [], rfl, rfl, hca, hcb, ha, hb, Nds.nil_ _ _, HM, hide hsa, hide hsb, by omega, Below.refl _ _⟩
  case round =>
    clear ha hb hca hcb hsa hsb hna hnb HM
    obtain ⟨A1, A2, n1, c1, n2, c2, n, rs, a', b', out, rfl, rfl, hc1, hc2, ha, hb, hN, hM, hsa, hsb, hnn, hbw⟩ := hrel
    obtain ⟨Ax, cx, rfl, hcx, hx⟩ := hN.told
    have hbs := hbw.size
    by_cases h0 : n1 = 0 ∨ n2 = 0
    · have hM2 : Hid (out ++ a' ++ b' = M) := hide (by
        rw [← hM.out]
        rcases h0 with h0 | h0
        · have : a' = [] := List.eq_nil_of_length_eq_zero (by rw [ha.len, h0])
          subst this
          rw [merge_nil_left]; simp
        · have : b' = [] := List.eq_nil_of_length_eq_zero (by rw [hb.len, h0])
          subst this
          rw [merge_nil]; simp)
      obtain ⟨r1, hr1, hf1⟩ := ha
      obtain ⟨r2, hr2, hf2⟩ := hb
      have ho1 := rcs_one r1 hf1.slices
      have ho2 := rcs_one r2 hf2.slices
      clear hM hsa hsb hx
      have hcase : ∀ (P : Prop), (n1 = 0 → P) → (¬ n1 = 0 → n2 = 0 → P) → P := fun P p1 p2 => by
        by_cases g : n1 = 0
        · exact p1 g
        · exact p2 g (h0.resolve_left g)
      refine hcase _ (fun g => ?_) (fun g g2 => ?_) <;> clear hcase h0
      · have hz : ¬ 0 < n1 := by omega
        clear g
        go_wp2_with (first
          | (at_builtin
             have hfirst := hN2
             refine wpList_append_any _ rfl (.tmp 66) (.tmp 67) _ rfl w.heap.size 33 i0 _ 2 40 Tryz.underlying22 hi0 hz0 hz1 hz2 rfl (by omega) _ (n + n1) (rcs (rs ++ r1)) rfl hN2.1 _ _ n2 _ _ rfl (hr2.below hbw2f) ho2 (by unfold maxLen; omega) (by omega) hbs2 ?_
             intro v2 w3 hown3 hg3 _
             have hN3 := hN2.cat (AllIn.of_fits (hf2.below hbw2f) hbs2) hown3 hg3
             have hb3 : Below w.heap.size w w3 := hbw2.grown hg3 hbs2 (fun k hk => (hN2.1.lt k hk).1))
          | (at_builtin
             refine wpList_append_any _ rfl (.tmp 64) (.tmp 65) _ rfl w.heap.size 33 i0 _ 2 40 Tryz.underlying22 hi0 hz0 hz1 hz2 rfl (by omega) _ n (rcs rs) rfl hN.1 _ _ n1 _ _ rfl hr1 ho1 (by unfold maxLen; omega) (by omega) hbs ?_
             intro v1 w2 hown2 hg2 _
             have hN2 := hN.cat (AllIn.of_fits hf1 hbs) hown2 hg2
             have hbw2 : Below w.heap.size w w2 := hbw.grown hg2 hbs (fun k hk => (hN.1.lt k hk).1)
             have hbs2 := hbw2.size
             have hbw2f : Below w.heap.size wr w2 := ⟨hg2.os, hg2.tape, hg2.output, hg2.size, fun i hi => hg2.block i (by omega) (fun e => by have := (hN.1.lt _ e.symm).1; omega)⟩
             obtain ⟨Aw, cw, rfl, _, _⟩ := hN2.told))
        obtain ⟨Aq, cq, rfl, _, hq⟩ := hN3.told
        rw [hM2.out] at hq
        go_ret
        exact ⟨Aq, n + n1 + n2, cq, rfl, hq, hb3⟩
      · have hz : 0 < n1 := by omega
        have hzb : ¬ 0 < n2 := by omega
        clear g g2
        go_wp2_with (first
          | (at_builtin
             have hfirst := hN2
             refine wpList_append_any _ rfl (.tmp 66) (.tmp 67) _ rfl w.heap.size 33 i0 _ 2 40 Tryz.underlying22 hi0 hz0 hz1 hz2 rfl (by omega) _ (n + n1) (rcs (rs ++ r1)) rfl hN2.1 _ _ n2 _ _ rfl (hr2.below hbw2f) ho2 (by unfold maxLen; omega) (by omega) hbs2 ?_
             intro v2 w3 hown3 hg3 _
             have hN3 := hN2.cat (AllIn.of_fits (hf2.below hbw2f) hbs2) hown3 hg3
             have hb3 : Below w.heap.size w w3 := hbw2.grown hg3 hbs2 (fun k hk => (hN2.1.lt k hk).1))
          | (at_builtin
             refine wpList_append_any _ rfl (.tmp 64) (.tmp 65) _ rfl w.heap.size 33 i0 _ 2 40 Tryz.underlying22 hi0 hz0 hz1 hz2 rfl (by omega) _ n (rcs rs) rfl hN.1 _ _ n1 _ _ rfl hr1 ho1 (by unfold maxLen; omega) (by omega) hbs ?_
             intro v1 w2 hown2 hg2 _
             have hN2 := hN.cat (AllIn.of_fits hf1 hbs) hown2 hg2
             have hbw2 : Below w.heap.size w w2 := hbw.grown hg2 hbs (fun k hk => (hN.1.lt k hk).1)
             have hbs2 := hbw2.size
             have hbw2f : Below w.heap.size wr w2 := ⟨hg2.os, hg2.tape, hg2.output, hg2.size, fun i hi => hg2.block i (by omega) (fun e => by have := (hN.1.lt _ e.symm).1; omega)⟩
             obtain ⟨Aw, cw, rfl, _, _⟩ := hN2.told))
        obtain ⟨Aq, cq, rfl, _, hq⟩ := hN3.told
        rw [hM2.out] at hq
        go_ret
        exact ⟨Aq, n + n1 + n2, cq, rfl, hq, hb3⟩
    · obtain ⟨k1, rfl⟩ : ∃ k, n1 = k + 1 := ⟨n1 - 1, by omega⟩
      obtain ⟨k2, rfl⟩ : ∃ k, n2 = k + 1 := ⟨n2 - 1, by omega⟩
      obtain ⟨d1, rfl⟩ : ∃ k, c1 = k + 1 := ⟨c1 - 1, by omega⟩
      obtain ⟨d2, rfl⟩ : ∃ k, c2 = k + 1 := ⟨c2 - 1, by omega⟩
      obtain ⟨ad1, q1, t1, B1, m1, e1, rfl, hl1, rfl, hs1, x1, y1⟩ := ha.head_
      obtain ⟨ad2, q2, t2, B2, m2, e2, rfl, hl2, rfl, hs2, x2, y2⟩ := hb.head_
      have ht1 := hide (ha.rest_ (d := d1) (by omega))
      have ht2 := hide (hb.rest_ (d := d2) (by omega))
      have HA := hide ha
      have HB := hide hb
      have p1 := hsa.out q1 (by simp)
      have p2 := hsb.out q2 (by simp)
      have P1 := hide (fun q (hq : q ∈ t1) => hsa.out q (by simp [hq]))
      have P2 := hide (fun q (hq : q ∈ t2) => hsb.out q (by simp [hq]))
      obtain ⟨nm1, s1⟩ := q1
      obtain ⟨nm2, s2⟩ := q2
      simp only [] at x1 y1 x2 y2 hs1 hs2 p1 p2
      have z1 := cell_reg_ x1 (by omega)
      have z2 := cell_reg_ y1 (by show ad1.block < _; omega)
      have z3 := cell_reg_ x2 (by omega)
      have z4 := cell_reg_ y2 (by show ad2.block < _; omega)
      have hn0 : (0 : Int) < ((k1 + 1 : Nat) : Int) := by omega
      have hn1 : (0 : Int) < ((k2 + 1 : Nat) : Int) := by omega
      have hmlt := hide (fun (h : nlt nm1 nm2 = true) => (congrArg (out ++ ·) (@merge_lt (nm1, s1) (nm2, s2) t1 t2 h)).symm.trans hM.out)
      have hmgt := hide (fun (h : nlt nm2 nm1 = true) => (congrArg (out ++ ·) (@merge_gt (nm1, s1) (nm2, s2) t1 t2 h)).symm.trans hM.out)
      have hmeq := hide (fun (h : nm1 = nm2) => (congrArg (out ++ ·) (@merge_eq (nm1, s1) (nm2, s2) t1 t2 h)).symm.trans hM.out)
      have HT := hide (fun (wx : World) => stand_any nm1 nm2 B1 B2 m1 e1 m2 e2 wx)
      have HE := hide (fun (wx : World) (hbx : Below wr.heap.size wr wx) => meetN_any nm1 nm2 B1 B2 m1 e1 m2 e2 s1 s2 wx ((hs1.below (hbx.mono hbs)).more (Nat.le_trans hbs hbx.size)) ((hs2.below (hbx.mono hbs)).more (Nat.le_trans hbs hbx.size)) p1 p2)
      have hcmp : (nlt nm1 nm2 = true ∧ cmpN nm1 nm2 = -1) ∨ (nlt nm2 nm1 = true ∧ cmpN nm1 nm2 = 1) ∨ (nm1 = nm2 ∧ cmpN nm1 nm2 = 0) := by
        unfold cmpN
        by_cases g1 : nlt nm1 nm2 = true
        · exact .inl ⟨g1, if_pos g1⟩
        · by_cases g2 : nlt nm2 nm1 = true
          · exact .inr (.inl ⟨g2, by rw [if_neg g1, if_pos g2]⟩)
          · exact .inr (.inr ⟨nlt_tri (by simpa using g1) (by simpa using g2), by rw [if_neg g1, if_neg g2]⟩)
      generalize cmpN nm1 nm2 = C at *
      have X1 := hide x1
      have Y1 := hide y1
      have X2 := hide x2
      have Y2 := hide y2
      have Hs1 := hide hs1
      have Hs2 := hide hs2
      have hxl : Hid (out.length = n) := hide hN.len
      clear ha hb hM p1 p2 x1 y1 x2 y2 hx hs1 hs2 h0
      rcases hcmp with ⟨g, rfl⟩ | ⟨g, rfl⟩ | ⟨g, rfl⟩
      · have hm := hide (hmlt.out g)
        clear g hmlt hmgt hmeq
        go_upto_region 3 with fail
        refine wp_region_grow [(26, isC (.int .i64 (-1)))] [26]
          (by kernel_rfl) (by kernel_rfl) rfl (by kernel_rfl) (by kernel_rfl) ⟨isC_stable _, trivial⟩ ?_
        repeat (first
          | (refine lex_skip rfl ?_; simp only [Act.put, List.setIfInBounds_toArray, List.set_cons_zero, List.set_cons_succ])
          | (refine lex_quiet rfl rfl rfl (fun K hK => ?_); unfold Reg; go_big_quiet_op; refine hK _ ?_; clear hK K)
          | (refine lex_rel rfl rfl (fun w' hb9 hK => ?_) (fun v w' hb9 hv => ?_)
             · unfold grows
               go_simp
               go_at_call 27
               exact call_isC (HT.out w')
             obtain rfl := hv
             simp only [Act.put, List.setIfInBounds_toArray, List.set_cons_zero, List.set_cons_succ]))
        refine lex_nil (fun w3 hC3 _ => ?_)
        have hb3 := reg_iff.1 hC3
        clear hC3
        have hbw3 := hbw.trans (hb3.mono hbs)
        have hbs3 := hbw3.size
        have hN3 := hN.below hb3
        have Z1 := (hb3.cell (p := ad1) (by omega)).trans X1.out
        have Z2 := (hb3.cell (p := ⟨ad1.block, ad1.off + 1, none⟩) (by show ad1.block < _; omega)).trans Y1.out
        have Z3 := (hb3.cell (p := ad2) (by omega)).trans X2.out
        have Z4 := (hb3.cell (p := ⟨ad2.block, ad2.off + 1, none⟩) (by show ad2.block < _; omega)).trans Y2.out
        clear z1 z2 z3 z4
        have z1 := fun d os => (below_regrown w3 d os).cell (p := ad1) (by omega) |>.trans Z1
        have z2 := fun d os => (below_regrown w3 d os).cell (p := ⟨ad1.block, ad1.off + 1, none⟩) (by show ad1.block < _; omega) |>.trans Z2
        have z3 := fun d os => (below_regrown w3 d os).cell (p := ad2) (by omega) |>.trans Z3
        have z4 := fun d os => (below_regrown w3 d os).cell (p := ⟨ad2.block, ad2.off + 1, none⟩) (by show ad2.block < _; omega) |>.trans Z4
        clear HT HE
        go_upto_region 6 with fail
        refine wp_region_grow_w [(49, rowN w.heap.size nm1 s1)] [49] 5 (putsN w.heap.size n rs (.slice Ax n cx) nm1 s1) _
          (by kernel_rfl) (by kernel_rfl) rfl (by kernel_rfl) (by kernel_rfl) (by kernel_rfl) rfl rfl (by kernel_rfl) (by kernel_rfl) ⟨rowN_stable _ _ _, trivial⟩ ?_
        repeat (first
          | (refine lexK_skip (by decide) rfl ?_; simp only [Act.put, List.setIfInBounds_toArray, List.set_cons_zero, List.set_cons_succ])
          | (refine lexK_quiet (by decide) rfl rfl rfl (fun K hK => ?_); unfold Reg; go_big_quiet_op; refine hK _ ?_; clear hK K)
          | (refine lexK_rel (by decide) rfl rfl (fun w' hb9 hK => ?_) (fun v w' hb9 hv => ?_)
             · unfold grows
               go_simp
               refine ⟨alloc_b _, some ⟨w'.heap.size, 0, none⟩, 1, B1, m1, e1, rfl, (reads_need w' nm1 _ _ _ _ _ rfl).more (by simp), InS.below ?_ (alloc_b _)⟩
               exact InS.of_in (Hs1.out.below ((hb3.trans (hb9.mono hb3.size)).mono hbs)) (Nat.le_trans hbs3 hb9.size)
             obtain ⟨A6, c6, A7, n7, c7, rfl, hr6, hI6⟩ := hv
             simp only [Act.put, List.setIfInBounds_toArray, List.set_cons_zero, List.set_cons_succ])
          | (refine lexK_wr rfl rfl (fun w' hb9 hK => ?_) (fun v w' w'' hb9 hv => ?_)
             · obtain ⟨A4, c4, A5, n5, c5, e4, hr4, hI4⟩ := hK.at_ 49 rfl (slice_def2 _ _ _)
               injection e4 with e5 e6 e7
               subst e5 e7
               have hN4 := hN3.below hb9
               refine grows_append (.tmp 45) (.tmp 49) _ rfl w.heap.size 33 i0 _ 2 40 Tryz.underlying22 hi0 hz0 hz1 hz2 rfl (by omega) _ n (rcs rs) rfl hN4.1 _ _ 1 _ _ rfl hr4 (one_need _ _ _ _) (by unfold maxLen; omega) (by omega) (Nat.le_trans hbs3 hb9.size) ?_
               intro v' w5 hown hg _
               exact ⟨_, _, _, hI4, hown, hg⟩
             obtain ⟨Av, cv, rfl⟩ := putsN_slice hv
             simp only [Act.put, List.setIfInBounds_toArray, List.set_cons_zero, List.set_cons_succ])
          | (refine lexK_late (by decide) rfl rfl (fun K hK => ?_); go_big_quiet_op; refine hK _ ?_; clear hK K))
        refine lexK_nil (fun w9 w1 v hC9 hall hS hd => ?_)
        have hb9 := reg_iff.1 hC9
        have hv9 := (hd 50 rfl).resolve_right (slice_def2 _ _ _)
        have hv9' : Value.slice Av (n + 1) cv = v := hv9
        subst hv9'
        have hbx1 := hbw3.trans (hb9.mono hbs3)
        have hN9 := hN3.below hb9
        obtain ⟨rs9, hN10⟩ := putsN_told hN9 hS
        have hb10 := putsN_below (B0 := 0) hN9 hbx1 hbx1.size hS
        have hbgx : Below w.heap.size w1 w9 := by
          obtain ⟨_, _, _, _, _, hg⟩ := hS
          exact ⟨hg.os, hg.tape, hg.output, hg.size, fun i hi => hg.block i (Nat.lt_of_lt_of_le hi hbx1.size) (fun e => by have := (hN9.1.lt _ e.symm).1; omega)⟩
        clear hall hd hS hv9 hC9
        go_wp2
        go_roundw
        case rel => exact ⟨_, _, k1, d1, k2 + 1, d2 + 1, n + 1, rs9, t1, (nm2, s2) :: t2, out ++ [(nm1, s1)], rfl, rfl, by omega, hc2, ((ht1.out.below ((hb3.trans (hb9.mono hb3.size)).mono hbs)).below hbgx), ((HB.out.below ((hb3.trans (hb9.mono hb3.size)).mono hbs)).below hbgx), hN10, hide (by rw [← hm.out]; simp), P1, hsb, by omega, hb10⟩
        case measure => first | (simp [lenV]; done) | (simp [lenV]; omega)
      · have hm := hide (hmgt.out g)
        clear g hmlt hmgt hmeq
        go_upto_region 3 with fail
        refine wp_region_grow [(26, isC (.int .i64 (1)))] [26]
          (by kernel_rfl) (by kernel_rfl) rfl (by kernel_rfl) (by kernel_rfl) ⟨isC_stable _, trivial⟩ ?_
        repeat (first
          | (refine lex_skip rfl ?_; simp only [Act.put, List.setIfInBounds_toArray, List.set_cons_zero, List.set_cons_succ])
          | (refine lex_quiet rfl rfl rfl (fun K hK => ?_); unfold Reg; go_big_quiet_op; refine hK _ ?_; clear hK K)
          | (refine lex_rel rfl rfl (fun w' hb9 hK => ?_) (fun v w' hb9 hv => ?_)
             · unfold grows
               go_simp
               go_at_call 27
               exact call_isC (HT.out w')
             obtain rfl := hv
             simp only [Act.put, List.setIfInBounds_toArray, List.set_cons_zero, List.set_cons_succ]))
        refine lex_nil (fun w3 hC3 _ => ?_)
        have hb3 := reg_iff.1 hC3
        clear hC3
        have hbw3 := hbw.trans (hb3.mono hbs)
        have hbs3 := hbw3.size
        have hN3 := hN.below hb3
        have Z1 := (hb3.cell (p := ad1) (by omega)).trans X1.out
        have Z2 := (hb3.cell (p := ⟨ad1.block, ad1.off + 1, none⟩) (by show ad1.block < _; omega)).trans Y1.out
        have Z3 := (hb3.cell (p := ad2) (by omega)).trans X2.out
        have Z4 := (hb3.cell (p := ⟨ad2.block, ad2.off + 1, none⟩) (by show ad2.block < _; omega)).trans Y2.out
        clear z1 z2 z3 z4
        have z1 := fun d os => (below_regrown w3 d os).cell (p := ad1) (by omega) |>.trans Z1
        have z2 := fun d os => (below_regrown w3 d os).cell (p := ⟨ad1.block, ad1.off + 1, none⟩) (by show ad1.block < _; omega) |>.trans Z2
        have z3 := fun d os => (below_regrown w3 d os).cell (p := ad2) (by omega) |>.trans Z3
        have z4 := fun d os => (below_regrown w3 d os).cell (p := ⟨ad2.block, ad2.off + 1, none⟩) (by show ad2.block < _; omega) |>.trans Z4
        clear HT HE
        go_upto_region 8 with fail
        refine wp_region_grow_w [(60, rowN w.heap.size nm2 s2)] [60] 5 (putsN w.heap.size n rs (.slice Ax n cx) nm2 s2) _
          (by kernel_rfl) (by kernel_rfl) rfl (by kernel_rfl) (by kernel_rfl) (by kernel_rfl) rfl rfl (by kernel_rfl) (by kernel_rfl) ⟨rowN_stable _ _ _, trivial⟩ ?_
        repeat (first
          | (refine lexK_skip (by decide) rfl ?_; simp only [Act.put, List.setIfInBounds_toArray, List.set_cons_zero, List.set_cons_succ])
          | (refine lexK_quiet (by decide) rfl rfl rfl (fun K hK => ?_); unfold Reg; go_big_quiet_op; refine hK _ ?_; clear hK K)
          | (refine lexK_rel (by decide) rfl rfl (fun w' hb9 hK => ?_) (fun v w' hb9 hv => ?_)
             · unfold grows
               go_simp
               refine ⟨alloc_b _, some ⟨w'.heap.size, 0, none⟩, 1, B2, m2, e2, rfl, (reads_need w' nm2 _ _ _ _ _ rfl).more (by simp), InS.below ?_ (alloc_b _)⟩
               exact InS.of_in (Hs2.out.below ((hb3.trans (hb9.mono hb3.size)).mono hbs)) (Nat.le_trans hbs3 hb9.size)
             obtain ⟨A6, c6, A7, n7, c7, rfl, hr6, hI6⟩ := hv
             simp only [Act.put, List.setIfInBounds_toArray, List.set_cons_zero, List.set_cons_succ])
          | (refine lexK_wr rfl rfl (fun w' hb9 hK => ?_) (fun v w' w'' hb9 hv => ?_)
             · obtain ⟨A4, c4, A5, n5, c5, e4, hr4, hI4⟩ := hK.at_ 60 rfl (slice_def2 _ _ _)
               injection e4 with e5 e6 e7
               subst e5 e7
               have hN4 := hN3.below hb9
               refine grows_append (.tmp 56) (.tmp 60) _ rfl w.heap.size 33 i0 _ 2 40 Tryz.underlying22 hi0 hz0 hz1 hz2 rfl (by omega) _ n (rcs rs) rfl hN4.1 _ _ 1 _ _ rfl hr4 (one_need _ _ _ _) (by unfold maxLen; omega) (by omega) (Nat.le_trans hbs3 hb9.size) ?_
               intro v' w5 hown hg _
               exact ⟨_, _, _, hI4, hown, hg⟩
             obtain ⟨Av, cv, rfl⟩ := putsN_slice hv
             simp only [Act.put, List.setIfInBounds_toArray, List.set_cons_zero, List.set_cons_succ])
          | (refine lexK_late (by decide) rfl rfl (fun K hK => ?_); go_big_quiet_op; refine hK _ ?_; clear hK K))
        refine lexK_nil (fun w9 w1 v hC9 hall hS hd => ?_)
        have hb9 := reg_iff.1 hC9
        have hv9 := (hd 61 rfl).resolve_right (slice_def2 _ _ _)
        have hv9' : Value.slice Av (n + 1) cv = v := hv9
        subst hv9'
        have hbx1 := hbw3.trans (hb9.mono hbs3)
        have hN9 := hN3.below hb9
        obtain ⟨rs9, hN10⟩ := putsN_told hN9 hS
        have hb10 := putsN_below (B0 := 0) hN9 hbx1 hbx1.size hS
        have hbgx : Below w.heap.size w1 w9 := by
          obtain ⟨_, _, _, _, _, hg⟩ := hS
          exact ⟨hg.os, hg.tape, hg.output, hg.size, fun i hi => hg.block i (Nat.lt_of_lt_of_le hi hbx1.size) (fun e => by have := (hN9.1.lt _ e.symm).1; omega)⟩
        clear hall hd hS hv9 hC9
        go_wp2
        go_roundw
        case rel => exact ⟨_, _, k1 + 1, d1 + 1, k2, d2, n + 1, rs9, (nm1, s1) :: t1, t2, out ++ [(nm2, s2)], rfl, rfl, hc1, by omega, ((HA.out.below ((hb3.trans (hb9.mono hb3.size)).mono hbs)).below hbgx), ((ht2.out.below ((hb3.trans (hb9.mono hb3.size)).mono hbs)).below hbgx), hN10, hide (by rw [← hm.out]; simp), hsa, P2, by omega, hb10⟩
        case measure => first | (simp [lenV]; done) | (simp [lenV]; omega)
      · have hm := hide (hmeq.out g)
        clear g hmlt hmgt hmeq
        go_upto_region 3 with fail
        refine wp_region_grow [(26, isC (.int .i64 (0)))] [26]
          (by kernel_rfl) (by kernel_rfl) rfl (by kernel_rfl) (by kernel_rfl) ⟨isC_stable _, trivial⟩ ?_
        repeat (first
          | (refine lex_skip rfl ?_; simp only [Act.put, List.setIfInBounds_toArray, List.set_cons_zero, List.set_cons_succ])
          | (refine lex_quiet rfl rfl rfl (fun K hK => ?_); unfold Reg; go_big_quiet_op; refine hK _ ?_; clear hK K)
          | (refine lex_rel rfl rfl (fun w' hb9 hK => ?_) (fun v w' hb9 hv => ?_)
             · unfold grows
               go_simp
               go_at_call 27
               exact call_isC (HT.out w')
             obtain rfl := hv
             simp only [Act.put, List.setIfInBounds_toArray, List.set_cons_zero, List.set_cons_succ]))
        refine lex_nil (fun w3 hC3 _ => ?_)
        have hb3 := reg_iff.1 hC3
        clear hC3
        have hbw3 := hbw.trans (hb3.mono hbs)
        have hbs3 := hbw3.size
        have hN3 := hN.below hb3
        have Z1 := (hb3.cell (p := ad1) (by omega)).trans X1.out
        have Z2 := (hb3.cell (p := ⟨ad1.block, ad1.off + 1, none⟩) (by show ad1.block < _; omega)).trans Y1.out
        have Z3 := (hb3.cell (p := ad2) (by omega)).trans X2.out
        have Z4 := (hb3.cell (p := ⟨ad2.block, ad2.off + 1, none⟩) (by show ad2.block < _; omega)).trans Y2.out
        clear z1 z2 z3 z4
        have z1 := fun d os => (below_regrown w3 d os).cell (p := ad1) (by omega) |>.trans Z1
        have z2 := fun d os => (below_regrown w3 d os).cell (p := ⟨ad1.block, ad1.off + 1, none⟩) (by show ad1.block < _; omega) |>.trans Z2
        have z3 := fun d os => (below_regrown w3 d os).cell (p := ad2) (by omega) |>.trans Z3
        have z4 := fun d os => (below_regrown w3 d os).cell (p := ⟨ad2.block, ad2.off + 1, none⟩) (by show ad2.block < _; omega) |>.trans Z4
        clear HT
        go_upto_region 4 with fail
        refine wp_region_grow_w [(35, needV nm1 (meetS s1 s2)), (36, rowN w.heap.size nm1 (meetS s1 s2))] [35, 36] 10 (putsN w.heap.size n rs (.slice Ax n cx) nm1 (meetS s1 s2)) _
          (by kernel_rfl) (by kernel_rfl) rfl (by kernel_rfl) (by kernel_rfl) (by kernel_rfl) rfl rfl (by kernel_rfl) (by kernel_rfl) ⟨needV_stable _ _, rowN_stable _ _ _, trivial⟩ ?_
        repeat (first
          | (refine lexK_skip (by decide) rfl ?_; simp only [Act.put, List.setIfInBounds_toArray, List.set_cons_zero, List.set_cons_succ])
          | (refine lexK_quiet (by decide) rfl rfl rfl (fun K hK => ?_); unfold Reg; go_big_quiet_op; refine hK _ ?_; clear hK K)
          | (refine lexK_rel (by decide) rfl rfl (fun w' hb9 hK => ?_) (fun v w' hb9 hv => ?_)
             · unfold grows
               go_simp
               go_at_call 29
               refine (HE.out w' (hb3.trans (hb9.mono hb3.size))).mono ?_
               rintro e w5 ⟨A5, n5, c5, rfl, hI5, hb5⟩
               exact ⟨_, rfl, hb5, A5, n5, c5, rfl, hI5⟩
             obtain ⟨A8, n8, c8, rfl, hI8⟩ := hv
             simp only [Act.put, List.setIfInBounds_toArray, List.set_cons_zero, List.set_cons_succ])
          | (refine lexK_rel (by decide) rfl rfl (fun w' hb9 hK => ?_) (fun v w' hb9 hv => ?_)
             · obtain ⟨A9, n9, c9, e9, hI9⟩ := hK.at_ 35 rfl rfl (agg_def2 _)
               have e10 : Value.agg #[.string nm1, .slice A8 n8 c8] = .agg #[.string nm1, .slice A9 n9 c9] := e9
               injection e10 with e10
               injection e10 with e10
               simp only [List.cons.injEq, Value.slice.injEq, and_true, true_and] at e10
               obtain ⟨rfl, rfl, rfl⟩ := e10
               unfold grows
               go_simp
               exact ⟨alloc_b _, some ⟨w'.heap.size, 0, none⟩, 1, A8, n8, c8, rfl, (reads_need w' nm1 A8 n8 c8 _ _ rfl).more (by simp), (hI9.any _).below (alloc_b _)⟩
             obtain ⟨A6, c6, A7, n7, c7, rfl, hr6, hI6⟩ := hv
             simp only [Act.put, List.setIfInBounds_toArray, List.set_cons_zero, List.set_cons_succ])
          | (refine lexK_wr rfl rfl (fun w' hb9 hK => ?_) (fun v w' w'' hb9 hv => ?_)
             · obtain ⟨A4, c4, A5, n5, c5, e4, hr4, hI4⟩ := hK.at_ 36 rfl (slice_def2 _ _ _)
               injection e4 with e5 e6 e7
               subst e5 e7
               have hN4 := hN3.below hb9
               refine grows_append (.tmp 27) (.tmp 36) _ rfl w.heap.size 33 i0 _ 2 40 Tryz.underlying22 hi0 hz0 hz1 hz2 rfl (by omega) _ n (rcs rs) rfl hN4.1 _ _ 1 _ _ rfl hr4 (one_need _ _ _ _) (by unfold maxLen; omega) (by omega) (Nat.le_trans hbs3 hb9.size) ?_
               intro v' w5 hown hg _
               exact ⟨_, _, _, hI4, hown, hg⟩
             obtain ⟨Av, cv, rfl⟩ := putsN_slice hv
             simp only [Act.put, List.setIfInBounds_toArray, List.set_cons_zero, List.set_cons_succ])
          | (refine lexK_late (by decide) rfl rfl (fun K hK => ?_); go_big_quiet_op; refine hK _ ?_; clear hK K))
        refine lexK_nil (fun w9 w1 v hC9 hall hS hd => ?_)
        have hb9 := reg_iff.1 hC9
        have hv9 := (hd 37 rfl).resolve_right (slice_def2 _ _ _)
        have hv9' : Value.slice Av (n + 1) cv = v := hv9
        subst hv9'
        have hbx1 := hbw3.trans (hb9.mono hbs3)
        have hN9 := hN3.below hb9
        obtain ⟨rs9, hN10⟩ := putsN_told hN9 hS
        have hb10 := putsN_below (B0 := 0) hN9 hbx1 hbx1.size hS
        have hbgx : Below w.heap.size w1 w9 := by
          obtain ⟨_, _, _, _, _, hg⟩ := hS
          exact ⟨hg.os, hg.tape, hg.output, hg.size, fun i hi => hg.block i (Nat.lt_of_lt_of_le hi hbx1.size) (fun e => by have := (hN9.1.lt _ e.symm).1; omega)⟩
        clear hall hd hS hv9 hC9
        go_wp2
        go_roundw
        case rel => exact ⟨_, _, k1, d1, k2, d2, n + 1, rs9, t1, t2, out ++ [(nm1, meetS s1 s2)], rfl, rfl, by omega, by omega, ((ht1.out.below ((hb3.trans (hb9.mono hb3.size)).mono hbs)).below hbgx), ((ht2.out.below ((hb3.trans (hb9.mono hb3.size)).mono hbs)).below hbgx), hN10, hide (by rw [← hm.out]; simp), P1, P2, by omega, hb10⟩
        case measure => first | (simp [lenV]; done) | (simp [lenV]; omega)
set_option maxHeartbeats 2000000 in
theorem bothN_any (a b : List Nd) (Aa Ab : Option Addr) (na ca nb cb : Nat) (w : World) (ha : NdOn w Aa na a) (hb : NdOn w Ab nb b)
    (hsa : ∀ q ∈ a, q.1.size ≤ 1000000000 ∧ isSet (-1) q.2 = true) (hsb : ∀ q ∈ b, q.1.size ≤ 1000000000 ∧ isSet (-1) q.2 = true) (hna : na ≤ 1000000) (hnb : nb ≤ 1000000) :
    Calls Tryz.prog 14 #[.slice Aa na ca, .slice Ab nb cb] w fun e w' =>
      ∃ A n c, e = .returned (.slice A n c) ∧ NdOn w' A n (mergeS a b) ∧ Below w.heap.size w w' := by
  have H1 := hide (clonesN_any a Aa na ca w ha (fun q hq => ⟨(hsa q hq).1, len_le (hsa q hq).2⟩) hna)
  have H2 := hide (fun wx (hbx : Below w.heap.size w wx) => clonesN_any b Ab nb cb wx (hb.on hbx) (fun q hq => ⟨(hsb q hq).1, len_le (hsb q hq).2⟩) hnb)
  have H3 := hide (fun wx A1 c1 A2 c2 (h1 : NdOn wx A1 na a) (h2 : NdOn wx A2 nb b) (g1 : na ≤ c1) (g2 : nb ≤ c2) => together_any a b A1 A2 na c1 nb c2 wx h1 h2 g1 g2 (fun q hq => (hsa q hq).2) (fun q hq => (hsb q hq).2) hna hnb)
  clear ha hb
  generalize mergeS a b = M at *
  go_enter Tryz.func14, Tryz.ntmps14
  go_wp2_with (first
    | (go_at_call 31
       refine (H3.out _ _ _ _ _ h1' h2 g1 g2).mono ?_
       rintro e w3 ⟨A3, n3, c3, rfl, h3, hb3⟩)
    | (go_at_call 32
       refine (H2.out _ hb1).mono ?_
       rintro e w2 ⟨A2, c2, rfl, g2, h2, hb2⟩
       have h1' := h1.on hb2
       have hb12 := hb1.trans (hb2.mono hb1.size))
    | (go_at_call 32
       refine H1.out.mono ?_
       rintro e w1 ⟨A1, c1, rfl, g1, h1, hb1⟩))
  go_ret
  exact ⟨_, _, _, rfl, h3, hb12.trans (hb3.mono hb12.size)⟩
end Go.Proofs.YtmcpdcfeappokaaGreatDoor.Need
