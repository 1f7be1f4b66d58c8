/-
  Some texts of this claim, one behind the other: ClashConcat. What each proves, and its condition, stands at its head.
-/
import Derived.Test.YtdmejcfnolhplaaGreatZA40
import Derived.Shelf.Spec.SlicesGrow
/-
  The library's Grow at terms, laid at this program, and Concat's contract at two slices of terms. Condition: at most 1,000 terms together.
-/
namespace Go.Proofs.YtdmejcfnolhplaaGreat.Clash
open Go Go.RowKit Go.Lib Go.Shelf Go.Proofs.YtdmejcfnolhplaaGreat.Span Go.Proofs.YtdmejcfnolhplaaGreat.Need Go.Proofs.YtdmejcfnolhplaaGreat.Grow Go.Proofs.YtdmejcfnolhplaaGreat.Term
set_option linter.unusedVariables false
def growRenC : Ren := ⟨fun | 4 => 121 | n => n, fun | 0 => 0 | 3 => 3 | 4 => 4 | 9 => 9 | 20 => 20 | 22 => 41 | 25 => 77 | n => n, fun n => n⟩
theorem growLaysC : Lays8.n4 Tryz.prog growRenC := {
  mixed := by kernel_rfl
  f4 := ⟨ "slices.Grow[[]comprador/api.Term,comprador/api.Term]", by decide, Tryz.func121.trans (congrArg some (by kernel_rfl))⟩
  t0 := Tryz.underlying0
  a0 := Tryz.isAgg0
  z0 := Tryz.sizeOf0
  v0 := Tryz.zeroValue0
  t3 := Tryz.underlying3
  a3 := Tryz.isAgg3
  z3 := Tryz.sizeOf3
  v3 := Tryz.zeroValue3
  t4 := Tryz.underlying4
  a4 := Tryz.isAgg4
  z4 := Tryz.sizeOf4
  v4 := Tryz.zeroValue4
  t9 := Tryz.underlying9
  a9 := Tryz.isAgg9
  z9 := Tryz.sizeOf9
  v9 := Tryz.zeroValue9
  t20 := Tryz.underlying20
  a20 := Tryz.isAgg20
  z20 := Tryz.sizeOf20
  v20 := Tryz.zeroValue20
  t22 := Tryz.underlying41
  a22 := Tryz.isAgg41
  z22 := Tryz.sizeOf41
  v22 := Tryz.zeroValue41 }
theorem growC_any (z : Int) (k : Nat) (w : World) (hz : z = (k : Int)) (hk : k ≤ 1000) :
    Calls Tryz.prog 121 #[.slice none 0 0, .int .i64 z] w fun e w' => ∃ v, e = .returned v ∧ Tms w' w.heap.size v 0 [] [] ∧ Below w.heap.size w w' := by
  subst hz
  obtain ⟨i0, hi0, hz0, hz1, hz2⟩ := info_parts info_term
  by_cases h0 : k = 0
  · subst h0
    refine (Any8.slices_Grow_room growLaysC none 0 0 0 w (Nat.le_refl _) (by omega) (by omega) (Nat.le_refl _)).mono ?_
    rintro e w' ⟨rfl, rfl⟩
    exact ⟨_, rfl, Tms.nil_ _ _, Below.refl _ _⟩
  · refine (Any8.slices_Grow_grow growLaysC i0 _ hi0 hz0 (by rw [hz1]; omega) none 0 0 k [] w (Nat.le_refl _) (by omega) (by rw [hz2]; omega) (by omega) (by simp) (fun _ => rfl) (fun a ha => by cases ha)).mono ?_
    rintro e w' ⟨he, hw⟩
    have hge := grownCap_ge w (0 + k) 0 77
    have hle := grownCap_le_maxLen w (0 + k) 0 77 (by unfold maxLen; omega)
    obtain ⟨G, hG⟩ : ∃ G, G = grownCap w (0 + k) 0 77 := ⟨_, rfl⟩
    have he2 : e = .returned (.slice (some ⟨w.heap.size, 0, none⟩) 0 G) := by rw [hG]; exact he
    have hw2 : w' = w.drew.alloc (.cells (([] : List Value).toArray ++ Builtin.zeroCells (Value.agg #[.string ByteArray.empty, .slice none 0 0, .bool false]).cells (0 + k - 0) ++ Builtin.zeroCells (Value.agg #[.string ByteArray.empty, .slice none 0 0, .bool false]).cells (G - (0 + k))) 77) := by rw [hG]; exact hw
    rw [← hG] at hge hle
    clear he hw hG
    subst he2 hw2
    have hsz : (Value.agg #[.string ByteArray.empty, .slice none 0 0, .bool false]).cells.size = 3 := rfl
    generalize (Value.agg #[.string ByteArray.empty, .slice none 0 0, .bool false]).cells = zc at *
    refine ⟨_, rfl, ⟨⟨rfl, .inr ⟨w.heap.size, _, _, rfl, Nat.le_refl _, heap_alloc_new w.drew _, Nat.zero_le _, hle, ?_, by simp [tms]⟩⟩, rfl, fun i r q hr _ => by simp at hr⟩, ((Below.refl _ w).drew).alloc (Nat.le_refl _) _⟩
    simp only [Array.size_append, size_zeroCells, hsz, List.size_toArray, List.length_nil]
    omega
theorem fits_cells {w : World} {B : Nat} {rs : List Rt} {l : List Tm} (h : FitsT w B rs l) : ∀ u ∈ tms rs, u.oneCell' = true := tms_one rs fun r hr => by
  obtain ⟨i, hi, rfl⟩ := List.getElem_of_mem hr
  obtain ⟨_, _, A, n, c, e, _⟩ := h.2 i rs[i] (l[i]'(by rw [← h.1]; exact hi)) (by simp) (by simp)
  exact ⟨A, n, c, e⟩
set_option maxHeartbeats 8000000 in
set_option maxRecDepth 100000 in
theorem concatC_any (a b : List Tm) (A A' : Option Addr) (n c n' c' g Bs : Nat) (w : World) (hg : Blk w g 41 #[.slice A n c, .slice A' n' c']) (h : TmIn w Bs A n a) (h' : TmIn w Bs A' n' b) (hBs : Bs ≤ w.heap.size) (hn : n + n' ≤ 1000) :
    Calls Tryz.prog 82 #[.slice (some ⟨g, 0, none⟩) 2 2] w fun e w' => ∃ B m k rs, e = .returned (.slice B m k) ∧ w'.ownsRow w.heap.size 77 3 (.slice B m k) m (tms rs) ∧ AllT w' Bs rs (a ++ b) ∧ Below w.heap.size w w' := by
  obtain ⟨i0, hi0, hz0, hz1, hz2⟩ := info_parts info_term
  obtain ⟨ra, hra, hfa⟩ := h
  obtain ⟨rb, hrb, hfb⟩ := h'
  have Ra := hide hra
  have Rb := hide hrb
  have Fa := hide hfa
  have Fb := hide hfb
  have Oa := hide (fits_cells hfa)
  have Ob := hide (fits_cells hfb)
  have k0 := (hg.cell 0).trans (show (#[Value.slice A n c, .slice A' n' c'] : Array Value)[0]? = some (.slice A n c) from rfl)
  have k1 := (hg.cell 1).trans (show (#[Value.slice A n c, .slice A' n' c'] : Array Value)[1]? = some (.slice A' n' c') from rfl)
  have hx1 : ¬ ((n : Int) < 0) := by omega
  have hx2 : ¬ ((n : Int) + (n' : Int) < 0) := by omega
  clear hra hrb hfa hfb
  go_enter Tryz.func82, Tryz.ntmps82
  go_wp2
  refine wp_loop_rounds 3 ?_
  rw [rounds_succ]; go_wp2
  rw [rounds_succ]; go_wp2
  rw [rounds_succ]
  go_wp2_with (first
    | (go_at_call 121
       refine (growC_any _ (n + n') _ (by omega) (by omega)).mono ?_
       rintro e w1 ⟨v, rfl, N0, hb1⟩
       obtain ⟨A0, c0, rfl, _, _⟩ := N0.told
       have T0 : AllT w1 Bs [] [] := ⟨rfl, fun i r q hr _ => by simp at hr⟩
       have hg1 := hg.below hb1 hg.lt
       have q0 := (hg1.cell 0).trans (show (#[Value.slice A n c, .slice A' n' c'] : Array Value)[0]? = some (.slice A n c) from rfl)
       have q1 := (hg1.cell 1).trans (show (#[Value.slice A n c, .slice A' n' c'] : Array Value)[1]? = some (.slice A' n' c') from rfl)))
  have hs1 := hb1.size
  refine wp_loop_rounds 3 ?_
  rw [rounds_succ]
  go_wp2_with (first
    | (at_builtin
       refine wpList_append_any _ rfl (.tmp 31) (.tmp 32) _ rfl w.heap.size 77 i0 _ 3 48 Tryz.underlying41 hi0 hz0 hz1 hz2 rfl (by omega) _ 0 (tms []) rfl
         N0.1 w.heap.size _ _ _ _ rfl ((Ra.out.more hBs).below hb1) Oa.out (by unfold maxLen; omega) (by omega) (by omega) ?_
       intro v6 w6 hown6 hg6 hat6
       rw [Nat.zero_add] at hown6
       have T1 : AllT w6 Bs ([] ++ ra) ([] ++ a) := (T0.append (AllT.mono (AllT.of_fits Fa.out hBs) (fun A9 n9 s9 h9 => h9.below hb1))).mono fun _ _ _ hs => inS_grown hs N0.1 hBs (by decide) hg6
       rw [← tms_append] at hown6
       have hb2 : Below w.heap.size w w6 := hb1.grown hg6 hb1.size (fun k hk => (N0.1.lt k hk).1)
       obtain ⟨A6, c6, rfl, _, _⟩ := own_form hown6
       have hg2 := hg.below hb2 hg.lt
       have z0 := (hg2.cell 0).trans (show (#[Value.slice A n c, .slice A' n' c'] : Array Value)[0]? = some (.slice A n c) from rfl)
       have z1 := (hg2.cell 1).trans (show (#[Value.slice A n c, .slice A' n' c'] : Array Value)[1]? = some (.slice A' n' c') from rfl)))
  rw [rounds_succ]
  go_wp2_with (first
    | (at_builtin
       refine wpList_append_any _ rfl (.tmp 31) (.tmp 32) _ rfl w.heap.size 77 i0 _ 3 48 Tryz.underlying41 hi0 hz0 hz1 hz2 rfl (by omega) _ _ (tms ([] ++ ra)) rfl
         hown6 w.heap.size _ _ _ _ rfl ((Rb.out.more hBs).below hb2) Ob.out (by unfold maxLen; omega) (by omega) hb2.size ?_
       intro v7 w7 hown7 hg7 hat7
       have T2 : AllT w7 Bs (([] ++ ra) ++ rb) (([] ++ a) ++ b) := (T1.append (AllT.mono (AllT.of_fits Fb.out hBs) (fun A9 n9 s9 h9 => h9.below hb2))).mono fun _ _ _ hs => inS_grown hs hown6 hBs (by decide) hg7
       rw [← tms_append] at hown7
       have hb3 : Below w.heap.size w w7 := hb2.grown hg7 hb2.size (fun k hk => (hown6.lt k hk).1)
       obtain ⟨A7, c7, rfl, _, _⟩ := own_form hown7))
  rw [rounds_succ]
  go_wp2
  go_ret
  exact ⟨A7, _, c7, _, rfl, hown7, T2, hb3⟩
end Go.Proofs.YtdmejcfnolhplaaGreat.Clash
