/-
  Some texts of this claim, one behind the other: SpanOf. What each proves, and its condition, stands at its head.
-/
import Derived.Test.YtllogmokadcfmaaGreatZB50
import Derived.Test.YtllogmokadcfmaaGreatZB3
import Derived.Shelf.SlSortCmp.NoneTotal
/-
  The contract of the program's Of: the set of the places that any spans have; of One and All. Condition: at most 1,000,000 spans.
-/
namespace Go.Proofs.YtllogmokadcfmaaGreat.Span
open Go.RowKit Go.Lib
set_option linter.unusedVariables false
theorem flat_scs (d : Array S) : (Sort.flatK enc 2 d).toList = scs d.toList := by
  apply List.ext_getElem?
  intro t
  by_cases ht : t < d.size * 2
  · have hs : t < (Sort.flatK enc 2 d).size := by simpa using ht
    have e1 : (Sort.flatK enc 2 d).toList[t]? = some ((Sort.flatK enc 2 d)[t]!) := by
      rw [Array.getElem?_toList, getElem!_pos _ t hs, Array.getElem?_eq_getElem hs]
    rw [e1, Sort.get_flatK enc 2 d t ht]
    have hi : t / 2 < d.size := by omega
    have hg : d.toList[t / 2]? = some d[t / 2] := by rw [Array.getElem?_toList, Array.getElem?_eq_getElem hi]
    have hd : d[t / 2]! = d[t / 2] := getElem!_pos d _ hi
    obtain ⟨s1, s2⟩ := scs_get d.toList (t / 2) _ hg
    rw [hd]
    rcases Nat.mod_two_eq_zero_or_one t with h | h
    · have e2 : t = t / 2 * 2 := by omega
      rw [h]
      conv => rhs; rw [e2, s1]
      rfl
    · have e2 : t = t / 2 * 2 + 1 := by omega
      rw [h]
      conv => rhs; rw [e2, s2]
      rfl
  · rw [List.getElem?_eq_none (by simp; omega), List.getElem?_eq_none (by rw [scs_length, Array.length_toList]; omega)]
theorem block_sorted {w : World} {g m : Nat} {cur : Array Value} {e : TypeId} {d : Array S} {os : Array Obj} (hg : w.heap[g]? = some (.cells cur e (0, 0))) :
    (Sort.grow (Sort.putRowK enc 2 (Sort.ahead w m) g 0 d) os).heap[g]? = some (.cells (Sort.putCells id 0 (Sort.flatK enc 2 d) cur) e (0, 0)) := by
  have hlt : g < w.heap.size := (Array.getElem?_eq_some_iff.1 hg).1
  rw [Sort.heap_grow_old _ _ (by unfold Sort.putRowK; rw [Sort.size_putRow]; exact hlt)]
  unfold Sort.putRowK Sort.putRow Sort.mapBlock
  simp only [Array.getElem?_modify, Sort.heap_ahead, if_true, hg, Option.map_some, Sort.onCells]
theorem block_other {w : World} {g m k : Nat} {d : Array S} {os : Array Obj} (hk : k < w.heap.size) (hne : k ≠ g) :
    (Sort.grow (Sort.putRowK enc 2 (Sort.ahead w m) g 0 d) os).heap[k]? = w.heap[k]? := by
  rw [Sort.heap_grow_old _ _ (by unfold Sort.putRowK; rw [Sort.size_putRow]; exact hk)]
  unfold Sort.putRowK Sort.putRow Sort.mapBlock
  simp only [Array.getElem?_modify, Sort.heap_ahead]
  rw [if_neg (fun h => hne h.symm)]
theorem take_put (F cur : Array Value) (n : Nat) (hF : F.size = n) (hc : n ≤ cur.size) : (Sort.putCells id 0 F cur).toList.take n = F.toList := by
  apply List.ext_getElem?
  intro t
  by_cases ht : t < n
  · rw [List.getElem?_take_of_lt ht, Array.getElem?_toList, Array.getElem?_toList]
    unfold Sort.putCells
    rw [Array.getElem?_mapIdx, Array.getElem?_eq_getElem (show t < cur.size by omega), Array.getElem?_eq_getElem (show t < F.size by omega)]
    simp only [Option.map_some, Option.some.injEq]
    rw [if_pos ⟨Nat.zero_le _, by omega⟩]
    simp only [id, Nat.sub_zero]
    exact getElem!_pos F t (by omega)
  · rw [List.getElem?_eq_none (by simp; omega), List.getElem?_eq_none (by simp; omega)]
set_option maxHeartbeats 1000000 in
theorem sort_new {B n c : Nat} {A : Option Addr} {l : List S} (w : World) (h : NewS w B A n c l) (hB : B ≤ w.heap.size) (hn : n ≤ 1000000001) :
    Calls Tryz.prog 83 #[.slice A n c, .func (.func 84) #[] #[]] w fun e w' =>
      e = .returned (.tuple #[]) ∧ ∃ d : List S, (∀ s, s ∈ d ↔ s ∈ l) ∧ d.length = l.length ∧ d.Pairwise (fun x y => x.1 ≤ y.1) ∧ NewS w' B A n c d ∧ Below B w w' := by
  rcases Nat.eq_zero_or_pos n with h0 | h0
  · subst h0
    have hl : l = [] := List.eq_nil_of_length_eq_zero h.1.symm
    subst hl
    refine (AnyF.slices_SortFunc_none sortLays A c _ w).mono ?_
    rintro e w' ⟨rfl, rfl⟩
    exact ⟨rfl, [], fun s => Iff.rfl, rfl, List.Pairwise.nil, h, Below.refl _ _⟩
  · have hlen := h.1
    have h0' := h
    obtain ⟨-, h2, h3, -⟩ := h0'
    rcases h3.2 with ⟨_, hn0⟩ | ⟨g, cap, cur, hv, hBg, hg, hnc, hm, hcs, ht⟩
    · omega
    injection hv with e1 e2 e3
    subst e1 e3
    have hglt : g < w.heap.size := (Array.getElem?_eq_some_iff.1 hg).1
    have hb : Blk w g 56 cur := hg
    have hsz : l.toArray.size = n := by simp [hlen]
    have hH : Sort.HoldsK enc 2 w g 0 l.toArray := by
      intro j hj
      have hj2 : j < n * 2 := by simpa [hlen] using hj
      rw [Nat.zero_add]
      refine ⟨?_, hb.frozen j⟩
      rw [hb.cell]
      have e1 : (scs l)[j]? = cur[j]? := by rw [← ht, List.getElem?_take_of_lt hj2, Array.getElem?_toList]
      have e2 := flat_scs l.toArray
      have e3 : (Sort.flatK enc 2 l.toArray).toList[j]? = some ((Sort.flatK enc 2 l.toArray)[j]!) := by
        rw [Array.getElem?_toList, getElem!_pos _ j hj, Array.getElem?_eq_getElem hj]
      rw [e2] at e3
      rw [← e1]
      exact e3
    have hcon := sort_at g 0 c l.toArray w hH hglt (by rw [hsz]; omega)
    rw [hsz] at hcon
    refine hcon.mono ?_
    rintro e w' ⟨rfl, d', m, os, hp, hso, rfl⟩
    obtain ⟨hps, _, hpp⟩ := hp
    rw [hsz] at hps
    have hd : d'.toList.Perm l := by
      have x1 : d'.extract 0 n = d' := by rw [← hps]; exact Array.extract_size
      have x2 : l.toArray.extract 0 n = l.toArray := by rw [← hsz]; exact Array.extract_size
      rw [x1, x2] at hpp
      exact hpp
    have hown : (sortWorldK enc 2 w g 0 m d' os).ownsRow B 56 2 (.slice (some ⟨g, 0, none⟩) n c) n (scs d'.toList) := by
      refine ⟨by rw [scs_length, Array.length_toList, hps], .inr ⟨g, c, _, rfl, hBg, block_sorted hg, hnc, hm, by simpa [Sort.putCells] using hcs, ?_⟩⟩
      rw [← flat_scs]
      exact take_put _ _ _ (by simp [hps]) (by omega)
    obtain ⟨A', c', e', hN⟩ := newS_of_own hown
    injection e' with e1' _ e3'
    subst e1' e3'
    refine ⟨rfl, d'.toList, fun s => hd.mem_iff, by rw [Array.length_toList, hps, hlen], ?_, hN, ?_⟩
    · rw [List.pairwise_iff_getElem]
      intro i j hi hj hij
      have hi' : i < d'.size := by simpa using hi
      have hj' : j < d'.size := by simpa using hj
      have := hso i j (Nat.zero_le _) hij (by omega)
      rw [ltLo, getElem!_pos d' j hj', getElem!_pos d' i hi'] at this
      simp at this
      simpa using this
    · refine ⟨rfl, rfl, rfl, ?_, fun k hk => ?_⟩
      · unfold sortWorldK
        rw [Sort.size_grow]; unfold Sort.putRowK; rw [Sort.size_putRow]
        exact Nat.le_add_right _ _
      · exact block_other (by omega) (by omega)
theorem some_step {l : List S} {i : Nat} {s : S} (h : l[i]? = some s) : some_ (l.take (i + 1)) = if (clamp s).1 < (clamp s).2 then some_ (l.take i) ++ [clamp s] else some_ (l.take i) := by
  rw [List.take_add_one, h]
  exact some_snoc _ _
theorem put_step {d : List S} {i : Nat} {s : S} (h : d[i]? = some s) : (d.take (i + 1)).foldl put [] = put ((d.take i).foldl put []) s := by
  rw [List.take_add_one, h]
  simp
theorem fold_len (d : List S) : ∀ L : List S, (d.foldl put L).length ≤ L.length + d.length := by
  induction d with
  | nil => intro L; simp
  | cons s t ih => intro L; have h1 := ih (put L s); have h2 := (put_length L s).1; simp only [List.foldl_cons, List.length_cons]; omega
set_option maxHeartbeats 4000000 in
set_option maxRecDepth 100000 in
theorem of_any {Bx n c : Nat} {A : Option Addr} {l : List S} (w : World) (h : SpIn w Bx A n l) (hB : Bx ≤ w.heap.size) (hn : n ≤ 1000000) :
    Calls Tryz.prog 67 #[.slice A n c] w fun e w' => ∃ A' m c', e = .returned (.slice A' m c') ∧ NewS w' w.heap.size A' m c' (ofS l) ∧ Below w.heap.size w w' := by
  obtain ⟨i0, hi0, hz0, hz1, hz2⟩ := info_parts info_span
  have hl : l.length = n := h.1
  have Hof := hide (fun d hm hs => @of_sorted l d hm hs)
  have Hsl := hide (some_length l)
  unfold ofS
  generalize nf (has l) = N at *
  go_enter Tryz.func67, Tryz.ntmps67
  go_wp2
  go_loopw [3, 11] (fun u v wr => ∃ (i : Nat) (A' : Option Addr) (m c' : Nat), i ≤ n ∧ u = .slice A' m c' ∧ v = .int .i64 (i : Int) ∧ NewS wr w.heap.size A' m c' (some_ (l.take i)) ∧ Below w.heap.size w wr) (fun _ v _ => n - (intOf v).toNat)
  case atStart => exact ⟨0, none, 0, 0, by omega, rfl, rfl, NewS.nil_ _ _, Below.refl _ _⟩
  case round =>
    obtain ⟨i, A', m, c', hi, rfl, rfl, hL, hb⟩ := hrel
    by_cases hlt : i < n
    · obtain ⟨ad, s, rfl, hbl, hx, c1, c2⟩ := (h.below (hb.mono hB)).at_ hlt
      have Hstep := hide (some_step hx)
      have hmn : m ≤ 1000000 := by
        rw [hL.1]
        refine Nat.le_trans (some_length _) ?_
        rw [List.length_take]; omega
      obtain ⟨x, y⟩ := s
      generalize some_ (l.take i) = L at *
      generalize hE : some_ (l.take (i + 1)) = L2 at *
      have HE := hide hE
      clear hE
      simp only [] at c1 c2
      clear hx Hof Hsl
      have hbs := hb.size
      go_upto_region 5 with fail
      go_cut [] (fun wx => ∃ u v : Int, Blk wx wr.heap.size 56 #[.int .i64 u, .int .i64 v] ∧ Hid ((u, v) = clamp (x, y)) ∧ Below wr.heap.size wr wx)
      case first =>
        go_wp2_with fail
        go_meet
        exact ⟨_, _, Blk.new _ _ _, hide rfl, (Below.refl _ _).alloc (Nat.le_refl _) _⟩
      case rest =>
        obtain ⟨u, v, hblk, hcl, hbx⟩ := hcut
        rw [← hcl.out] at Hstep
        have hL2 := hL.below hbx
        have hbw : Below w.heap.size w wc := hb.trans (hbx.mono hb.size)
        have hown := hL2.2.2.1
        have k1 := hblk.cell 0
        have k2 := hblk.cell 1
        have hbs2 := hbw.size
        simp only [] at Hstep
        clear hcl hblk hbx hL hb c1 c2
        by_cases hc : u < v
        · rw [if_pos hc] at Hstep
          go_wp2_with (at_builtin
                       refine wpList_append_any _ rfl (.tmp 27) (.tmp 29) _ rfl w.heap.size 56 i0 _ 2 16 Tryz.underlying36 hi0 hz0 hz1 hz2 rfl (by omega) _ _ _ rfl
                         (own_below hown ?_) _ _ 1 _ _ rfl (reads_one _ u v _ (by simp)) (scs_one _) (by unfold maxLen; omega) (by omega) (by simp; omega) ?_
                       · exact (Below.refl _ _).alloc (Nat.le_refl _) _
                       intro v1 w1 hown2 hg1 hat1
                       have hb2 : Below w.heap.size w w1 := (hbw.alloc hbs2 _).grown hg1 (by simp; omega) (fun k hk => (hown.lt k hk).1))
          go_roundw
          case rel =>
            rw [← scs_append] at hown2
            obtain ⟨A2, c2, rfl, hN2⟩ := newS_of_own hown2
            exact ⟨i + 1, A2, m + 1, c2, by omega, rfl, by go_num, by rw [HE.out, Hstep.out]; exact hN2, hb2⟩
          case measure => simp [intOf]; omega
        · rw [if_neg hc] at Hstep
          go_wp2
          go_roundw
          case rel => exact ⟨i + 1, A', m, c', by omega, rfl, by go_num, by rw [HE.out, Hstep.out]; exact hL2, hbw⟩
          case measure => simp [intOf]; omega
    · have hi2 : i = n := by omega
      have e : l.take i = l := List.take_of_length_le (by omega)
      rw [e] at hL
      clear e hlt
      have hm1 : m ≤ 1000000 := by have := hL.1; have := Hsl.out; omega
      have Hs := hide (@sort_new w.heap.size m c' A' (some_ l) wr hL hb.size (by omega))
      clear hL h
      go_wp2_with (go_at_call 83
                   refine Hs.out.mono ?_
                   rintro e w1 ⟨rfl, d, hmem, hdl, hpw, hd, hb2⟩)
      have hbw := hb.trans hb2
      have HN := hide (Hof.out d hmem hpw)
      have hdm := hide hd.1
      have hdl' := hide hdl
      clear hdl
      have hdin := hd.2.2.2
      clear Hof Hsl Hs hmem hpw hb hb2
      go_loopw [6, 36] (fun u v wr => ∃ (i : Nat) (A2 : Option Addr) (m2 c2 : Nat), i ≤ m ∧ u = .slice A2 m2 c2 ∧ v = .int .i64 (i : Int) ∧ NewS wr w1.heap.size A2 m2 c2 ((d.take i).foldl put []) ∧ Below w1.heap.size w1 wr) (fun _ v _ => m - (intOf v).toNat)
      case atStart => exact ⟨0, none, 0, 0, by omega, rfl, rfl, NewS.nil_ _ _, Below.refl _ _⟩
      case round =>
        obtain ⟨i, A2, m2, c2, hi, rfl, rfl, hL, hb⟩ := hrel
        by_cases hlt : i < m
        · obtain ⟨ad, s, rfl, hbl, hx, c1, c2⟩ := (hdin.below hb).at_ hlt
          have Hstep := hide (put_step hx)
          have hmn : m2 ≤ 1000000 := by
            rw [hL.1]
            refine Nat.le_trans (fold_len _ _) ?_
            rw [List.length_take]; simp only [List.length_nil]; omega
          obtain ⟨x, y⟩ := s
          generalize (d.take i).foldl put [] = L at *
          simp only [] at c1 c2
          have Hp := hide (fun (wx : World) (hbx : Below wr.heap.size wr wx) => put_any x y wx (hL.below hbx) (Nat.le_trans hb.size hbx.size) (by omega))
          clear hx hL hd hdin
          go_wp2_with (go_at_call 86
                       refine (Hp.out _ ?_).mono ?_
                       · exact (Below.refl _ _).alloc (Nat.le_refl _) _
                       rintro e w2 ⟨A3, m3, c3, rfl, hL3, hb3⟩)
          go_roundw
          case rel => exact ⟨i + 1, A3, m3, c3, by omega, rfl, by go_num, by rw [Hstep.out]; exact hL3, (hb.alloc hb.size _).trans hb3⟩
          case measure => simp [intOf]; omega
        · have hi3 : i = m := by omega
          have e : d.take i = d := List.take_of_length_le (by have := hdm.out; omega)
          rw [e, HN.out] at hL
          clear e hlt hd hdin HN
          go_wp2
          go_ret
          exact ⟨_, _, _, rfl, hL.less hbw.size, hbw.trans (hb.mono hbw.size)⟩
set_option maxHeartbeats 1000000 in
theorem one_any (p : Int) (w : World) (h1 : -9223372036854775808 ≤ p) (h2 : p ≤ 9223372036854775807) :
    Calls Tryz.prog 36 #[.int .i64 p] w fun e w' => ∃ A' m c', e = .returned (.slice A' m c') ∧ NewS w' w.heap.size A' m c' (oneS p) ∧ Below w.heap.size w w' := by
  have key : ∀ q, ofS [(p, q)] = nf fun z => decide (p ≤ z) && decide (z < q) := fun q => nf_congr fun z _ _ => has_one _ _
  have Ho := hide (fun q (wx : World) (hr : SpIn wx wx.heap.size (some ⟨w.heap.size, 0, none⟩) 1 [(p, q)]) => @of_any wx.heap.size 1 1 (some ⟨w.heap.size, 0, none⟩) [(p, q)] wx hr (Nat.le_refl _) (by omega))
  have hrd := hide (fun y => spIn_of_reads (reads_one w p y _ rfl))
  by_cases hp : p = 9223372036854775807
  · have e : oneS p = ofS [(p, -9223372036854775808)] := by
      rw [key]
      refine nf_congr fun z z0 z1 => ?_
      rw [decide_eq_false (show ¬ z = p by omega), decide_eq_false (show ¬ p ≤ z by omega)]; rfl
    rw [e]
    subst hp
    have hw : wrap64 9223372036854775808 = -9223372036854775808 := by kernel_rfl
    have Hq := Ho.out (-9223372036854775808)
    generalize ofS [((9223372036854775807 : Int), -9223372036854775808)] = N at *
    have HQ := hide Hq
    clear Hq key e Ho
    go_enter Tryz.func36, Tryz.ntmps36
    go_wp2_with (go_at_call 67
                 refine (HQ.out _ ?_).mono ?_
                 · exact (hrd.out (-9223372036854775808)).more (by simp)
                 rintro e w1 ⟨A', m, c', rfl, hN, hb2⟩)
    go_ret
    exact ⟨_, _, _, rfl, hN.less (by simp), ((Below.refl _ _).alloc (Nat.le_refl _) _).trans (hb2.mono (by simp))⟩
  · have e : oneS p = ofS [(p, p + 1)] := by
      rw [key]
      refine nf_congr fun z z0 z1 => ?_
      rw [Bool.eq_iff_iff]; simp; omega
    rw [e]
    have Hq := Ho.out (p + 1)
    generalize ofS [(p, p + 1)] = N at *
    have HQ := hide Hq
    clear Hq key e Ho
    go_enter Tryz.func36, Tryz.ntmps36
    go_wp2_with (go_at_call 67
                 refine (HQ.out _ ?_).mono ?_
                 · exact (hrd.out _).more (by simp)
                 rintro e w1 ⟨A', m, c', rfl, hN, hb2⟩)
    go_ret
    exact ⟨_, _, _, rfl, hN.less (by simp), ((Below.refl _ _).alloc (Nat.le_refl _) _).trans (hb2.mono (by simp))⟩
end Go.Proofs.YtllogmokadcfmaaGreat.Span
