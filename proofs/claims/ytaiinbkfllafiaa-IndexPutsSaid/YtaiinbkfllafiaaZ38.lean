/-
  Some texts of this claim, one behind the other: IndexRef. What each proves, and its condition, stands at its head.
-/
import Derived.Test.YtaiinbkfllafiaaZ36
import Derived.Test.YtaiinbkfllafiaaZ11
import Derived.Test.YtaiinbkfllafiaaZ37
import Derived.Deep.RegionHeld3
/-
  Contracts of the document's index: at, Has, Get, Names and Same. Condition: lists and names of a length that may be walked.
-/
namespace Go.Proofs.Ytaiinbkfllafiaa.Index
open Go Go.RowKit Go.Lib Go.Proofs.Ytaiinbkfllafiaa.Span Go.Proofs.Ytaiinbkfllafiaa.Need Go.Proofs.Ytaiinbkfllafiaa.Mani Go.Proofs.Ytaiinbkfllafiaa.Wire Go.Proofs.Ytaiinbkfllafiaa.Depot
set_option linter.unusedVariables false
/-- The place of a name, from i on. -/
def idxX : List Kn → ByteArray → Int → Int
  | [], _, _ => -1
  | q :: t, n, i => if q.1 = n then i else idxX t n (i + 1)
theorem idxX_drop {l : List Kn} {n : ByteArray} {i : Nat} {q : Kn} (h : l[i]? = some q) : idxX (l.drop i) n i = if q.1 = n then (i : Int) else idxX (l.drop (i + 1)) n ((i : Int) + 1) := by
  obtain ⟨hi, e⟩ := List.getElem?_eq_some_iff.1 h
  rw [List.drop_eq_getElem_cons hi, e]
  rfl
theorem idxX_none : ∀ {l : List Kn} {n : ByteArray} (i : Int), atX l n = none → idxX l n i = -1
  | [], _, _, _ => rfl
  | q :: t, n, i, h => by
    rw [atX] at h
    split at h
    · cases h
    · rename_i e
      rw [idxX, if_neg e]
      exact idxX_none (i + 1) h
theorem idxX_some : ∀ {l : List Kn} {n : ByteArray} {k : Kv} (i : Nat), atX l n = some k → ∃ j : Nat, idxX l n i = ((i + j : Nat) : Int) ∧ l[j]? = some (n, k)
  | [], _, _, _, h => by cases h
  | q :: t, n, k, i, h => by
    rw [atX] at h
    split at h
    · rename_i e
      injection h with h
      refine ⟨0, by rw [idxX, if_pos e]; rfl, ?_⟩
      subst e h
      rfl
    · rename_i e
      obtain ⟨j, h1, h2⟩ := idxX_some (i + 1) h
      refine ⟨j + 1, ?_, by simpa using h2⟩
      rw [idxX, if_neg e]
      have e2 : ((i + 1 : Nat) : Int) = (i : Int) + 1 := by omega
      rw [e2] at h1
      rw [h1]
      congr 1
      omega
set_option maxHeartbeats 2000000 in
set_option maxRecDepth 100000 in
theorem refAt_any (l : List Kn) (nm : ByteArray) (A : Option Addr) (n c : Nat) (w : World) (h : InK w A n l) (hn : n ≤ 1000000) :
    Calls Try.prog 39 #[.agg #[.slice A n c], .string nm] w (Tells w (.int .i64 (idxX l nm 0))) := by
  unfold Tells
  have Hlen := hide h.len
  have Hd := hide (fun i q => @idxX_drop l nm i q)
  obtain ⟨r, hr⟩ : ∃ r, r = idxX l nm 0 := ⟨_, rfl⟩
  rw [← hr]
  have Hr : Hid (r = idxX (l.drop 0) nm ((0 : Nat) : Int)) := hide hr
  have Hend : Hid (idxX (l.drop n) nm (n : Int) = -1) := hide (by rw [List.drop_of_length_le (by have := Hlen.out; omega)]; rfl)
  clear hr
  have b0 := Blk.new w 29 #[.slice A n c]
  go_enter Try.func39, Try.ntmps39
  go_wp2
  go_loopw [5] (fun v wr => ∃ i : Nat, i ≤ n ∧ v = .int .i64 (i : Int) ∧ Hid (r = idxX (l.drop i) nm (i : Int)) ∧ Blk wr w.heap.size 29 #[.slice A n c] ∧ Below w.heap.size w wr) (fun v _ => n - (RowKit.intOf v).toNat)
  case atStart => exact ⟨0, by omega, rfl, Hr, b0, alloc_b _⟩
  case round =>
    obtain ⟨i, hi, rfl, hf, hk, hb⟩ := hrel
    have k0 := (hk.cell 0).trans (show (#[Value.slice A n c] : Array Value)[0]? = some (.slice A n c) from rfl)
    clear b0
    by_cases hlt : i < n
    · obtain ⟨ad, q, A', n', c', B', rs', rfl, hbl, hx, _, c1, _, _⟩ := InK.at_ (h.below hb) hlt
      have hd := hf.out.trans (Hd.out i q hx)
      obtain ⟨x, kv⟩ := q
      simp only [] at c1 hd
      have he := eq_names x nm
      clear hx hf Hend Hr h Hd
      by_cases hxn : x = nm
      · rw [if_pos hxn] at hd
        rw [decide_eq_true hxn] at he
        have E := hide hd
        clear hxn hd
        go_wp2
        go_ret
        exact ⟨by rw [E.out]; rfl, hb⟩
      · rw [if_neg hxn] at hd
        rw [decide_eq_false hxn] at he
        have e2 : ((i + 1 : Nat) : Int) = (i : Int) + 1 := by omega
        rw [← e2] at hd
        have E := hide hd
        clear hxn hd e2
        go_wp2
        go_roundw
        case rel => exact ⟨i + 1, by omega, by go_num, E, hk, hb⟩
        case measure => simp [RowKit.intOf]; omega
    · have hi2 : i = n := by omega
      have e : r = -1 := by rw [hf.out, hi2]; exact Hend.out
      have E := hide e
      clear e hi2 hf Hend Hr
      go_wp2
      go_ret
      exact ⟨by rw [E.out]; rfl, hb⟩
set_option maxHeartbeats 2000000 in
set_option maxRecDepth 100000 in
theorem refHas_any (l : List Kn) (nm : ByteArray) (A : Option Addr) (n c : Nat) (w : World) (h : InK w A n l) (hn : n ≤ 1000000) :
    Calls Try.prog 23 #[.agg #[.slice A n c], .string nm] w (Tells w (.bool (atX l nm).isSome)) := by
  unfold Tells
  have HA := hide (fun (wx : World) (hx : Below w.heap.size w wx) => refAt_any l nm A n c wx (h.below hx) hn)
  unfold Tells at HA
  have b0 := alloc_b (w := w) (.cells #[.slice A n c] 29)
  cases ho : atX l nm with
  | none =>
    rw [idxX_none 0 ho] at HA
    clear ho h
    go_enter Try.func23, Try.ntmps23
    go_wp2_with (first
      | (go_at_call 39
         refine (HA.out _ b0).mono ?_
         rintro e w2 ⟨rfl, hb2⟩
         have hbw := b0.trans (hb2.mono b0.size)))
    go_ret
    exact ⟨rfl, hbw⟩
  | some k =>
    obtain ⟨j, h1, h2⟩ := idxX_some 0 ho
    have h1' : idxX l nm 0 = ((0 + j : Nat) : Int) := h1
    rw [h1', Nat.zero_add] at HA
    have hj : (0 : Int) ≤ (j : Int) := by omega
    clear ho h h1 h1' h2
    go_enter Try.func23, Try.ntmps23
    go_wp2_with (first
      | (go_at_call 39
         refine (HA.out _ b0).mono ?_
         rintro e w2 ⟨rfl, hb2⟩
         have hbw := b0.trans (hb2.mono b0.size)))
    go_ret
    exact ⟨rfl, hbw⟩
set_option maxHeartbeats 4000000 in
set_option maxRecDepth 100000 in
theorem refGetX_any (l : List Kn) (nm : ByteArray) (A : Option Addr) (n c : Nat) (w : World) (h : InK w A n l) (hn : n ≤ 1000000) :
    Calls Try.prog 43 #[.agg #[.slice A n c], .string nm] w (Gots w nm (getX l nm)) := by
  have HA := hide (fun (wx : World) (hx : Below w.heap.size w wx) => refAt_any l nm A n c wx (h.below hx) hn)
  unfold Tells at HA
  obtain ⟨W, hW⟩ : ∃ W, W = (w.alloc (.cells #[.slice A n c] 29)).alloc (.cells #[.string ⟨#[]⟩, .slice none 0 0] 38) := ⟨_, rfl⟩
  have bX : Blk W w.heap.size 29 #[.slice A n c] := by rw [hW]; exact (Blk.new w _ _).alloc _
  have bM : Blk W (w.heap.size + 1) 38 #[.string ⟨#[]⟩, .slice none 0 0] := by
    rw [hW]
    have := Blk.new (w.alloc (.cells #[.slice A n c] 29)) 38 #[.string ⟨#[]⟩, .slice none 0 0]
    rwa [World.size_alloc] at this
  have hbw : Below w.heap.size w W := by rw [hW]; exact ((Below.refl _ _).alloc (Nat.le_refl _) _).alloc (by simp) _
  have kX := (bX.cell 0).trans (show (#[Value.slice A n c] : Array Value)[0]? = some (.slice A n c) from rfl)
  have hbs := hbw.size
  cases ho : atX l nm with
  | none =>
    rw [idxX_none 0 ho] at HA
    have hk : Hid (getX l nm = ([], false)) := hide (by unfold getX; rw [ho]; rfl)
    clear ho h
    go_enter Try.func43, Try.ntmps43
    go_upto_region 1 with fail
    rw [← hW]
    clear hW
    go_wp2_with (first
      | (go_at_call 39
         refine (HA.out _ hbw).mono ?_
         rintro e w2 ⟨rfl, hb2⟩
         have b2 := bM.below hb2 bM.lt
         have fz0 := b2.frozen 0
         have fz1 := b2.frozen 1
         have k0 := (b2.cell 0).trans (show (#[Value.string ⟨#[]⟩, .slice none 0 0] : Array Value)[0]? = some (.string ⟨#[]⟩) from rfl)
         have k1 := (b2.cell 1).trans (show (#[Value.string ⟨#[]⟩, .slice none 0 0] : Array Value)[1]? = some (.slice none 0 0) from rfl)
         have hw2 := hbw.trans (hb2.mono hbs)))
    have hblk := (b2.set_ 0 (.string nm)).set_ 1 (.slice none 0 0)
    refine bodyPost_ret (results_blk_tmp rfl _ _ (w.heap.size + 1) 38 _ (0, 0) _ (.bool false) rfl rfl hblk Try.underlying38 rfl mani_size) rfl ?_
    rw [hk.out]
    exact ⟨none, 0, 0, 0, [], rfl, Rls.nil_ _ _, set_two_below hw2 _ (Nat.le_succ _) _ _⟩
  | some k =>
    obtain ⟨j, h1, h2⟩ := idxX_some 0 ho
    have h1' : idxX l nm 0 = ((0 + j : Nat) : Int) := h1
    rw [h1', Nat.zero_add] at HA
    have hjn : j < n := by
      have := (List.getElem?_eq_some_iff.1 h2).1
      rw [h.len] at this
      exact this
    have hk : Hid (getX l nm = k) := hide (by unfold getX; rw [ho]; rfl)
    have HI := hide (fun (wx : World) (hx : Below w.heap.size w wx) => h.below hx)
    have hz : ¬ ((j : Int) < 0) := by omega
    have hj1 : (0 : Int) ≤ (j : Int) := by omega
    have hj2 : (j : Int) < (n : Int) := by omega
    clear ho h h1 h1'
    go_enter Try.func43, Try.ntmps43
    go_upto_region 1 with fail
    rw [← hW]
    clear hW
    go_upto_region 4 with (first
      | (go_at_call 39
         refine (HA.out _ hbw).mono ?_
         rintro e w2 ⟨rfl, hb2⟩))
    have bX2 := bX.below hb2 bX.lt
    have b2 := bM.below hb2 bM.lt
    have kX2 := (bX2.cell 0).trans (show (#[Value.slice A n c] : Array Value)[0]? = some (.slice A n c) from rfl)
    have fz0 := b2.frozen 0
    have fz1 := b2.frozen 1
    have k0 := (b2.cell 0).trans (show (#[Value.string ⟨#[]⟩, .slice none 0 0] : Array Value)[0]? = some (.string ⟨#[]⟩) from rfl)
    have k1 := (b2.cell 1).trans (show (#[Value.string ⟨#[]⟩, .slice none 0 0] : Array Value)[1]? = some (.slice none 0 0) from rfl)
    have hw2 := hbw.trans (hb2.mono hbs)
    obtain ⟨ad, q, A', n', c', B', rs', rfl, hbl, hx, hR, c1, c2, c3⟩ := InK.at_ (HI.out w2 hw2) hjn
    rw [h2] at hx
    injection hx with hx
    subst hx
    simp only at c1 c2 c3 hR
    clear h2 HA HI kX hb2 hbl
    go_region
    go_wp2
    have hg4 := set_two_only w2 (w.heap.size + 1) (.string nm) (.slice A' n' c')
    have hblk := ((b2.set_ 0 (.string nm)).set_ 1 (.slice A' n' c')).drew
    have hR4 := (hR.far (farT_blk b2 (by decide)) (farT_blk b2 (by decide)) (farT_blk b2 (by decide)) hg4).below ((Below.refl _ _).drew)
    refine bodyPost_ret (results_blk_tmp rfl _ _ (w.heap.size + 1) 38 _ (0, 0) _ (.bool k.2) rfl rfl hblk Try.underlying38 rfl mani_size) rfl ?_
    rw [hk.out]
    exact ⟨A', n', c', B', rs', rfl, hR4, (set_two_below hw2 _ (Nat.le_succ _) _ _).drew⟩
theorem namesX_take {l : List Kn} {i : Nat} {q : Kn} (h : l[i]? = some q) : namesX (l.take (i + 1)) = namesX (l.take i) ++ [q.1] := by
  unfold namesX
  rw [take_snoc' l i q h, List.map_append]
  rfl
set_option maxHeartbeats 4000000 in
set_option maxRecDepth 100000 in
theorem refNamesX_any (l : List Kn) (A : Option Addr) (n c : Nat) (w : World) (h : InK w A n l) (hn : n ≤ 100000) :
    Calls Try.prog 28 #[.agg #[.slice A n c]] w (MakesT w (namesX l)) := by
  obtain ⟨i0, hi0, hz0, hz1, hz2⟩ := info_parts info_str
  have Hlen := hide h.len
  have Htk := hide (fun i q => @namesX_take l i q)
  have b0 := Blk.new w 29 #[.slice A n c]
  go_enter Try.func28, Try.ntmps28
  go_wp2
  go_loopw [3, 4] (fun u v wr => ∃ (i : Nat), i ≤ n ∧ v = .int .i64 (i : Int) ∧ wr.ownsRow (w.heap.size + 1) 9 1 u i (tcs (namesX (l.take i))) ∧ Blk wr w.heap.size 29 #[.slice A n c] ∧ Below w.heap.size w wr) (fun _ v _ => n - (RowKit.intOf v).toNat)
  case atStart => exact ⟨0, by omega, rfl, World.ownsRow_nil _ _ _ _, b0, alloc_b _⟩
  case round =>
    obtain ⟨i, hi, rfl, hown, hk, hb⟩ := hrel
    have hbs := hb.size
    have hkl := hk.lt
    have k0 := (hk.cell 0).trans (show (#[Value.slice A n c] : Array Value)[0]? = some (.slice A n c) from rfl)
    obtain ⟨Ax, cx, rfl, hcx, hrd⟩ := own_texts hown
    clear b0
    by_cases hlt : i < n
    · obtain ⟨ad, q, A', n', c', B', rs', rfl, hbl, hx, _, c1, _, _⟩ := InK.at_ (h.below hb) hlt
      have Ht := hide (Htk.out i q hx)
      obtain ⟨x, kv⟩ := q
      simp only [] at c1 Ht
      clear hx hrd h Htk
      generalize namesX (l.take i) = out at *
      go_wp2_with (first
        | (at_builtin
           refine wpList_append_any _ rfl (.tmp 12) (.tmp 20) _ rfl (w.heap.size + 1) 9 i0 _ 1 16 Try.underlying46 hi0 hz0 hz1 hz2 rfl (by omega) _ i (tcs out) rfl
             (own_below hown (alloc_b (.cells #[.string x] 9))) _ _ 1 _ _ rfl (Reads.new1 wr 9 (.string x)) (one_str _) (by unfold maxLen; omega) (by omega) (by simp; omega) ?_
           intro v3 w3 hown3 hg3 _
           have hlo := fun k hk => (hown.lt k hk).1
           have hb3 : Below w.heap.size w w3 := (hb.alloc hbs _).grown hg3 (by simp; omega) (fun k hk => by have := hlo k hk; omega)
           have hk3 : Blk w3 w.heap.size 29 #[.slice (some ad) n c] := (hk.alloc _).grown hg3 (fun e => by have := hlo _ e.symm; omega)))
      go_roundw
      case rel => exact ⟨i + 1, by omega, by go_num, by rw [Ht.out, tcs_append]; exact hown3, hk3, hb3⟩
      case measure => simp [RowKit.intOf]; omega
    · have hi2 : i = n := by omega
      subst hi2
      rw [List.take_of_length_le (by rw [Hlen.out]; exact Nat.le_refl _)] at hrd
      clear hown h
      go_wp2
      go_ret
      exact ⟨Ax, i, cx, rfl, hrd, hb⟩
set_option maxHeartbeats 4000000 in
set_option maxRecDepth 100000 in
theorem refSameX_yes (l : List Kn) (nm : ByteArray) (A A' : Option Addr) (n c n' c' : Nat) (w : World) (h : InK w A n l) (hn : n ≤ 1000000) (hl : FineX l) (hr : RlOn w A' n' (getX l nm).1) :
    Calls Try.prog 30 #[.agg #[.slice A n c], .string nm, .agg #[.string nm, .slice A' n' c'], .bool (getX l nm).2] w (Tells w (.bool true)) := by
  unfold Tells
  have HG := hide (fun (wx : World) (hx : Below w.heap.size w wx) => refGetX_any l nm A n c wx (h.below hx) hn)
  unfold Gots at HG
  have hf := hl.get nm
  have HS := hide (fun (A1 A2 : Option Addr) (n1 c1 n2 c2 : Nat) (wx : World) (h1 : RlOn wx A1 n1 (getX l nm).1) (h2 : RlOn wx A2 n2 (getX l nm).1) => refSameM_any nm nm _ _ A1 A2 n1 c1 n2 c2 wx h1 h2 hf hf)
  unfold Tells at HS
  clear h hn hl hf
  generalize hkk : getX l nm = k at *
  clear hkk
  obtain ⟨r, b⟩ := k
  simp only at HG HS hr ⊢
  have hself : (decide True && decide True) = true := by decide
  rw [hself] at HS
  have hbb : (b == b) = true := beq_self_eq_true b
  clear hself
  obtain ⟨W, hW⟩ : ∃ W, W = (w.alloc (.cells #[.slice A n c] 29)).alloc (.cells #[.string nm, .slice A' n' c'] 38) := ⟨_, rfl⟩
  have bX : Blk W w.heap.size 29 #[.slice A n c] := by rw [hW]; exact (Blk.new w _ _).alloc _
  have bM : Blk W (w.heap.size + 1) 38 #[.string nm, .slice A' n' c'] := by
    rw [hW]
    have := Blk.new (w.alloc (.cells #[.slice A n c] 29)) 38 #[.string nm, .slice A' n' c']
    rwa [World.size_alloc] at this
  have hbw : Below w.heap.size w W := by rw [hW]; exact ((Below.refl _ _).alloc (Nat.le_refl _) _).alloc (by simp) _
  have kX := (bX.cell 0).trans (show (#[Value.slice A n c] : Array Value)[0]? = some (.slice A n c) from rfl)
  have hbs := hbw.size
  go_enter Try.func30, Try.ntmps30
  go_upto_region 1 with fail
  rw [← hW]
  clear hW
  go_upto_region 2 with (first
    | (go_at_call 43
       refine (HG.out _ hbw).mono ?_
       rintro e w2 ⟨A2, n2, c2, B2, rs2, rfl, hR2, hb2⟩))
  obtain ⟨W3, hW3⟩ : ∃ W, W = w2.alloc (.cells #[.string nm, .slice A2 n2 c2] 38) := ⟨_, rfl⟩
  have m3 : Blk W3 w2.heap.size 38 #[.string nm, .slice A2 n2 c2] := by rw [hW3]; exact Blk.new _ _ _
  have bM3 : Blk W3 (w.heap.size + 1) 38 #[.string nm, .slice A' n' c'] := by rw [hW3]; exact (bM.below hb2 bM.lt).alloc _
  have hR3 : RlOn W3 A2 n2 r := by rw [hW3]; exact (hR2.below (alloc_b _)).on
  have hw3 : Below w.heap.size w W3 := by rw [hW3]; exact (hbw.trans (hb2.mono hbs)).alloc (Nat.le_trans hbs hb2.size) _
  rw [← hW3]
  clear hW3 kX hb2 hR2 HG bM bX hbw
  have m0 := (m3.cell 0).trans (show (#[Value.string nm, .slice A2 n2 c2] : Array Value)[0]? = some (.string nm) from rfl)
  have m1 := (m3.cell 1).trans (show (#[Value.string nm, .slice A2 n2 c2] : Array Value)[1]? = some (.slice A2 n2 c2) from rfl)
  have p0 := (bM3.cell 0).trans (show (#[Value.string nm, .slice A' n' c'] : Array Value)[0]? = some (.string nm) from rfl)
  have p1 := (bM3.cell 1).trans (show (#[Value.string nm, .slice A' n' c'] : Array Value)[1]? = some (.slice A' n' c') from rfl)
  have HS2 := hide (HS.out A' A2 n' c' n2 c2 W3 (hr.on hw3) hR3)
  clear HS hr hR3
  go_wp2_with (first
    | (go_at_call 18
       refine HS2.out.mono ?_
       rintro e w4 ⟨rfl, hb4⟩))
  go_ret
  exact ⟨rfl, hw3.trans (hb4.mono hw3.size)⟩
end Go.Proofs.Ytaiinbkfllafiaa.Index
