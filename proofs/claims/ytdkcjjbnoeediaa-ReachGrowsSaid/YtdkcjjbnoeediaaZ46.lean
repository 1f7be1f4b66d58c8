/-
  Some texts of this claim, one behind the other: IndexRef, ReachRef, ReachRefMiss. What each proves, and its condition, stands at its head.
-/
import Derived.Test.YtdkcjjbnoeediaaZ41
import Derived.Test.YtdkcjjbnoeediaaZ11
import Derived.Test.YtdkcjjbnoeediaaZ45
import Derived.Deep.RegionHeld3
import Derived.Test.YtdkcjjbnoeediaaZ25
import Derived.Test.YtdkcjjbnoeediaaZ19
/-
  Contracts of the document's index: at, Has, Get, Names and Same. Condition: lists and names of a length that may be walked.
-/
namespace Go.Proofs.Ytdkcjjbnoeediaa.Index
open Go Go.RowKit Go.Lib Go.Proofs.Ytdkcjjbnoeediaa.Span Go.Proofs.Ytdkcjjbnoeediaa.Need Go.Proofs.Ytdkcjjbnoeediaa.Mani Go.Proofs.Ytdkcjjbnoeediaa.Wire Go.Proofs.Ytdkcjjbnoeediaa.Depot
set_option linter.unusedVariables false
/-- The place of a name, from i on. -/
def idxX : List Kn → ByteArray → Int → Int
  | [], _, _ => -1
  | q :: t, n, i => if q.1 = n then i else idxX t n (i + 1)
theorem idxX_drop {l : List Kn} {n : ByteArray} {i : Nat} {q : Kn} (h : l[i]? = some q) : idxX (l.drop i) n i = if q.1 = n then (i : Int) else idxX (l.drop (i + 1)) n ((i : Int) + 1) := by
  obtain ⟨hi, e⟩ := List.getElem?_eq_some_iff.1 h
  rw [List.drop_eq_getElem_cons hi, e]
  rfl
theorem idxX_none : ∀ {l : List Kn} {n : ByteArray} (i : Int), atX l n = none → idxX l n i = -1
  | [], _, _, _ => rfl
  | q :: t, n, i, h => by
    rw [atX] at h
    split at h
    · cases h
    · rename_i e
      rw [idxX, if_neg e]
      exact idxX_none (i + 1) h
theorem idxX_some : ∀ {l : List Kn} {n : ByteArray} {k : Kv} (i : Nat), atX l n = some k → ∃ j : Nat, idxX l n i = ((i + j : Nat) : Int) ∧ l[j]? = some (n, k)
  | [], _, _, _, h => by cases h
  | q :: t, n, k, i, h => by
    rw [atX] at h
    split at h
    · rename_i e
      injection h with h
      refine ⟨0, by rw [idxX, if_pos e]; rfl, ?_⟩
      subst e h
      rfl
    · rename_i e
      obtain ⟨j, h1, h2⟩ := idxX_some (i + 1) h
      refine ⟨j + 1, ?_, by simpa using h2⟩
      rw [idxX, if_neg e]
      have e2 : ((i + 1 : Nat) : Int) = (i : Int) + 1 := by omega
      rw [e2] at h1
      rw [h1]
      congr 1
      omega
set_option maxHeartbeats 2000000 in
set_option maxRecDepth 100000 in
theorem refAt_any (l : List Kn) (nm : ByteArray) (A : Option Addr) (n c : Nat) (w : World) (h : InK w A n l) (hn : n ≤ 1000000) :
    Calls Try.prog 39 #[.agg #[.slice A n c], .string nm] w (Tells w (.int .i64 (idxX l nm 0))) := by
  unfold Tells
  have Hlen := hide h.len
  have Hd := hide (fun i q => @idxX_drop l nm i q)
  obtain ⟨r, hr⟩ : ∃ r, r = idxX l nm 0 := ⟨_, rfl⟩
  rw [← hr]
  have Hr : Hid (r = idxX (l.drop 0) nm ((0 : Nat) : Int)) := hide hr
  have Hend : Hid (idxX (l.drop n) nm (n : Int) = -1) := hide (by rw [List.drop_of_length_le (by have := Hlen.out; omega)]; rfl)
  clear hr
  have b0 := Blk.new w 31 #[.slice A n c]
  go_enter Try.func39, Try.ntmps39
  go_wp2
  go_loopw [5] (fun v wr => ∃ i : Nat, i ≤ n ∧ v = .int .i64 (i : Int) ∧ Hid (r = idxX (l.drop i) nm (i : Int)) ∧ Blk wr w.heap.size 31 #[.slice A n c] ∧ Below w.heap.size w wr) (fun v _ => n - (RowKit.intOf v).toNat)
  case atStart => exact ⟨0, by omega, rfl, Hr, b0, alloc_b _⟩
  case round =>
    obtain ⟨i, hi, rfl, hf, hk, hb⟩ := hrel
    have k0 := (hk.cell 0).trans (show (#[Value.slice A n c] : Array Value)[0]? = some (.slice A n c) from rfl)
    clear b0
    by_cases hlt : i < n
    · obtain ⟨ad, q, A', n', c', B', rs', rfl, hbl, hx, _, c1, _, _⟩ := InK.at_ (h.below hb) hlt
      have hd := hf.out.trans (Hd.out i q hx)
      obtain ⟨x, kv⟩ := q
      simp only [] at c1 hd
      have he := eq_names x nm
      clear hx hf Hend Hr h Hd
      by_cases hxn : x = nm
      · rw [if_pos hxn] at hd
        rw [decide_eq_true hxn] at he
        have E := hide hd
        clear hxn hd
        go_wp2
        go_ret
        exact ⟨by rw [E.out]; rfl, hb⟩
      · rw [if_neg hxn] at hd
        rw [decide_eq_false hxn] at he
        have e2 : ((i + 1 : Nat) : Int) = (i : Int) + 1 := by omega
        rw [← e2] at hd
        have E := hide hd
        clear hxn hd e2
        go_wp2
        go_roundw
        case rel => exact ⟨i + 1, by omega, by go_num, E, hk, hb⟩
        case measure => simp [RowKit.intOf]; omega
    · have hi2 : i = n := by omega
      have e : r = -1 := by rw [hf.out, hi2]; exact Hend.out
      have E := hide e
      clear e hi2 hf Hend Hr
      go_wp2
      go_ret
      exact ⟨by rw [E.out]; rfl, hb⟩
set_option maxHeartbeats 2000000 in
set_option maxRecDepth 100000 in
theorem refHas_any (l : List Kn) (nm : ByteArray) (A : Option Addr) (n c : Nat) (w : World) (h : InK w A n l) (hn : n ≤ 1000000) :
    Calls Try.prog 24 #[.agg #[.slice A n c], .string nm] w (Tells w (.bool (atX l nm).isSome)) := by
  unfold Tells
  have HA := hide (fun (wx : World) (hx : Below w.heap.size w wx) => refAt_any l nm A n c wx (h.below hx) hn)
  unfold Tells at HA
  have b0 := alloc_b (w := w) (.cells #[.slice A n c] 31)
  cases ho : atX l nm with
  | none =>
    rw [idxX_none 0 ho] at HA
    clear ho h
    go_enter Try.func24, Try.ntmps24
    go_wp2_with (first
      | (go_at_call 39
         refine (HA.out _ b0).mono ?_
         rintro e w2 ⟨rfl, hb2⟩
         have hbw := b0.trans (hb2.mono b0.size)))
    go_ret
    exact ⟨rfl, hbw⟩
  | some k =>
    obtain ⟨j, h1, h2⟩ := idxX_some 0 ho
    have h1' : idxX l nm 0 = ((0 + j : Nat) : Int) := h1
    rw [h1', Nat.zero_add] at HA
    have hj : (0 : Int) ≤ (j : Int) := by omega
    clear ho h h1 h1' h2
    go_enter Try.func24, Try.ntmps24
    go_wp2_with (first
      | (go_at_call 39
         refine (HA.out _ b0).mono ?_
         rintro e w2 ⟨rfl, hb2⟩
         have hbw := b0.trans (hb2.mono b0.size)))
    go_ret
    exact ⟨rfl, hbw⟩
set_option maxHeartbeats 4000000 in
set_option maxRecDepth 100000 in
theorem refGetX_any (l : List Kn) (nm : ByteArray) (A : Option Addr) (n c : Nat) (w : World) (h : InK w A n l) (hn : n ≤ 1000000) :
    Calls Try.prog 30 #[.agg #[.slice A n c], .string nm] w (Gots w nm (getX l nm)) := by
  have HA := hide (fun (wx : World) (hx : Below w.heap.size w wx) => refAt_any l nm A n c wx (h.below hx) hn)
  unfold Tells at HA
  obtain ⟨W, hW⟩ : ∃ W, W = (w.alloc (.cells #[.slice A n c] 31)).alloc (.cells #[.string ⟨#[]⟩, .slice none 0 0] 61) := ⟨_, rfl⟩
  have bX : Blk W w.heap.size 31 #[.slice A n c] := by rw [hW]; exact (Blk.new w _ _).alloc _
  have bM : Blk W (w.heap.size + 1) 61 #[.string ⟨#[]⟩, .slice none 0 0] := by
    rw [hW]
    have := Blk.new (w.alloc (.cells #[.slice A n c] 31)) 61 #[.string ⟨#[]⟩, .slice none 0 0]
    rwa [World.size_alloc] at this
  have hbw : Below w.heap.size w W := by rw [hW]; exact ((Below.refl _ _).alloc (Nat.le_refl _) _).alloc (by simp) _
  have kX := (bX.cell 0).trans (show (#[Value.slice A n c] : Array Value)[0]? = some (.slice A n c) from rfl)
  have hbs := hbw.size
  cases ho : atX l nm with
  | none =>
    rw [idxX_none 0 ho] at HA
    have hk : Hid (getX l nm = ([], false)) := hide (by unfold getX; rw [ho]; rfl)
    clear ho h
    go_enter Try.func30, Try.ntmps30
    go_upto_region 1 with fail
    rw [← hW]
    clear hW
    go_wp2_with (first
      | (go_at_call 39
         refine (HA.out _ hbw).mono ?_
         rintro e w2 ⟨rfl, hb2⟩
         have b2 := bM.below hb2 bM.lt
         have fz0 := b2.frozen 0
         have fz1 := b2.frozen 1
         have k0 := (b2.cell 0).trans (show (#[Value.string ⟨#[]⟩, .slice none 0 0] : Array Value)[0]? = some (.string ⟨#[]⟩) from rfl)
         have k1 := (b2.cell 1).trans (show (#[Value.string ⟨#[]⟩, .slice none 0 0] : Array Value)[1]? = some (.slice none 0 0) from rfl)
         have hw2 := hbw.trans (hb2.mono hbs)))
    have hblk := (b2.set_ 0 (.string nm)).set_ 1 (.slice none 0 0)
    refine bodyPost_ret (results_blk_tmp rfl _ _ (w.heap.size + 1) 61 _ (0, 0) _ (.bool false) rfl rfl hblk Try.underlying61 rfl mani_size) rfl ?_
    rw [hk.out]
    exact ⟨none, 0, 0, 0, [], rfl, Rls.nil_ _ _, set_two_below hw2 _ (Nat.le_succ _) _ _⟩
  | some k =>
    obtain ⟨j, h1, h2⟩ := idxX_some 0 ho
    have h1' : idxX l nm 0 = ((0 + j : Nat) : Int) := h1
    rw [h1', Nat.zero_add] at HA
    have hjn : j < n := by
      have := (List.getElem?_eq_some_iff.1 h2).1
      rw [h.len] at this
      exact this
    have hk : Hid (getX l nm = k) := hide (by unfold getX; rw [ho]; rfl)
    have HI := hide (fun (wx : World) (hx : Below w.heap.size w wx) => h.below hx)
    have hz : ¬ ((j : Int) < 0) := by omega
    have hj1 : (0 : Int) ≤ (j : Int) := by omega
    have hj2 : (j : Int) < (n : Int) := by omega
    clear ho h h1 h1'
    go_enter Try.func30, Try.ntmps30
    go_upto_region 1 with fail
    rw [← hW]
    clear hW
    go_upto_region 4 with (first
      | (go_at_call 39
         refine (HA.out _ hbw).mono ?_
         rintro e w2 ⟨rfl, hb2⟩))
    have bX2 := bX.below hb2 bX.lt
    have b2 := bM.below hb2 bM.lt
    have kX2 := (bX2.cell 0).trans (show (#[Value.slice A n c] : Array Value)[0]? = some (.slice A n c) from rfl)
    have fz0 := b2.frozen 0
    have fz1 := b2.frozen 1
    have k0 := (b2.cell 0).trans (show (#[Value.string ⟨#[]⟩, .slice none 0 0] : Array Value)[0]? = some (.string ⟨#[]⟩) from rfl)
    have k1 := (b2.cell 1).trans (show (#[Value.string ⟨#[]⟩, .slice none 0 0] : Array Value)[1]? = some (.slice none 0 0) from rfl)
    have hw2 := hbw.trans (hb2.mono hbs)
    obtain ⟨ad, q, A', n', c', B', rs', rfl, hbl, hx, hR, c1, c2, c3⟩ := InK.at_ (HI.out w2 hw2) hjn
    rw [h2] at hx
    injection hx with hx
    subst hx
    simp only at c1 c2 c3 hR
    clear h2 HA HI kX hb2 hbl
    go_region
    go_wp2
    have hg4 := set_two_only w2 (w.heap.size + 1) (.string nm) (.slice A' n' c')
    have hblk := ((b2.set_ 0 (.string nm)).set_ 1 (.slice A' n' c')).drew
    have hR4 := (hR.far (farT_blk b2 (by decide)) (farT_blk b2 (by decide)) (farT_blk b2 (by decide)) hg4).below ((Below.refl _ _).drew)
    refine bodyPost_ret (results_blk_tmp rfl _ _ (w.heap.size + 1) 61 _ (0, 0) _ (.bool k.2) rfl rfl hblk Try.underlying61 rfl mani_size) rfl ?_
    rw [hk.out]
    exact ⟨A', n', c', B', rs', rfl, hR4, (set_two_below hw2 _ (Nat.le_succ _) _ _).drew⟩
theorem namesX_take {l : List Kn} {i : Nat} {q : Kn} (h : l[i]? = some q) : namesX (l.take (i + 1)) = namesX (l.take i) ++ [q.1] := by
  unfold namesX
  rw [take_snoc' l i q h, List.map_append]
  rfl
end Go.Proofs.Ytdkcjjbnoeediaa.Index
/-
  Contracts of the document's Names and Missing: what may be needed, and those of it that are not known. Condition: as many names as may be walked.
-/
namespace Go.Proofs.Ytdkcjjbnoeediaa.Reach
open Go Go.RowKit Go.Lib Go.Sort Go.Proofs.Ytdkcjjbnoeediaa.Span Go.Proofs.Ytdkcjjbnoeediaa.Need Go.Proofs.Ytdkcjjbnoeediaa.Mani Go.Proofs.Ytdkcjjbnoeediaa.Wire Go.Proofs.Ytdkcjjbnoeediaa.Depot Go.Proofs.Ytdkcjjbnoeediaa.Index
set_option linter.unusedVariables false
theorem two_other {w : World} {g : Nat} {u v : Value} {p : Addr} (h : p.block ≠ g) : ((w.setCell ⟨g, 0, none⟩ u).setCell ⟨g, 1, none⟩ v).cell? p = w.cell? p :=
  (World.cell?_setCell_other _ _ _ _ (fun e => h (by rw [← e]))).trans (World.cell?_setCell_other _ _ _ _ (fun e => h (by rw [← e])))
set_option maxHeartbeats 8000000 in
set_option maxRecDepth 100000 in
theorem refReach_any (X : List Kn) (root : List Nd) (Ay : Option Addr) (ny cy : Nat) (A : Option Addr) (n c : Nat) (w : World) (hK : InK w Ay ny X) (hf : FineX X) (hXl : X.length ≤ 100) (h : NdOn w A n root) (hn : n ≤ 40) :
    Calls Try.prog 14 #[.agg #[.slice Ay ny cy], .slice A n c] w (MakesT w (reachX X root)) := by
  unfold MakesT
  have hrl : root.length ≤ 40 := by rw [h.len]; exact hn
  have Hlen := hide h.len
  have Hal := hide (allX_len (root := root) hf hrl)
  have hny : ny ≤ 1000000 := by rw [← hK.len]; omega
  have Haf := hide (fun (a : ByteArray) => asksF_len hf a)
  have Hgf := hide (fun (a : ByteArray) => asks_fine hf a)
  have HG := hide (fun (wx : World) (hx : Below w.heap.size w wx) (a : ByteArray) => refGetX_any X a Ay ny cy wx (hK.below hx) hny)
  unfold Gots at HG
  have Hst := hide (under_start X root)
  have b0 := Blk.new w 31 #[.slice Ay ny cy]
  clear hK hf hrl hny
  go_enter Try.func14, Try.ntmps14
  go_wp2
  go_loopw [5, 6] (fun u v wr => ∃ (i m : Nat) (Ax : Option Addr) (cx : Nat), i ≤ n ∧ u = .slice Ax m cx ∧ v = .int .i64 (i : Int) ∧ TxOn wr Ax m (foldN (namesS (root.take i))) ∧ Blk wr w.heap.size 31 #[.slice Ay ny cy] ∧ Below w.heap.size w wr) (fun _ v _ => n - (RowKit.intOf v).toNat)
  case atStart => exact ⟨0, 0, none, 0, by omega, rfl, rfl, ⟨rfl, fun h => absurd h (by omega)⟩, b0, (Below.refl _ _).alloc (Nat.le_refl _) _⟩
  case round =>
    obtain ⟨i, m, Ax, cx, hi, rfl, rfl, hT, hbl, hb⟩ := hrel
    have hbs := hb.size
    clear b0
    by_cases hlt : i < n
    · obtain ⟨ad, q, A', n', c', rfl, hbq, hx, hs, c1, c2⟩ := NdIn.at_ (NdIn.below h hb) hlt
      have hst2 : foldN (namesS (root.take (i + 1))) = addF q.1 false (foldN (namesS (root.take i))) := by rw [namesS_take hx, foldN_snoc]
      obtain ⟨x, s⟩ := q
      simp only [] at c1 c2 hs hst2
      have hm10 : m ≤ 1000000 := by
        have h1 := hT.len
        have h2 := foldN_len (namesS (root.take i))
        have h4 : (namesS (root.take i)).length ≤ i := by unfold namesS; rw [List.length_map, List.length_take]; omega
        omega
      have HA := hide (add_any _ x Ax m cx wr hT hm10)
      unfold MakesT at HA
      rw [← hst2] at HA
      clear hst2 hx hT h hs
      go_wp2_with (go_at_call 18
                   refine HA.out.mono ?_
                   rintro e w1 ⟨A1, n1, c1', rfl, h1, hb1⟩
                   have hbx := hb.trans (hb1.mono hbs)
                   have hbl1 := hbl.below hb1 hbl.lt)
      go_roundw
      case rel => exact ⟨i + 1, n1, A1, c1', by omega, rfl, by go_num, h1, hbl1, hbx⟩
      case measure => simp [RowKit.intOf]; omega
    · have hi2 : i = n := by omega
      rw [List.take_of_length_le (by rw [Hlen.out]; omega)] at hT
      have hni : ¬ i < n := hlt
      clear h hi Hlen hi2
      go_wp2
      clear hni hlt hn
      go_loopw [5] (fun u wq => ∃ (out : List ByteArray) (no : Nat) (Ao : Option Addr) (co : Nat), u = .slice Ao no co ∧ TxOn wq Ao no out ∧ Under X root out ∧ Blk wq w.heap.size 31 #[.slice Ay ny cy] ∧ Below w.heap.size w wq) (fun u _ => (allX X root).length + 1 - lenV u)
      case atStart => exact ⟨_, m, Ax, cx, rfl, hT, Hst.out, hbl, hb⟩
      case round =>
        obtain ⟨out, no, Ao, co, rfl, hTo, hU, hbo, hbb⟩ := hrel
        have hbbs := hbb.size
        have Hno := hide hTo.len
        have hUl := hU.len
        have hnoa : no ≤ (allX X root).length := by rw [← hTo.len]; exact hUl
        have hal := Hal.out
        clear hT hbl hb hbs
        obtain ⟨W1, hW1⟩ : ∃ W1, W1 = wr := ⟨wr, rfl⟩
        subst hW1
        go_wp2
        go_loopw [5, 9] (fun u v wp => ∃ (i m : Nat) (Ax : Option Addr) (cx : Nat), i ≤ no ∧ u = .slice Ax m cx ∧ v = .int .i64 (i : Int) ∧ TxOn wp Ax m (stepN X out (out.take i)) ∧ Below W1.heap.size W1 wp) (fun _ v _ => no - (RowKit.intOf v).toNat)
        case atStart => exact ⟨0, no, Ao, co, by omega, rfl, rfl, hTo, Below.refl _ _⟩
        case round =>
          obtain ⟨i, m, Ax, cx, hi, rfl, rfl, hT, hbp⟩ := hrel
          have hbps := hbp.size
          have hbw := hbb.trans (hbp.mono hbbs)
          by_cases hlt : i < no
          · obtain ⟨ad, a, rfl, had, ha, hc⟩ := tcs_at (hTo.on hbp) hlt
            have hbX := hbo.below hbp hbo.lt
            have kX := (hbX.cell 0).trans (show (#[Value.slice Ay ny cy] : Array Value)[0]? = some (.slice Ay ny cy) from rfl)
            have HN := hide (fun (Az : Option Addr) (nz cz : Nat) (wx : World) (hx : RlOn wx Az nz (getX X a).1) => refNamesM_any a (getX X a).1 Az nz cz wx hx (Hgf.out a))
            unfold MakesT at HN
            have Hml := hide (fun k => mid_len hU ha k)
            have Hsf := hide (stepN_fold hU ha)
            have haf := Haf.out a
            have hi1 : (0 : Int) ≤ (i : Int) := by omega
            have hi2 : (i : Int) < (no : Int) := by omega
            generalize stepN X out (out.take i) = S0 at *
            go_upto_region 11 with fail
            have hbws := hbw.size
            go_cut [10] (fun p wx => ∃ (g : Nat) (A3 : Option Addr) (n3 c3 : Nat), p = .pointer (some ⟨g, 0, none⟩) ∧ Blk wx g 61 #[.string a, .slice A3 n3 c3] ∧ RlOn wx A3 n3 (getX X a).1 ∧ Below wr.heap.size wr wx)
            case first =>
              go_region_held3 (fun w' => w'.cell? ⟨w.heap.size, 0, none⟩ = some (.slice Ay ny cy) ∧ w'.cell? (ad.add i) = some (.string a)) (first | exact ⟨kX4 _ _, hc4 _ _⟩ | exact ⟨kX3, hc3⟩ | exact ⟨kX, hc⟩ | go_keep)
                (first
                  | (go_at_call 30
                     refine (HG.out _ ?_ a).mono ?_
                     · first | exact hbw.drew | exact (hbw.alloc hbws _).drew
                     rintro e w3 ⟨A3, n3, c3, B3, rs3, rfl, hR3, hb3⟩
                     have hb3' : Below wr.heap.size wr w3 := by first | exact ((Below.refl _ _).drew).trans hb3 | exact ((alloc_b _).drew).trans (hb3.mono (by simp))
                     have kX3 := (hb3'.cell (p := ⟨w.heap.size, 0, none⟩) hbX.lt).trans kX
                     have hc3 := (hb3'.cell (p := ad.add i) (by rw [block_of_add]; exact had)).trans hc
                     try
                       have hM3 : Blk w3 wr.heap.size 61 #[.string ⟨#[]⟩, .slice none 0 0] := ((Blk.new wr 61 #[.string ⟨#[]⟩, .slice none 0 0]).drew).below hb3 (by simp)
                       have fz0 := hM3.frozen 0
                       have fz1 := hM3.frozen 1
                       have kM0 := (hM3.cell 0).trans (show (#[Value.string ⟨#[]⟩, .slice none 0 0] : Array Value)[0]? = some (.string ⟨#[]⟩) from rfl)
                       have kM1 := (hM3.cell 1).trans (show (#[Value.string ⟨#[]⟩, .slice none 0 0] : Array Value)[1]? = some (.slice none 0 0) from rfl)
                       have kX4 := fun u v => (two_other (w := w3) (g := wr.heap.size) (u := u) (v := v) (p := ⟨w.heap.size, 0, none⟩) (Nat.ne_of_lt hbX.lt)).trans kX3
                       have hc4 := fun u v => (two_other (w := w3) (g := wr.heap.size) (u := u) (v := v) (p := ad.add i) (by rw [block_of_add]; exact Nat.ne_of_lt had)).trans hc3))
              all_goals (try go_wp2_with fail)
              all_goals (go_meet; first
                | exact ⟨_, A3, n3, c3, rfl, Blk.new _ _ _, (hR3.below (alloc_b _)).on, hb3'.alloc hb3'.size _⟩
                | (have hgs := only_setCell (p := ⟨wr.heap.size, 1, none⟩) (only_setCell (p := ⟨wr.heap.size, 0, none⟩) (only_self w3 wr.heap.size) (.inl rfl) (.string a)) (.inl rfl) (.slice A3 n3 c3)
                   exact ⟨_, A3, n3, c3, rfl, (hM3.set_ 0 (.string a)).set_ 1 (.slice A3 n3 c3), (hR3.far (farT_blk hM3 (by decide)) (farT_blk hM3 (by decide)) (farT_blk hM3 (by decide)) hgs).on, (hb3'.setCell (p := ⟨wr.heap.size, 0, none⟩) (Nat.le_refl _) _).setCell (p := ⟨wr.heap.size, 1, none⟩) (Nat.le_refl _) _⟩))
            case rest =>
              obtain ⟨g, A3, n3, c3, rfl, hbk3, hR3', hbx3⟩ := hcut
              have p0 := (hbk3.cell 0).trans (show (#[Value.string a, .slice A3 n3 c3] : Array Value)[0]? = some (.string a) from rfl)
              have p1 := (hbk3.cell 1).trans (show (#[Value.string a, .slice A3 n3 c3] : Array Value)[1]? = some (.slice A3 n3 c3) from rfl)
              clear kX hc
              go_wp2_with (first
                | (go_at_call 31
                   refine (HN.out _ _ _ _ hR3').mono ?_
                   rintro e w4 ⟨A4, n4, c4, rfl, hT4, hb4⟩))
              have hT4 : TxOn w4 A4 n4 (asksF X a) := hT4
              have hbx4 := hbx3.trans (hb4.mono hbx3.size)
              have hT' := hT.on hbx4
              have hbw4 : Below W1.heap.size W1 w4 := hbp.trans (hbx4.mono hbps)
              have hn4 : n4 ≤ 1200 := by rw [← hT4.len]; exact haf
              have Hl4 := hide hT4.len
              have hbw4s := hbw4.size
              clear hR3' hbx3 hb4 hbx4 hT HN hbX had p0 p1 hbk3
              obtain ⟨W4, hW4⟩ : ∃ W4, W4 = w4 := ⟨w4, rfl⟩
              subst hW4
              go_loopw [5, 13] (fun u v wq => ∃ (k m : Nat) (Ax : Option Addr) (cx : Nat), k ≤ n4 ∧ u = .slice Ax m cx ∧ v = .int .i64 (k : Int) ∧ TxOn wq Ax m (addsN S0 ((asksF X a).take k)) ∧ Below W4.heap.size W4 wq) (fun _ v _ => n4 - (RowKit.intOf v).toNat)
              case atStart => exact ⟨0, m, Ax, cx, by omega, rfl, rfl, hT', Below.refl _ _⟩
              case round =>
                obtain ⟨k, m', Ax', cx', hk, rfl, rfl, hTk, hbq⟩ := hrel
                have hbqs := hbq.size
                clear hT'
                by_cases hkt : k < n4
                · obtain ⟨ad4, y, rfl, had4, hy, hc4⟩ := tcs_at (hT4.on hbq) hkt
                  have hst2 := addsN_take (out := S0) hy
                  have hm10 : m' ≤ 1000000 := by
                    have h1 := hTk.len
                    have h2 := Hml.out k
                    omega
                  have HA := hide (add_any _ y Ax' m' cx' wr hTk hm10)
                  unfold MakesT at HA
                  rw [← hst2] at HA
                  clear hst2 hy hTk
                  go_wp2_with (go_at_call 18
                               refine HA.out.mono ?_
                               rintro e w6 ⟨A6, n6, c6, rfl, h6, hb6⟩
                               have hbx6 := hbq.trans (hb6.mono hbqs))
                  go_roundw
                  case rel => exact ⟨k + 1, n6, A6, c6, by omega, rfl, by go_num, h6, hbx6⟩
                  case measure => simp [RowKit.intOf]; omega
                · have hk2 : k = n4 := by omega
                  rw [List.take_of_length_le (by rw [Hl4.out]; omega), Hsf.out] at hTk
                  have hbz : Below W1.heap.size W1 wr := hbw4.trans (hbq.mono hbw4s)
                  clear hT4 hk2
                  go_wp2
                  go_roundw
                  case rel => exact ⟨i + 1, m', Ax', cx', by omega, rfl, by go_num, hTk, hbz⟩
                  case measure => simp [RowKit.intOf]; omega
          · have hi2 : i = no := by omega
            subst hi2
            rw [List.take_of_length_le (by rw [Hno.out]; exact Nat.le_refl _)] at hT
            have hbX := hbo.below hbp hbo.lt
            have hml := hT.len
            have hgr := hU.grows
            have hnl := hU.step.len
            have hno := Hno.out
            have hUs := hU.step
            by_cases he : m = i
            · have hwh := hU.whole (by omega)
              rw [hwh] at hT
              have hee : ((m : Int) == (i : Int)) = true := by rw [he]; exact beq_self_eq_true _
              clear hTo hU hwh hml hgr hnl hno hUs hnoa hUl hal hi he
              go_wp2
              go_ret
              first | exact ⟨Ax, m, cx, rfl, hT, hbw⟩ | exact ⟨Ax, m, ⟨cx, rfl⟩, hT, hbw⟩
            · have hee : ((m : Int) == (i : Int)) = false := beq_eq_false_iff_ne.2 (by omega)
              have hmeas := hide (show (allX X root).length + 1 - m < (allX X root).length + 1 - i by omega)
              clear hTo hU hml hgr hnl hno hnoa hUl hal hi he
              go_wp2
              go_roundw
              case rel => exact ⟨_, m, Ax, cx, rfl, hT, hUs, hbX, hbw⟩
              case measure => exact hmeas.out
end Go.Proofs.Ytdkcjjbnoeediaa.Reach
/-
  The contract of the document's Missing. Condition: as many names as may be walked.
-/
namespace Go.Proofs.Ytdkcjjbnoeediaa.Reach
open Go Go.RowKit Go.Lib Go.Sort Go.Proofs.Ytdkcjjbnoeediaa.Span Go.Proofs.Ytdkcjjbnoeediaa.Need Go.Proofs.Ytdkcjjbnoeediaa.Mani Go.Proofs.Ytdkcjjbnoeediaa.Wire Go.Proofs.Ytdkcjjbnoeediaa.Depot Go.Proofs.Ytdkcjjbnoeediaa.Index
set_option linter.unusedVariables false
set_option maxHeartbeats 8000000 in
set_option maxRecDepth 100000 in
theorem refMissing_any (X : List Kn) (root : List Nd) (Ay : Option Addr) (ny cy : Nat) (A : Option Addr) (n c : Nat) (w : World) (hK : InK w Ay ny X) (hf : FineX X) (hXl : X.length ≤ 100) (h : NdOn w A n root) (hn : n ≤ 40) :
    Calls Try.prog 11 #[.agg #[.slice Ay ny cy], .slice A n c] w (MakesT w (missX X root)) := by
  obtain ⟨i0, hi0, hz0, hz1, hz2⟩ := info_parts info_str
  have b0 := Blk.new w 31 #[.slice Ay ny cy]
  have hb0 := alloc_b (w := w) (.cells #[.slice Ay ny cy] 31)
  have HN := hide (refReach_any X root Ay ny cy A n c (w.alloc (.cells #[.slice Ay ny cy] 31)) (hK.below hb0) hf hXl (h.on hb0) hn)
  have hrl : root.length ≤ 40 := by rw [h.len]; exact hn
  have hny : ny ≤ 1000000 := by rw [← hK.len]; omega
  have hRl := reachX_len hf hrl
  have HH := hide (fun (a : ByteArray) (wx : World) (hx : Below w.heap.size w wx) => refHas_any X a Ay ny cy wx (hK.below hx) hny)
  rw [← missL_all]
  unfold MakesT at HN ⊢
  unfold Tells at HH
  generalize reachX X root = R at *
  have hRb : R.length ≤ 1000000 := by omega
  clear hK hf hXl h hn hrl hRl hny
  go_enter Try.func11, Try.ntmps11
  go_wp2_with (first
    | (go_at_call 14
       refine HN.out.mono ?_
       rintro e w1 ⟨A1, n1, c1, rfl, hT1, hb1⟩
       have hbw1 := hb0.trans (hb1.mono hb0.size)
       have b1 := b0.below hb1 b0.lt))
  have hlen := hT1.len
  have hn1 : n1 ≤ 1000000 := by omega
  have hb1s := hbw1.size
  have Hlen := hide hlen
  clear HN hlen b0 hb0 hb1
  go_loopw [5, 7] (fun u v wr => ∃ (i m : Nat), i ≤ n1 ∧ v = .int .i64 (i : Int) ∧ m ≤ i ∧ wr.ownsRow w1.heap.size 9 1 u m (tcs (missL X (R.take i))) ∧ Below w1.heap.size w1 wr) (fun _ v _ => n1 - (RowKit.intOf v).toNat)
  case atStart => exact ⟨0, 0, by omega, rfl, by omega, World.ownsRow_nil _ _ _ _, Below.refl _ _⟩
  case round =>
    obtain ⟨i, m, hi, rfl, hm, hown, hb⟩ := hrel
    have hbs := hb.size
    obtain ⟨Ax, cx, rfl, hcx, hrd⟩ := own_texts hown
    by_cases hlt : i < n1
    · obtain ⟨ad, z, rfl, had, hz, hc⟩ := tcs_at (hT1.on hb) hlt
      have hbX := b1.below hb b1.lt
      have kX := (hbX.cell 0).trans (show (#[Value.slice Ay ny cy] : Array Value)[0]? = some (.slice Ay ny cy) from rfl)
      have hst := missL_take (X := X) hz
      have hi1 : (0 : Int) ≤ (i : Int) := by omega
      have hi2 : (i : Int) < (n1 : Int) := by omega
      have HH1 := hide (HH.out z wr.drew (hbw1.trans (hb.mono hb1s)).drew)
      clear hrd hz hT1
      cases hg : (atX X z).isSome with
      | true =>
        rw [hg] at HH1
        rw [hg, if_pos rfl] at hst
        have Hst := hide hst
        clear hst hg
        go_upto_region 6 with fail
        go_region_held3 (fun w' => w'.cell? ⟨w.heap.size, 0, none⟩ = some (.slice Ay ny cy) ∧ w'.cell? (ad.add i) = some (.string z)) (first | exact ⟨kX3, hc3⟩ | exact ⟨kX, hc⟩ | go_keep)
          (first
            | (go_at_call 24
               refine HH1.out.mono ?_
               rintro e w3 ⟨rfl, hb3⟩
               have hb3' : Below wr.heap.size wr w3 := ((Below.refl _ _).drew).trans hb3
               have kX3 := (hb3'.cell (p := ⟨w.heap.size, 0, none⟩) hbX.lt).trans kX
               have hc3 := (hb3'.cell (p := ad.add i) (by rw [block_of_add]; exact had)).trans hc))
        have hbz := hb.trans (hb3'.mono hbs)
        have hown3 := own_below hown hb3'
        go_wp2
        go_roundw
        case rel => exact ⟨i + 1, m, by omega, by go_num, by omega, by rw [Hst.out]; exact hown3, hbz⟩
        case measure => simp [RowKit.intOf]; omega
      | false =>
        rw [hg] at HH1
        rw [hg, if_neg (by simp)] at hst
        have Hst := hide hst
        clear hst hg
        go_upto_region 6 with fail
        go_region_held3 (fun w' => w'.cell? ⟨w.heap.size, 0, none⟩ = some (.slice Ay ny cy) ∧ w'.cell? (ad.add i) = some (.string z)) (first | exact ⟨kX3, hc3⟩ | exact ⟨kX, hc⟩ | go_keep)
          (first
            | (go_at_call 24
               refine HH1.out.mono ?_
               rintro e w3 ⟨rfl, hb3⟩
               have hb3' : Below wr.heap.size wr w3 := ((Below.refl _ _).drew).trans hb3
               have kX3 := (hb3'.cell (p := ⟨w.heap.size, 0, none⟩) hbX.lt).trans kX
               have hc3 := (hb3'.cell (p := ad.add i) (by rw [block_of_add]; exact had)).trans hc))
        have hbz := hb.trans (hb3'.mono hbs)
        have hbzs := hbz.size
        have hown3 := own_below hown hb3'
        clear kX hc HH1
        go_wp2_with (first
          | (at_builtin
             refine wpList_append_any _ rfl _ _ _ rfl w1.heap.size 9 i0 _ 1 16 Try.underlying33 hi0 hz0 hz1 hz2 rfl (by omega) _ m (tcs (missL X (R.take i))) rfl (own_below hown3 (alloc_b (.cells #[.string z] 9))) _ _ 1 _ _ rfl (Reads.new1 _ 9 (.string z)) (one_str _) (by unfold maxLen; omega) (by omega) (by simp; omega) ?_
             intro v2 w5 hown5 hg5 _
             have hb5 : Below w1.heap.size w1 w5 := (hbz.alloc hbzs _).grown hg5 (by simp; omega) (fun k hk => (hown3.lt k hk).1)))
        go_roundw
        case rel => exact ⟨i + 1, m + 1, by omega, by go_num, by omega, by rw [Hst.out, tcs_append]; exact hown5, hb5⟩
        case measure => simp [RowKit.intOf]; omega
    · have hi2 : i = n1 := by omega
      subst hi2
      rw [List.take_of_length_le (by rw [Hlen.out]; exact Nat.le_refl _)] at hrd
      have hbw : Below w.heap.size w wr := hbw1.trans (hb.mono hb1s)
      clear hT1 hown
      go_wp2
      go_ret
      exact ⟨Ax, m, cx, rfl, hrd, hbw⟩
end Go.Proofs.Ytdkcjjbnoeediaa.Reach
