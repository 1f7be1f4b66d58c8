/-
  Some texts of this claim, one behind the other: TrailDecide, TrailTold. What each proves, and its condition, stands at its head.
-/
import Derived.Test.YtllogmokadcfmaaGreatZB49
import Derived.Test.YtllogmokadcfmaaGreatZB51
import Derived.Test.YtllogmokadcfmaaGreatZB15
import Derived.Test.YtllogmokadcfmaaGreatZB48
/-
  The contract of the program's Decide: a version is decided: a new level begins with its entry. Condition: names of at most 1,000,000,000 bytes, at most 1000 entries, whose sets may be and are short.
-/
namespace Go.Proofs.YtllogmokadcfmaaGreat.Trail
open Go Go.RowKit Go.Lib Go.Proofs.YtllogmokadcfmaaGreat.Span Go.Proofs.YtllogmokadcfmaaGreat.Need Go.Proofs.YtllogmokadcfmaaGreat.Mani Go.Proofs.YtllogmokadcfmaaGreat.Grow Go.Proofs.YtllogmokadcfmaaGreat.Term
open Go.Proofs.YtllogmokadcfmaaGreat.Label (runes fitL)
open Go.Proofs.YtllogmokadcfmaaGreat.Fact (atS)
open Go.Proofs.YtllogmokadcfmaaGreat.MapV
set_option linter.unusedVariables false
section
variable {w w' : World} {B : Nat} {v vb : Value} {x : Tr} {l : List Ent} {bs : List Nat} {mo : Option Nat}
theorem RowB.farT (h : RowB w B vb bs) {T : TypeId} (hT : T ≠ 3) : FarT w T vb.ownBlock := by
  rcases h with h | ⟨g, off, cur, rfl, hB, hg, hs, hc⟩
  · exact farT_own h hT
  · exact farT_blk hg hT
theorem RowB.keeps (h : RowB w B vb bs) (hg : w.grownBy w' vb.ownBlock) (hB : B ≤ w.heap.size) : Keeps TrS B w w' := by
  rcases h with h | ⟨g, off, cur, rfl, hBg, hb, hs, hc⟩
  · exact keeps_own h (.inr (.inr rfl)) hg hB
  · exact keeps_cells hg hBg hb (.inr (.inr rfl))
theorem MapN.rowB (h : MapN w B mo l) (hr : RowB w B vb bs) (hg : w.grownBy w' vb.ownBlock) : MapN w' B mo l := by
  rcases hr with ho | ⟨g, off, cur, rfl, hBg, hb, hs, hc⟩
  · exact h.own ho hg
  · exact h.cells hb hg
theorem has_all (p : Int) : has allS p = Pick.verOk p := by
  unfold has allS Pick.verOk
  simp
theorem beg_facts {W9 X w5 : World} {g0 : Nat} {ve : Value} {mo : Option Nat} (hbx : Below W9.heap.size W9 X) (h1 : Blk W9 g0 61 #[ve, vb, .map mo]) (h2 : RowN W9 B ve l) (h3 : RowB W9 B vb bs) (h4 : MapN W9 B mo l) (hg5 : X.grownBy w5 vb.ownBlock) (hB : B ≤ W9.heap.size) :
    Blk w5 g0 61 #[ve, vb, .map mo] ∧ RowN w5 B ve l ∧ MapN w5 B mo l ∧ Keeps TrS B W9 w5 := by
  have h3x := h3.below hbx
  exact ⟨(h1.below hbx h1.lt).grown hg5 (h3x.farT (by decide) _ _ _ (h1.below hbx h1.lt)), (h2.below hbx).far (h3x.farT (by decide)) (h3x.farT (by decide)) hg5, (h4.below hbx).rowB h3x hg5, (Keeps.of_below (TS := TrS) hbx hB).trans (h3x.keeps hg5 (Nat.le_trans hB hbx.size))⟩
theorem reads_int (w : World) (k : Int) (g : Nat) (hg : g = w.heap.size) : Reads (w.alloc (.cells #[.int .i64 k] 3)) (w.alloc (.cells #[.int .i64 k] 3)).heap.size 1 (some ⟨g, 0, none⟩) 1 [.int .i64 k] := by
  subst hg
  have := Reads.new1 w 3 (.int .i64 k)
  rw [World.size_alloc]
  exact this
set_option maxHeartbeats 8000000 in
set_option maxRecDepth 100000 in
theorem decideTr_any (nm : ByteArray) (ver : Int) (h : TrP w B v x) (hs : SmallE x.l) (hl : x.l.length ≤ 900) (hlv : x.level ≤ 900) (hnm : nm.size ≤ 1000000000) :
    Calls Tryz.prog 13 #[v, .string nm, .int .i64 ver] w (MovesT TrP TrS B w v (decideT x nm ver)) := by
  have hBw := h.size
  obtain ⟨R, hR⟩ : ∃ R, decideT x nm ver = R := ⟨_, rfl⟩
  have HR := hide (hR.symm.trans (by unfold decideT; rfl))
  rw [hR]
  have HF := hide (fun (wx : World) => Label.fit_any nm wx (by omega))
  have HA := hide (fun (wx : World) => all_newT wx)
  have HH := hide (fun (wx : World) (A1 : Option Addr) (n1 c1 : Nat) (h1 : SpOn wx A1 n1 allS) => by
    have := has_any (c := c1) ver wx h1 (Nat.le_refl _) (by have := h1.1; simp [allS] at this; omega)
    rw [has_all] at this
    exact this)
  have HK := hide (fun (wx : World) (hb : Below w.heap.size w wx) => knowTr_any nm (h.below hb) hs (by omega) hnm)
  unfold TellsC at HK
  have hKn : (knowL x.l nm).name = nm := know_name _ _
  have hKl := know_len hs nm
  have HT := hide (fun (wx : World) (A1 : Option Addr) (n1 c1 : Nat) (h1 : SpOn wx A1 n1 (knowL x.l nm).set) => by
    have := hasT_any (knowL x.l nm).name (knowL x.l nm).set (knowL x.l nm).none A1 n1 c1 wx h1 ver true (by have := h1.1; omega) (know_set _ _)
    rw [if_pos rfl] at this
    exact this)
  unfold Tells at HT
  have Hh := hide h
  obtain ⟨g0, rfl, hgl, hBg, _⟩ := h.ahead
  unfold MovesT
  cases hf : fitL (runes nm 0) with
  | false =>
    have E : Hid (R = (1, x)) := hide (by rw [HR.out, hf]; simp)
    rw [hf] at HF
    clear HR hR h hf hKn hKl
    go_enter Tryz.func13, Tryz.ntmps13
    go_wp2_with (first
      | (go_at_call 31
         refine (HF.out _).mono ?_
         rintro e w1 ⟨rfl, hb1⟩))
    go_ret
    rw [E.out]
    exact ⟨rfl, Hh.out.below hb1, Keeps.of_below hb1 hBw⟩
  | true =>
    rw [hf] at HF
    cases hvo : Pick.verOk ver with
    | false =>
      have E : Hid (R = (1, x)) := hide (by rw [HR.out, hf, hvo]; simp)
      rw [hvo] at HH
      clear HR hR h hf hvo hKn hKl
      go_enter Tryz.func13, Tryz.ntmps13
      go_wp2_with (first
        | (go_at_call 31
           refine (HF.out _).mono ?_
           rintro e w1 ⟨rfl, hb1⟩)
        | (go_at_call 33
           refine (HA.out _).mono ?_
           rintro e w2 ⟨A2, n2, c2, rfl, hN2, hb2⟩
           have hb2w := hb1.trans (hb2.mono hb1.size))
        | (go_at_call 32
           refine (HH.out _ _ _ _ (on_new hN2)).mono ?_
           rintro e w3 ⟨rfl, hb3⟩
           have hb3w := hb2w.trans (hb3.mono hb2w.size)))
      go_ret
      rw [E.out]
      exact ⟨rfl, Hh.out.below hb3w, Keeps.of_below hb3w hBw⟩
    | true =>
      rw [hvo] at HH
      cases hhk : has (knowL x.l nm).set ver with
      | false =>
        have E : Hid (R = (2, x)) := hide (by rw [HR.out, hf, hvo, hhk]; simp)
        rw [hhk] at HT
        clear HR hR h hf hvo hhk hKl
        generalize knowL x.l nm = K at *
        clear hKn
        go_enter Tryz.func13, Tryz.ntmps13
        go_wp2_with (first
          | (go_at_call 31
             refine (HF.out _).mono ?_
             rintro e w1 ⟨rfl, hb1⟩)
          | (go_at_call 33
             refine (HA.out _).mono ?_
             rintro e w2 ⟨A2, n2, c2, rfl, hN2, hb2⟩
             have hb2w := hb1.trans (hb2.mono hb1.size))
          | (go_at_call 32
             refine (HH.out _ _ _ _ (on_new hN2)).mono ?_
             rintro e w3 ⟨rfl, hb3⟩
             have hb3w := hb2w.trans (hb3.mono hb2w.size))
          | (go_at_call 18
             refine (HK.out _ hb3w).mono ?_
             rintro e w4 ⟨A4, n4, c4, rfl, hc4, hI4, hb4⟩
             have hb4w := hb3w.trans (hb4.mono hb3w.size))
          | (go_at_call 34
             refine (HT.out _ _ _ _ hI4.1).mono ?_
             rintro e w5 ⟨rfl, hb5⟩
             have hb5w := hb4w.trans (hb5.mono hb4w.size)))
        go_ret
        rw [E.out]
        exact ⟨rfl, Hh.out.below hb5w, Keeps.of_below hb5w hBw⟩
      | true =>
        have E : Hid (R = (0, putT { x with level := x.level + 1 } ⟨nm, atS ver, false⟩ (-1))) := hide (by rw [HR.out, hf, hvo, hhk]; simp)
        rw [hhk] at HT
        obtain ⟨v0, v1⟩ := Pick.verOk_iff.1 hvo
        have HOne := hide (fun (wx : World) => by
          have := one_any ver wx (by omega) (by omega)
          rw [oneS_some v0 v1] at this
          exact this)
        obtain ⟨bs, hq, h5⟩ := h.q
        have hbl := h5.beg.len
        have HOk : Hid (OkL (putT { x with level := x.level + 1 } ⟨nm, atS ver, false⟩ (-1)) (bs ++ [x.l.length])) := hide ⟨h5.beg.decide _, h5.dec.decide hvo hhk _, fun e he => by
          rcases List.mem_append.1 he with he | he
          · exact h5.names e he
          · rw [List.mem_singleton.1 he]; exact hnm⟩
        have HPut := hide (fun (wx : World) (A1 : Option Addr) (n1 c1 : Nat) (hx : TrQ wx B (.pointer (some ⟨g0, 0, none⟩)) x.l (bs ++ [x.l.length])) (h1 : SpOn wx A1 n1 (atS ver)) => putTr_any ⟨nm, atS ver, false⟩ A1 n1 c1 (-1) hx h1 (by have := h1.1; simp [atS] at this; omega) hnm ((isSet_cons _ _ _).2 ⟨by show -1 < ver; omega, by show ver < ver + 1; omega, by show ver + 1 ≤ 1000000000; omega, rfl⟩) (by omega))
        have ebl : (bs ++ [x.l.length]).length = x.level + 1 := by rw [List.length_append, hbl]; rfl
        rw [ebl] at HPut
        have Hq := hide hq
        have Hbl := hide (show bs.length ≤ 900 by omega)
        clear HR hR h hf hvo hhk hKl h5 ebl hbl hs hl hq
        generalize knowL x.l nm = K at *
        clear hKn
        have HxL := hide (rfl : x.l = x.l)
        go_enter Tryz.func13, Tryz.ntmps13
        go_upto_region 5 with (first
          | (go_at_call 31
             refine (HF.out _).mono ?_
             rintro e w1 ⟨rfl, hb1⟩)
          | (go_at_call 33
             refine (HA.out _).mono ?_
             rintro e w2 ⟨A2, n2, c2, rfl, hN2, hb2⟩
             have hb2w := hb1.trans (hb2.mono hb1.size))
          | (go_at_call 32
             refine (HH.out _ _ _ _ (on_new hN2)).mono ?_
             rintro e w3 ⟨rfl, hb3⟩
             have hb3w := hb2w.trans (hb3.mono hb2w.size))
          | (go_at_call 18
             refine (HK.out _ hb3w).mono ?_
             rintro e w4 ⟨A4, n4, c4, rfl, hc4, hI4, hb4⟩
             have hb4w := hb3w.trans (hb4.mono hb3w.size))
          | (go_at_call 34
             refine (HT.out _ _ _ _ hI4.1).mono ?_
             rintro e W9 ⟨rfl, hb5⟩
             have hb5w := hb4w.trans (hb5.mono hb4w.size)))
        have hq9 := Hq.out.below hb5w
        obtain ⟨g0', ve, vb, mo, e9, hBg', h1, h2, h3, h4⟩ := hq9
        injection e9 with e9
        injection e9 with e9
        injection e9 with e9
        subst e9
        obtain ⟨Ae, ce, rfl, hce, _⟩ := h2.form
        obtain ⟨Ab, cb, rfl, hcb, _⟩ := h3.form
        have Hsz := hide (show B ≤ W9.heap.size by have := h1.lt; omega)
        have kp9 := hide (Keeps.of_below (TS := TrS) hb5w hBw)
        have x0 := (h1.cell 0).trans (show _ = some (Value.slice Ae x.l.length ce) from rfl)
        have x1 := (h1.cell 1).trans (show _ = some (Value.slice Ab bs.length cb) from rfl)
        have hlt0 := h1.lt
        clear hb1 hb2 hb3 hb4 hb5 hb2w hb3w hb4w hN2 hI4 HF HA HH HK HT hb5w hBg'
        go_region_law (
          refine step_append_b (k := x.l.length) rfl (.tmp 30) (.tmp 36) rfl rfl (h3.below ?_) ?_ ?_ _ _ rfl (reads_int _ _ _ ?_) ?_
          · exact (below_drewN (Below.refl _ _) _).alloc (Nat.le_refl _) _
          · have := Hsz.out; simp; omega
          · have := Hbl.out; omega
          · rfl
          intro v5 w5 h35 hg5
          obtain ⟨h15, h25, h45, kp5x⟩ := beg_facts ((below_drewN (Below.refl _ _) _).alloc (Nat.le_refl _) _) h1 h2 h3 h4 hg5 Hsz.out
          have kp5 := hide (kp9.out.trans kp5x)
          obtain ⟨Af, cf, ef, hcf, _⟩ := h35.form
          rw [List.length_append, List.length_singleton] at ef
          subst ef
          have k51 := h15.cell 1
          have f51 := h15.frozen 1
          clear hg5 kp5x)
        all_goals (
          obtain ⟨W6, hW6⟩ : ∃ W6, W6 = w5.setCell ⟨g0, 1, none⟩ (.slice Af (bs.length + 1) cf) := ⟨_, rfl⟩
          have hgW6 : w5.grownBy W6 (some g0) := by rw [hW6]; exact only_setCell (p := ⟨g0, 1, none⟩) (only_self w5 g0) (.inl rfl) _
          have h16 : Blk W6 g0 61 #[.slice Ae x.l.length ce, .slice Af (bs.length + 1) cf, .map mo] := by rw [hW6]; exact h15.set_ 1 _
          have hq6 : TrQ W6 B (.pointer (some ⟨g0, 0, none⟩)) x.l (bs ++ [x.l.length]) := ⟨g0, _, _, mo, rfl, hBg, h16, h25.far (farT_blk h15 (by decide)) (farT_blk h15 (by decide)) hgW6, h35.far (farT_blk h15 (by decide)) hgW6, h45.cells h15 hgW6⟩
          have kp6 := hide (kp5.out.trans (keeps_cells hgW6 hBg h15 (.inl rfl)))
          try rw [← hW6]
          clear hW6 h15 h16 h25 h35 h45 hgW6 k51 f51 x0 x1 h1 h2 h3 h4
          go_wp2_with (first
            | (go_at_call 36
               refine (HOne.out _).mono ?_
               rintro e w7 ⟨A7, n7, c7, rfl, hN7, hb7⟩)
            | (go_at_call 35
               refine (HPut.out _ _ _ _ (hq6.below hb7) (on_new hN7)).mono ?_
               rintro e w8 ⟨rfl, hq8, hk8⟩))
          go_ret
          rw [E.out]
          refine ⟨rfl, hq8.p (x := putT { x with level := x.level + 1 } ⟨nm, atS ver, false⟩ (-1)) HOk.out, kp6.out.trans ((Keeps.of_below hb7 (hq6.grow)).trans hk8)⟩)
set_option maxHeartbeats 2000000 in
set_option maxRecDepth 100000 in
theorem decideTr_nil (nm : ByteArray) (ver : Int) (w : World) : Calls Tryz.prog 13 #[.pointer none, .string nm, .int .i64 ver] w fun e w' => e = .returned (.int .i64 1) ∧ Below w.heap.size w w' := by
  go_enter Tryz.func13, Tryz.ntmps13
  go_wp2
  go_ret
  exact ⟨rfl, Below.refl _ _⟩
end
end Go.Proofs.YtllogmokadcfmaaGreat.Trail
/-
  The program's trail tells what the laws ask: all its contracts together. No condition.
-/
namespace Go.Proofs.YtllogmokadcfmaaGreat.Trail
open Go Go.RowKit Go.Lib Go.Proofs.YtllogmokadcfmaaGreat.Span Go.Proofs.YtllogmokadcfmaaGreat.Need Go.Proofs.YtllogmokadcfmaaGreat.Mani Go.Proofs.YtllogmokadcfmaaGreat.Grow Go.Proofs.YtllogmokadcfmaaGreat.Term
set_option linter.unusedVariables false
theorem ins_any {w : World} {B n : Nat} {A : Option Addr} {s : List S} (h : InS w 0 A n s) : InS w B A n s := ⟨h.1, fun ad hA hn => (h.2 ad hA hn).elim (fun e => absurd e (Nat.not_lt_zero _)) .inr⟩
theorem tellsB_of {B : Nat} {w w' : World} {t : Tm} {e : Ending} (h : TellsC w t e w') : TellsB B w t e w' := by
  obtain ⟨A, n, c, he, hc, hI, hb⟩ := h
  exact ⟨A, n, c, he, ins_any hI, hb⟩
theorem same_b {w w' : World} (h : w = w') : Below w.heap.size w w' := by rw [h]; exact Below.refl _ _
theorem progT : ProgT TrP TrS where
  span := not_trS (by decide)
  term := not_trS (by decide)
  does := not_trS (by decide)
  ptr := fun h => by
    obtain ⟨g, ve, vb, mo, bs, e, _⟩ := h
    exact ⟨_, e⟩
  size := fun h => h.size
  below := fun h hb => h.below hb
  far := fun h hg hw hT hS => h.far hg hw hT hS
  new := newTr_any
  know := fun nm h hf hn => (knowTr_any nm h hf.small (by have := hf.len; omega) hn).mono fun _ _ => tellsB_of
  knowAt := fun k nm h hf hn => (knowAtTr_any k nm h hf.small (by have := hf.len; omega) hn).mono fun _ _ => tellsB_of
  level := fun h _ => (levelTr_any h).mono fun _ _ ⟨e, hw⟩ => ⟨e, same_b hw⟩
  len := fun h _ => (lenTr_any h).mono fun _ _ ⟨e, hw⟩ => ⟨e, same_b hw⟩
  decide := fun nm ver h hf hn => decideTr_any nm ver h hf.small (by have := hf.len; omega) (by have := hf.level; omega) hn
  derive := fun t A n c cz h hf hi hc ht hn => deriveTr_any t A n c cz h hf.small (by have := hf.len; omega) (by have := hf.level; omega) hi.1 ht hn
  back := fun k h hf _ => backTr_any k h (by have := hf.len; omega)
  first := fun c A n k h hf hc hn ht => firstTr_any c A n k h hf.small (by have := hf.len; omega) hc (by omega) (fun t hm => ⟨(ht t hm).1, (ht t hm).2.1⟩)
end Go.Proofs.YtllogmokadcfmaaGreat.Trail
