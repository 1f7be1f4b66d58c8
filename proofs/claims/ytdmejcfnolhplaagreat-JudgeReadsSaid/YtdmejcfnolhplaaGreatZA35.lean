/-
  Some texts of this claim, one behind the other: IndexPut. What each proves, and its condition, stands at its head.
-/
import Derived.Test.YtdmejcfnolhplaaGreatZA34
import Derived.Test.YtdmejcfnolhplaaGreatZA30
import Derived.WalkSpells
/-
  The contract of the program's Put. Condition: names and lists of a length that may be walked; the bytes lie below what is written.
-/
namespace Go.Proofs.YtdmejcfnolhplaaGreat.Index
open Go Go.RowKit Go.Lib Go.Proofs.YtdmejcfnolhplaaGreat.Span Go.Proofs.YtdmejcfnolhplaaGreat.Need Go.Proofs.YtdmejcfnolhplaaGreat.Mani Go.Proofs.YtdmejcfnolhplaaGreat.Wire Go.Proofs.YtdmejcfnolhplaaGreat.Depot Go.Proofs.YtdmejcfnolhplaaGreat.MapV
open Go.Proofs.YtdmejcfnolhplaaGreat.Label (runes fitL)
set_option linter.unusedVariables false
theorem IdxM.below {w w' : World} {b : Nat} {l : List Kn} (h : IdxM w b l) (hb : Below w.heap.size w w') : IdxM w' b l := h.far (by simp) (farT_none _ _) (farT_none _ _) (farT_none _ _) (only_of_below hb none)
theorem store_any {w : World} {b : Nat} {l : List Kn} {v : Value} {nm : ByteArray} {k : Kv} (h : IdxM w b l) (hk : Kept w v nm k) (hn : atX l nm = none) (hr : RisesK l) (hlen : l.length < maxLen) (hs : nm.size ≤ maxLen) :
    ∃ w', (Instr.mapUpdate 91 (.map (some b)) (.string nm) v).run Tryz.prog w = .ok () w' ∧ IdxM w' b (insX (nm, k) false l) ∧ w.grownBy w' (some b) := by
  have hfT : ∀ T, FarT w T (some b) := fun T => by
    obtain ⟨val, ho, _⟩ := h
    exact farT_map T ho
  obtain ⟨val, ⟨D, ho, ht⟩, hks⟩ := h
  obtain ⟨w', hrun, ho', hturn⟩ := ho.store keyed Tryz.underlying91 hlen (key_ofS nm hs) (val := v) (d := .held v) (ps := []) rfl
  have hnot := notin_of hr hn
  refine ⟨w', hrun, ⟨fun x => if x = nm then v else val x, ⟨_, by rw [insX_len]; exact ho', ht.put nm v (fun x => ?_) ?_⟩, fun q hq => ?_⟩, hturn.grown⟩
  · rw [lookA_nvs, lookA_nvs, insX_at hnot]
    by_cases e : nm = x
    · rw [if_pos e, if_pos e]
      simp [e]
    · rw [if_neg e, if_neg e]
      have e2 : ¬ x = nm := fun g => e g.symm
      simp [e2]
  · rw [nvs_length, nvs_length, insX_len, lookA_nvs, hn]
    rfl
  · rcases (insX_mem _ _).1 hq with rfl | hq
    · simp only [if_true]
      exact hk.far (hfT _) (hfT _) (hfT _) hturn.grown
    · have e := hnot q hq
      simp only [if_neg e]
      exact (hks q hq).far (hfT _) (hfT _) (hfT _) hturn.grown
def Puts (w : World) (g : Nat) (mo : Option Nat) (l : List Kn) (nm : ByteArray) (bd : List UInt8) (e : Ending) (w' : World) : Prop :=
  e = .returned (.int .i64 (errX l nm bd)) ∧ (∃ mo', Idx w' g mo' (putX l nm bd) ∧ (mo' = mo ∨ (mo = none ∧ ∃ b', mo' = some b' ∧ w.heap.size ≤ b'))) ∧ w.grownBy w' (some (rowX g mo))
theorem puts_same {w w' : World} {g : Nat} {mo : Option Nat} {l : List Kn} {nm : ByteArray} {bd : List UInt8} {e : Ending} {c : Int} (h : Idx w g mo l) (he : errX l nm bd = c) (hc : c ≠ 0) (hb : Below w.heap.size w w') (e1 : e = .returned (.int .i64 c)) : Puts w g mo l nm bd e w' := by
  refine ⟨by rw [he]; exact e1, ⟨mo, ?_, .inl rfl⟩, only_of_below hb _⟩
  unfold putX
  rw [if_neg (by rw [he]; exact hc)]
  exact h.below hb
theorem putX_new {l : List Kn} {nm : ByteArray} {bd : List UInt8} (h : errX l nm bd = 0) : putX l nm bd = insX (nm, valX nm bd) false l := by
  unfold putX
  rw [if_pos h]
set_option maxHeartbeats 8000000 in
set_option maxRecDepth 100000 in
theorem putG_any (g : Nat) (mo : Option Nat) (l : List Kn) (nm : ByteArray) (bd : List UInt8) (A : Option Addr) (n c : Nat) (w : World) (h : Idx w g mo l) (hl : RisesK l) (hlen : l.length ≤ 100000) (hr : ∀ W, w.grownBy W (some (rowX g mo)) → Reads W W.heap.size 1 A n (bcs bd)) (hnm : nm.size ≤ 1000000000) :
    Calls Tryz.prog 27 #[.pointer (some ⟨g, 0, none⟩), .string nm, .slice A n c] w (Puts w g mo l nm bd) := by
  have hn : n = bd.length := by
    have := (hr w (World.grownBy.refl _ _)).1
    rw [bcs_length] at this
    omega
  have hnl : bd.length = n := hn.symm
  clear hn
  have HW := hide (Label.fit_any nm w (by omega))
  have HH := hide (fun (wx : World) (hb : Below w.heap.size w wx) => has_any g mo l nm wx (h.below hb) hnm)
  have H := hide h
  have hmay : mayX nm bd = (fitL (runes nm 0) && decide (n ≤ 8192)) := by unfold mayX; rw [hnl]
  have hq := fun (wx : World) (r : Option Nat) => run_eql_map_nil (P := Tryz.prog) wx _ _ _ r Tryz.underlying91
  have hmm := @run_makeMap Tryz.prog
  generalize fitL (runes nm 0) = F at *
  cases F
  · have E : Hid (errX l nm bd = 1) := hide (by unfold errX; rw [if_pos (by rw [hmay]; rfl)])
    clear hmay hnl hr hl hlen h HH
    go_enter Tryz.func27, Tryz.ntmps27
    go_wp2_with (first
      | (go_at_call 42
         refine HW.out.mono ?_
         rintro e w1 ⟨rfl, hb1⟩))
    go_ret
    exact puts_same H.out E.out (by decide) hb1 rfl
  · by_cases h8 : n ≤ 8192
    · have hz : ¬ ((8192 : Int) < (n : Int)) := by omega
      have hm1 : mayX nm bd = true := by rw [hmay, decide_eq_true h8]; rfl
      have Hm1 := hide hm1
      clear hmay hm1 h8
      cases ho : atX l nm with
      | some k0 =>
        have E : Hid (errX l nm bd = 6) := hide (by unfold errX; rw [if_neg (by rw [Hm1.out]; simp), if_pos (by rw [ho]; rfl)])
        have e0 : (atX l nm).isSome = true := by rw [ho]; rfl
        rw [e0] at HH
        clear ho e0 hnl hr hl hlen h
        go_enter Tryz.func27, Tryz.ntmps27
        go_wp2_with (first
          | (go_at_call 42
             refine HW.out.mono ?_
             rintro e w1 ⟨rfl, hb1⟩)
          | (go_at_call 43
             refine (HH.out _ hb1).mono ?_
             rintro e w2 ⟨rfl, rfl⟩))
        go_ret
        exact puts_same H.out E.out (by decide) hb1 rfl
      | none =>
        have E : Hid (errX l nm bd = 0) := hide (by unfold errX; rw [if_neg (by rw [Hm1.out]; simp), if_neg (by rw [ho]; simp)])
        have e0 : (atX l nm).isSome = false := by rw [ho]; rfl
        rw [e0] at HH
        have Hat := hide ho
        have Hr := hide hl
        have Hlen := hide hlen
        have Hnew := hide (putX_new (l := l) (nm := nm) (bd := bd))
        clear ho e0 hnl hl hlen
        cases mo with
        | none =>
          have hl0 : l = [] := by
            rcases h.2 with ⟨_, e⟩ | ⟨b, e, _⟩
            · exact e
            · cases e
          have hgs := h.lt
          clear h
          go_enter Tryz.func27, Tryz.ntmps27
          go_upto_region 7 with (first
            | (go_at_call 42
               refine HW.out.mono ?_
               rintro e w1 ⟨rfl, hb1⟩
               have bg1 := H.out.1.below hb1 hgs
               have hc1 := (bg1.cell 0).trans (show (#[Value.map none] : Array Value)[0]? = some (.map none) from rfl)
               have hc2 := ((bg1.alloc (.map #[] 0)).cell 0).trans (show (#[Value.map none] : Array Value)[0]? = some (.map none) from rfl)
               have hf2 := (bg1.alloc (.map #[] 0)).frozen 0)
            | (go_at_call 43
               refine (HH.out _ hb1).mono ?_
               rintro e w2 ⟨rfl, rfl⟩))
          obtain ⟨W, hW⟩ : ∃ W, W = (w1.alloc (.map #[] 0)).setCell ⟨g, 0, none⟩ (.map (some w1.heap.size)) := ⟨_, rfl⟩
          have hb1s := hb1.size
          have hgw1 : g ≠ w1.heap.size := by omega
          have HI : Blk W g 93 #[.map (some w1.heap.size)] ∧ IdxM W w1.heap.size l := by
            rw [hW, hl0]
            refine ⟨(bg1.alloc (.map #[] 0)).set_ 0 _, fun _ => .nilIface, ?_, fun q hq => by cases hq⟩
            exact (OwnV.made w1).setCell (a := ⟨g, 0, none⟩) (fun e => hgw1 e.symm) _
          have hgW : w.grownBy W (some g) := by
            rw [hW]
            exact only_setCell (p := ⟨g, 0, none⟩) (only_alloc (only_of_below hb1 _) _) (.inl rfl) _
          have hrW : Reads W W.heap.size 1 A n (bcs bd) := hr W hgW
          rw [← hW]
          clear hW hc1 hc2 hf2 bg1 hr hl0
          have HNE := hgw1
          have hb0 : w.heap.size ≤ w1.heap.size := hb1s
          generalize w1.heap.size = b0 at *
          clear hgw1 hb1 hb1s HW HH hq hmm
          obtain ⟨hBW, hmW⟩ : Blk W g 93 #[.map (some b0)] ∧ IdxM W b0 l := HI
          have hgb : g ≠ b0 := HNE
          have hc7 := (hBW.cell 0).trans (show (#[Value.map (some b0)] : Array Value)[0]? = some (.map (some b0)) from rfl)
          have HC7 := hide (fun wx => Label.clone_any nm wx hnm)
          have HR7 := hide (fun (wx : World) (hx : Reads wx wx.heap.size 1 A n (bcs bd)) => read_any nm bd A n c wx hx)
          have hrW2 := hrW
          go_region_held3 (fun w' => w'.cell? ⟨g, 0, none⟩ = some (.map (some b0))) (first | exact e3 | exact e2 | exact e1 | exact hc7 | go_keep)
            (first
              | (go_at_call 37
                 refine (HC7.out _).mono ?_
                 rintro e w5 ⟨rfl, hb5⟩
                 have hb5' : Below W.heap.size W w5 := ((Below.refl _ W).drew).trans hb5
                 have e1 := ((hBW.below hb5' hBW.lt).cell 0).trans (show (#[Value.map (some b0)] : Array Value)[0]? = some (.map (some b0)) from rfl))
              | (go_at_call 44
                 refine (HR7.out _ ?_).mono ?_
                 · exact (hrW2.below hb5').more hb5'.size
                 rintro e w6 ⟨v6, rfl, hv6, hb6⟩
                 have hb6' : Below W.heap.size W w6 := hb5'.trans (hb6.mono hb5'.size)
                 obtain ⟨w7, hrun7, hm7, hg7⟩ := store_any (hmW.below hb6') hv6 Hat.out Hr.out (by have := Hlen.out; unfold maxLen; omega) (by unfold maxLen; omega)
                 have e2 := ((hBW.below hb6' hBW.lt).cell 0).trans (show (#[Value.map (some b0)] : Array Value)[0]? = some (.map (some b0)) from rfl)
                 have e3 := (((hBW.below hb6' hBW.lt).grown hg7 (by intro e; injection e with e; exact hgb e)).cell 0).trans (show (#[Value.map (some b0)] : Array Value)[0]? = some (.map (some b0)) from rfl)))
          have hB7 := (hBW.below hb6' hBW.lt).grown hg7 (by intro e; injection e with e; exact hgb e)
          have hgr7 : W.grownBy w7 (some b0) := only_both (only_of_below hb6' _) hg7
          go_wp2
          go_ret
          have Eo := E.out
          refine ⟨by rw [Eo]; rfl, ⟨some b0, ⟨hB7, .inr ⟨b0, rfl, by rw [Hnew.out Eo]; exact hm7⟩⟩, .inr ⟨rfl, b0, rfl, hb0⟩⟩, ?_⟩
          exact only_then hgW hgr7 fun j hj => .inl (by injection hj with hj; omega)
        | some b0 =>
          have hgb0 : g ≠ b0 := h.apart h rfl
          go_enter Tryz.func27, Tryz.ntmps27
          go_upto_region 7 with (first
            | (go_at_call 42
               refine HW.out.mono ?_
               rintro e W ⟨rfl, hb1⟩
               have hW1 := h.below hb1
               have hc1 := (hW1.1.cell 0).trans (show (#[Value.map (some b0)] : Array Value)[0]? = some (.map (some b0)) from rfl))
            | (go_at_call 43
               refine (HH.out _ hb1).mono ?_
               rintro e w2 ⟨rfl, rfl⟩))
          have HI : Blk W g 93 #[.map (some b0)] ∧ IdxM W b0 l := by
            refine ⟨hW1.1, ?_⟩
            rcases hW1.2 with ⟨e, _⟩ | ⟨b, e, hm⟩
            · cases e
            · injection e with e
              rw [e]; exact hm
          have hrW : Reads W W.heap.size 1 A n (bcs bd) := hr W (only_of_below hb1 _)
          have HNE := hgb0
          clear hgb0 hc1 hW1 hr h HW HH hq hmm
          obtain ⟨hBW, hmW⟩ : Blk W g 93 #[.map (some b0)] ∧ IdxM W b0 l := HI
          have hgb : g ≠ b0 := HNE
          have hc7 := (hBW.cell 0).trans (show (#[Value.map (some b0)] : Array Value)[0]? = some (.map (some b0)) from rfl)
          have HC7 := hide (fun wx => Label.clone_any nm wx hnm)
          have HR7 := hide (fun (wx : World) (hx : Reads wx wx.heap.size 1 A n (bcs bd)) => read_any nm bd A n c wx hx)
          have hrW2 := hrW
          go_region_held3 (fun w' => w'.cell? ⟨g, 0, none⟩ = some (.map (some b0))) (first | exact e3 | exact e2 | exact e1 | exact hc7 | go_keep)
            (first
              | (go_at_call 37
                 refine (HC7.out _).mono ?_
                 rintro e w5 ⟨rfl, hb5⟩
                 have hb5' : Below W.heap.size W w5 := ((Below.refl _ W).drew).trans hb5
                 have e1 := ((hBW.below hb5' hBW.lt).cell 0).trans (show (#[Value.map (some b0)] : Array Value)[0]? = some (.map (some b0)) from rfl))
              | (go_at_call 44
                 refine (HR7.out _ ?_).mono ?_
                 · exact (hrW2.below hb5').more hb5'.size
                 rintro e w6 ⟨v6, rfl, hv6, hb6⟩
                 have hb6' : Below W.heap.size W w6 := hb5'.trans (hb6.mono hb5'.size)
                 obtain ⟨w7, hrun7, hm7, hg7⟩ := store_any (hmW.below hb6') hv6 Hat.out Hr.out (by have := Hlen.out; unfold maxLen; omega) (by unfold maxLen; omega)
                 have e2 := ((hBW.below hb6' hBW.lt).cell 0).trans (show (#[Value.map (some b0)] : Array Value)[0]? = some (.map (some b0)) from rfl)
                 have e3 := (((hBW.below hb6' hBW.lt).grown hg7 (by intro e; injection e with e; exact hgb e)).cell 0).trans (show (#[Value.map (some b0)] : Array Value)[0]? = some (.map (some b0)) from rfl)))
          have hB7 := (hBW.below hb6' hBW.lt).grown hg7 (by intro e; injection e with e; exact hgb e)
          have hgr7 : W.grownBy w7 (some b0) := only_both (only_of_below hb6' _) hg7
          go_wp2
          go_ret
          have Eo := E.out
          refine ⟨by rw [Eo]; rfl, ⟨some b0, ⟨hB7, .inr ⟨b0, rfl, by rw [Hnew.out Eo]; exact hm7⟩⟩, .inl rfl⟩, ?_⟩
          exact only_both (only_of_below hb1 _) hgr7
    · have hz : (8192 : Int) < (n : Int) := by omega
      have E : Hid (errX l nm bd = 1) := hide (by unfold errX; rw [if_pos (by rw [hmay, decide_eq_false h8]; rfl)])
      clear hmay hnl hr hl hlen h HH h8
      go_enter Tryz.func27, Tryz.ntmps27
      go_wp2_with (first
        | (go_at_call 42
           refine HW.out.mono ?_
           rintro e w1 ⟨rfl, hb1⟩))
      go_ret
      exact puts_same H.out E.out (by decide) hb1 rfl
set_option maxHeartbeats 2000000 in
set_option maxRecDepth 100000 in
theorem put_nil (nm : ByteArray) (A : Option Addr) (n c : Nat) (w : World) : Calls Tryz.prog 27 #[.pointer none, .string nm, .slice A n c] w fun e w' => e = .returned (.int .i64 1) ∧ w = w' := by
  go_enter Tryz.func27, Tryz.ntmps27
  go_wp2
  go_ret
  exact ⟨rfl, rfl⟩
theorem put_any (g : Nat) (mo : Option Nat) (l : List Kn) (nm : ByteArray) (bd : List UInt8) (A : Option Addr) (n c B : Nat) (w : World) (h : Idx w g mo l) (hl : RisesK l) (hlen : l.length ≤ 100000) (hr : Reads w B 1 A n (bcs bd)) (hB : B ≤ rowX g mo) (hnm : nm.size ≤ 1000000000) :
    Calls Tryz.prog 27 #[.pointer (some ⟨g, 0, none⟩), .string nm, .slice A n c] w (Puts w g mo l nm bd) := by
  have hBs : B ≤ w.heap.size := Nat.le_trans hB (Nat.le_of_lt h.rowlt)
  exact putG_any g mo l nm bd A n c w h hl hlen (fun W hg => (hr.grown hg hBs (fun k hk => by injection hk with hk; rw [← hk]; exact hB)).more (Nat.le_trans hBs hg.size)) hnm
theorem putT_any (g : Nat) (mo : Option Nat) (l : List Kn) (nm : ByteArray) (bd : List UInt8) (A : Option Addr) (n c : Nat) (w : World) (h : Idx w g mo l) (hl : RisesK l) (hlen : l.length ≤ 100000) (hr : Reads w w.heap.size 1 A n (bcs bd)) (hd : ∀ ad, A = some ad → 0 < n → ∃ cur m, w.heap[ad.block]? = some (.cells cur 5 m)) (hnm : nm.size ≤ 1000000000) :
    Calls Tryz.prog 27 #[.pointer (some ⟨g, 0, none⟩), .string nm, .slice A n c] w (Puts w g mo l nm bd) := by
  refine putG_any g mo l nm bd A n c w h hl hlen (fun W hg => ⟨hr.1, fun hn => ?_⟩) hnm
  obtain ⟨ad, hA, hlt, hc⟩ := hr.2 hn
  obtain ⟨cur, m, hb⟩ := hd ad hA hn
  exact ⟨ad, hA, Nat.lt_of_lt_of_le hlt hg.size, fun j u hu => (World.cell?_of_block (by rw [block_of_add]; exact hg.block _ hlt (h.farT (by decide) _ _ _ hb))).trans (hc j u hu)⟩
end Go.Proofs.YtdmejcfnolhplaaGreat.Index
