/-
  Some texts of this claim, one behind the other: JudgeFactsW. What each proves, and its condition, stands at its head.
-/
import Derived.Test.YtdmejcfnolhplaaGreatZB51
import Derived.Test.YtdmejcfnolhplaaGreatZB25
import Derived.Test.YtdmejcfnolhplaaGreatZB24
import Derived.Test.YtdmejcfnolhplaaGreatZB43
import Derived.Test.YtdmejcfnolhplaaGreatZB36
/-
  The walk of JudgeFacts, if the program's Accept, Clashes and Trim tell what they have to. Condition: those premises.
-/
namespace Go.Proofs.YtdmejcfnolhplaaGreat.Judge
open Go Go.RowKit Go.Lib Go.Sort Go.Proofs.YtdmejcfnolhplaaGreat.Grow Go.Proofs.YtdmejcfnolhplaaGreat.Label Go.Proofs.YtdmejcfnolhplaaGreat.Span Go.Proofs.YtdmejcfnolhplaaGreat.Need Go.Proofs.YtdmejcfnolhplaaGreat.Mani Go.Proofs.YtdmejcfnolhplaaGreat.Depot Go.Proofs.YtdmejcfnolhplaaGreat.Index Go.Proofs.YtdmejcfnolhplaaGreat.Reach Go.Proofs.YtdmejcfnolhplaaGreat.Fit Go.Proofs.YtdmejcfnolhplaaGreat.Pick Go.Proofs.YtdmejcfnolhplaaGreat.Term Go.Proofs.YtdmejcfnolhplaaGreat.Clash Go.Proofs.YtdmejcfnolhplaaGreat.Proof
open Go.Proofs.YtdmejcfnolhplaaGreat.Fact (OkX AskX okX_puts FcIn FcOn FinC ok_state)
set_option linter.unusedVariables false
theorem trim_names {l : List Sp} (h : NamesJ l) : NamesJ (trimT l) := fun q hq => by
  obtain ⟨m, hm, e⟩ := List.mem_iff_getElem.1 hq
  obtain ⟨i, s, hs, _, _, rfl⟩ := trim_from m (t := q) (by rw [← e]; exact List.getElem?_eq_getElem hm)
  have := h s (List.mem_of_getElem? hs)
  unfold reS
  split <;> exact this
theorem facts_hold {X : List Kn} {root : List Nd} {t : List Sp} {p : List Pk} (hp : okP p = true) (ho : okPf t = true) (hf : (clashC X root t []).length = t.length) {c : List Tm} (hc : (clashC X root t [])[t.length - 1]? = some c) (hh : holdsC (getP p) c = true)
    (hno : ∀ (j : Nat) (s : Sp) (d : List Tm), t[j]? = some s → s.kind ≠ 4 → (clashC X root t [])[j]? = some d → holdsC (getP p) d = false) : False := by
  obtain ⟨j, s, d, _, h1, h2, h3, h4⟩ := (clash_sound (okPf_steps ho).2.1 hf _ c hc).2 _ (ok_state hp) hh
  rw [hno j s d h1 h2 h3] at h4
  cases h4
def skipF (l : List En) (root : List Nd) (s : List Sp) (p : List Pk) : Bool := largeE l || (large root || (!okS root || (largeJ s || (!okPf s || (largeP p || !okP p)))))
set_option maxHeartbeats 8000000 in
set_option maxRecDepth 100000 in
theorem jfacts_skip (SA : SpecAcceptJ) (l : List En) (root : List Nd) (s : List Sp) (p : List Pk) (A0 A1 A2 A3 : Option Addr) (n0 c0 n1 c1 n2 c2 n3 c3 : Nat) (w : World) (h : EnOn w A0 n0 l) (h' : NdOn w A1 n1 root) (h'' : PfOn w A2 n2 s) (h3 : PkOn w A3 n3 p) (hn : n0 ≤ 9223372036854775807) (hn' : n1 ≤ 9223372036854775807) (hn'' : n2 ≤ 9223372036854775807) (hn3 : n3 ≤ 9223372036854775807) (hsk : skipF l root s p = true) :
    Calls Tryz.prog 4 #[.slice A0 n0 c0, .agg #[.slice A1 n1 c1, .slice A2 n2 c2, .slice A3 n3 c3]] w fun e w' => e = .returned (.bool true) ∧ Below w.heap.size w w' := by
  obtain ⟨W0, hW0⟩ : ∃ W0, W0 = w.alloc (.cells #[.slice A1 n1 c1, .slice A2 n2 c2, .slice A3 n3 c3] 48) := ⟨_, rfl⟩
  obtain ⟨g0, hg0⟩ : ∃ g, g = w.heap.size := ⟨_, rfl⟩
  have hbw0 : Below w.heap.size w W0 := by rw [hW0]; exact Proof.alloc_b _ _
  have hBx : Blk W0 g0 48 #[.slice A1 n1 c1, .slice A2 n2 c2, .slice A3 n3 c3] := by rw [hW0, hg0]; exact Blk.new _ _ _
  have hb0 : Below W0.heap.size W0 W0 := Below.refl _ _
  have HQ0 := hide (fun (wx : World) (hx : Below W0.heap.size W0 wx) => (show wx.cell? ⟨g0, 0, none⟩ = some (Value.slice A1 n1 c1) from ((hBx.below hx hBx.lt).cell 0).trans rfl))
  have HQ1 := hide (fun (wx : World) (hx : Below W0.heap.size W0 wx) => (show wx.cell? ⟨g0, 1, none⟩ = some (Value.slice A2 n2 c2) from ((hBx.below hx hBx.lt).cell 1).trans rfl))
  have HQ2 := hide (fun (wx : World) (hx : Below W0.heap.size W0 wx) => (show wx.cell? ⟨g0, 2, none⟩ = some (Value.slice A3 n3 c3) from ((hBx.below hx hBx.lt).cell 2).trans rfl))
  have hgb : g0 < W0.heap.size := hBx.lt
  replace h : EnOn W0 A0 n0 l := h.on hbw0
  replace h' : NdOn W0 A1 n1 root := h'.on hbw0
  replace h'' : PfOn W0 A2 n2 s := h''.on hbw0
  replace h3 : PkOn W0 A3 n3 p := h3.on hbw0
  clear hBx
  have HW := hide (fun wx => awakeJ_any SA wx)
  have HL := hide (fun (wx : World) (hb : Below W0.heap.size W0 wx) => largeE_any l A0 n0 c0 wx (h.on hb) (by omega))
  unfold Tells at HL
  have HR := hide (fun (wx : World) (hb : Below W0.heap.size W0 wx) => large_any root A1 n1 c1 wx (h'.on hb) (by omega))
  have HJ := hide (fun (wx : World) (hb : Below W0.heap.size W0 wx) => (show Calls Tryz.prog 8 #[.slice A2 n2 c2] wx fun e w' => e = .returned (.bool (largeJ s)) ∧ Below wx.heap.size wx w' from (largeJ_any s A2 n2 c2 wx (h''.on hb) hn'').mono fun _ _ ⟨e1, e2⟩ => ⟨e1, by rw [e2]; exact Below.refl _ _⟩))
  have HP := hide (fun (wx : World) (hb : Below W0.heap.size W0 wx) => (show Calls Tryz.prog 19 #[.slice A3 n3 c3] wx fun e w' => e = .returned (.bool (largeP p)) ∧ Below wx.heap.size wx w' from (largeP_any p A3 n3 c3 wx (h3.on hb) hn3).mono fun _ _ ⟨e1, e2⟩ => ⟨e1, by rw [e2]; exact Below.refl _ _⟩))
  clear SA
  cases g1 : largeE l with
  | true =>
    rw [g1] at HL
    clear h h' h'' h3 hn hn' hn'' hn3 hsk HR HJ HP
    go_enter Tryz.func4, Tryz.ntmps4
    go_upto_region 1 with fail
    try rw [← hW0]
    try rw [← hg0]
    clear hW0 hg0
    go_wp2_with (first
      | (go_at_call 9
         refine (HW.out _).mono ?_
         rintro e w9 ⟨rfl, hb9⟩
         have hbe := hb1.trans (hb9.mono hb1.size))
      | (go_at_call 5
         refine (HL.out _ hb0).mono ?_
         rintro e w1 ⟨rfl, hb1x⟩
         have hb1 := hb0.trans (hb1x.mono hb0.size)
         have q1a := HQ0.out _ hb1
         have q1b := HQ1.out _ hb1
         have q1c := HQ2.out _ hb1))
    go_ret
    exact ⟨rfl, hbw0.trans (hbe.mono hbw0.size)⟩
  | false =>
  rw [g1] at HL
  cases g2 : large root with
  | true =>
    rw [g2] at HR
    clear h h' h'' h3 hn hn' hn'' hn3 hsk HJ HP
    go_enter Tryz.func4, Tryz.ntmps4
    go_upto_region 1 with fail
    try rw [← hW0]
    try rw [← hg0]
    clear hW0 hg0
    go_wp2_with (first
      | (go_at_call 9
         refine (HW.out _).mono ?_
         rintro e w9 ⟨rfl, hb9⟩
         have hbe := hb2.trans (hb9.mono hb2.size))
      | (go_at_call 6
         refine (HR.out _ hb1).mono ?_
         rintro e w2 ⟨rfl, hb2x⟩
         have hb2 := hb1.trans (hb2x.mono hb1.size)
         have q2a := HQ0.out _ hb2
         have q2b := HQ1.out _ hb2
         have q2c := HQ2.out _ hb2)
      | (go_at_call 5
         refine (HL.out _ hb0).mono ?_
         rintro e w1 ⟨rfl, hb1x⟩
         have hb1 := hb0.trans (hb1x.mono hb0.size)
         have q1a := HQ0.out _ hb1
         have q1b := HQ1.out _ hb1
         have q1c := HQ2.out _ hb1))
    go_ret
    exact ⟨rfl, hbw0.trans (hbe.mono hbw0.size)⟩
  | false =>
  rw [g2] at HR
  have hfn := fine_of g2
  have hn40 : n1 ≤ 40 := by rw [← h'.len]; exact hfn.1
  have HK := hide (fun (wx : World) (hb : Below W0.heap.size W0 wx) => refCheckN_any root A1 n1 c1 wx (h'.on hb) (namesJ9 hfn) (by omega))
  cases g3 : okS root with
  | false =>
    rw [g3] at HK
    clear h h' h'' h3 hn hn' hn'' hn3 hsk hfn hn40 HJ HP
    go_enter Tryz.func4, Tryz.ntmps4
    go_upto_region 1 with fail
    try rw [← hW0]
    try rw [← hg0]
    clear hW0 hg0
    go_wp2_with (first
      | (go_at_call 9
         refine (HW.out _).mono ?_
         rintro e w9 ⟨rfl, hb9⟩
         have hbe := hb3.trans (hb9.mono hb3.size))
      | (go_at_call 7
         refine (HK.out _ hb2).mono ?_
         rintro e w3 ⟨rfl, hb3x⟩
         have hb3 := hb2.trans (hb3x.mono hb2.size)
         have q3a := HQ0.out _ hb3
         have q3b := HQ1.out _ hb3
         have q3c := HQ2.out _ hb3)
      | (go_at_call 6
         refine (HR.out _ hb1).mono ?_
         rintro e w2 ⟨rfl, hb2x⟩
         have hb2 := hb1.trans (hb2x.mono hb1.size)
         have q2a := HQ0.out _ hb2
         have q2b := HQ1.out _ hb2
         have q2c := HQ2.out _ hb2)
      | (go_at_call 5
         refine (HL.out _ hb0).mono ?_
         rintro e w1 ⟨rfl, hb1x⟩
         have hb1 := hb0.trans (hb1x.mono hb0.size)
         have q1a := HQ0.out _ hb1
         have q1b := HQ1.out _ hb1
         have q1c := HQ2.out _ hb1))
    go_ret
    exact ⟨rfl, hbw0.trans (hbe.mono hbw0.size)⟩
  | true =>
  rw [g3] at HK
  cases g4 : largeJ s with
  | true =>
    rw [g4] at HJ
    clear h h' h'' h3 hn hn' hn'' hn3 hsk hfn hn40 HP
    go_enter Tryz.func4, Tryz.ntmps4
    go_upto_region 1 with fail
    try rw [← hW0]
    try rw [← hg0]
    clear hW0 hg0
    go_wp2_with (first
      | (go_at_call 9
         refine (HW.out _).mono ?_
         rintro e w9 ⟨rfl, hb9⟩
         have hbe := hb4.trans (hb9.mono hb4.size))
      | (go_at_call 8
         refine (HJ.out _ hb3).mono ?_
         rintro e w4 ⟨rfl, hb4x⟩
         have hb4 := hb3.trans (hb4x.mono hb3.size)
         have q4a := HQ0.out _ hb4
         have q4b := HQ1.out _ hb4
         have q4c := HQ2.out _ hb4)
      | (go_at_call 7
         refine (HK.out _ hb2).mono ?_
         rintro e w3 ⟨rfl, hb3x⟩
         have hb3 := hb2.trans (hb3x.mono hb2.size)
         have q3a := HQ0.out _ hb3
         have q3b := HQ1.out _ hb3
         have q3c := HQ2.out _ hb3)
      | (go_at_call 6
         refine (HR.out _ hb1).mono ?_
         rintro e w2 ⟨rfl, hb2x⟩
         have hb2 := hb1.trans (hb2x.mono hb1.size)
         have q2a := HQ0.out _ hb2
         have q2b := HQ1.out _ hb2
         have q2c := HQ2.out _ hb2)
      | (go_at_call 5
         refine (HL.out _ hb0).mono ?_
         rintro e w1 ⟨rfl, hb1x⟩
         have hb1 := hb0.trans (hb1x.mono hb0.size)
         have q1a := HQ0.out _ hb1
         have q1b := HQ1.out _ hb1
         have q1c := HQ2.out _ hb1))
    go_ret
    exact ⟨rfl, hbw0.trans (hbe.mono hbw0.size)⟩
  | false =>
  rw [g4] at HJ
  obtain ⟨hs120, hsn⟩ := largeJ_no g4
  have hslen := h''.len
  have hn120 : n2 ≤ 120 := by omega
  have HPc := hide (fun (wx : World) (hb : Below W0.heap.size W0 wx) => refCheckPf_any s A2 n2 c2 wx (h''.on hb) hsn (by omega))
  cases g5 : okPf s with
  | false =>
    rw [g5] at HPc
    clear h h' h'' h3 hn hn' hn'' hn3 hsk hfn hn40 HP hs120 hsn hslen hn120
    go_enter Tryz.func4, Tryz.ntmps4
    go_upto_region 1 with fail
    try rw [← hW0]
    try rw [← hg0]
    clear hW0 hg0
    go_wp2_with (first
      | (go_at_call 9
         refine (HW.out _).mono ?_
         rintro e w9 ⟨rfl, hb9⟩
         have hbe := hb5.trans (hb9.mono hb5.size))
      | (go_at_call 14
         refine (HPc.out _ hb4).mono ?_
         rintro e w5 ⟨rfl, hb5x⟩
         have hb5 := hb4.trans (hb5x.mono hb4.size)
         have q5a := HQ0.out _ hb5
         have q5b := HQ1.out _ hb5
         have q5c := HQ2.out _ hb5)
      | (go_at_call 8
         refine (HJ.out _ hb3).mono ?_
         rintro e w4 ⟨rfl, hb4x⟩
         have hb4 := hb3.trans (hb4x.mono hb3.size)
         have q4a := HQ0.out _ hb4
         have q4b := HQ1.out _ hb4
         have q4c := HQ2.out _ hb4)
      | (go_at_call 7
         refine (HK.out _ hb2).mono ?_
         rintro e w3 ⟨rfl, hb3x⟩
         have hb3 := hb2.trans (hb3x.mono hb2.size)
         have q3a := HQ0.out _ hb3
         have q3b := HQ1.out _ hb3
         have q3c := HQ2.out _ hb3)
      | (go_at_call 6
         refine (HR.out _ hb1).mono ?_
         rintro e w2 ⟨rfl, hb2x⟩
         have hb2 := hb1.trans (hb2x.mono hb1.size)
         have q2a := HQ0.out _ hb2
         have q2b := HQ1.out _ hb2
         have q2c := HQ2.out _ hb2)
      | (go_at_call 5
         refine (HL.out _ hb0).mono ?_
         rintro e w1 ⟨rfl, hb1x⟩
         have hb1 := hb0.trans (hb1x.mono hb0.size)
         have q1a := HQ0.out _ hb1
         have q1b := HQ1.out _ hb1
         have q1c := HQ2.out _ hb1))
    go_ret
    exact ⟨rfl, hbw0.trans (hbe.mono hbw0.size)⟩
  | true =>
  rw [g5] at HPc
  cases g6 : largeP p with
  | true =>
    rw [g6] at HP
    clear h h' h'' h3 hn hn' hn'' hn3 hsk hfn hn40 hs120 hsn hslen hn120
    go_enter Tryz.func4, Tryz.ntmps4
    go_upto_region 1 with fail
    try rw [← hW0]
    try rw [← hg0]
    clear hW0 hg0
    go_wp2_with (first
      | (go_at_call 9
         refine (HW.out _).mono ?_
         rintro e w9 ⟨rfl, hb9⟩
         have hbe := hb6.trans (hb9.mono hb6.size))
      | (go_at_call 19
         refine (HP.out _ hb5).mono ?_
         rintro e w6 ⟨rfl, hb6x⟩
         have hb6 := hb5.trans (hb6x.mono hb5.size)
         have q6a := HQ0.out _ hb6
         have q6b := HQ1.out _ hb6
         have q6c := HQ2.out _ hb6)
      | (go_at_call 14
         refine (HPc.out _ hb4).mono ?_
         rintro e w5 ⟨rfl, hb5x⟩
         have hb5 := hb4.trans (hb5x.mono hb4.size)
         have q5a := HQ0.out _ hb5
         have q5b := HQ1.out _ hb5
         have q5c := HQ2.out _ hb5)
      | (go_at_call 8
         refine (HJ.out _ hb3).mono ?_
         rintro e w4 ⟨rfl, hb4x⟩
         have hb4 := hb3.trans (hb4x.mono hb3.size)
         have q4a := HQ0.out _ hb4
         have q4b := HQ1.out _ hb4
         have q4c := HQ2.out _ hb4)
      | (go_at_call 7
         refine (HK.out _ hb2).mono ?_
         rintro e w3 ⟨rfl, hb3x⟩
         have hb3 := hb2.trans (hb3x.mono hb2.size)
         have q3a := HQ0.out _ hb3
         have q3b := HQ1.out _ hb3
         have q3c := HQ2.out _ hb3)
      | (go_at_call 6
         refine (HR.out _ hb1).mono ?_
         rintro e w2 ⟨rfl, hb2x⟩
         have hb2 := hb1.trans (hb2x.mono hb1.size)
         have q2a := HQ0.out _ hb2
         have q2b := HQ1.out _ hb2
         have q2c := HQ2.out _ hb2)
      | (go_at_call 5
         refine (HL.out _ hb0).mono ?_
         rintro e w1 ⟨rfl, hb1x⟩
         have hb1 := hb0.trans (hb1x.mono hb0.size)
         have q1a := HQ0.out _ hb1
         have q1b := HQ1.out _ hb1
         have q1c := HQ2.out _ hb1))
    go_ret
    exact ⟨rfl, hbw0.trans (hbe.mono hbw0.size)⟩
  | false =>
  rw [g6] at HP
  obtain ⟨hp60, hp200⟩ := largeP_no g6
  have hn60 : n3 ≤ 60 := by rw [← h3.len]; exact hp60
  have HC := hide (fun (wx : World) (hb : Below W0.heap.size W0 wx) => refCheckP_any p A3 n3 c3 wx (h3.on hb) (fun q hq => by have := hp200 q hq; omega) (by omega))
  have g7 : okP p = false := by
    unfold skipF at hsk
    rw [g1, g2, g3, g4, g5, g6] at hsk
    simpa using hsk
  rw [g7] at HC
  clear h h' h'' h3 hn hn' hn'' hn3 hsk hfn hn40 hs120 hsn hslen hn120 hp60 hp200 hn60
  go_enter Tryz.func4, Tryz.ntmps4
  go_upto_region 1 with fail
  try rw [← hW0]
  try rw [← hg0]
  clear hW0 hg0
  go_wp2_with (first
    | (go_at_call 9
       refine (HW.out _).mono ?_
       rintro e w9 ⟨rfl, hb9⟩
       have hbe := hb7.trans (hb9.mono hb7.size))
    | (go_at_call 20
       refine (HC.out _ hb6).mono ?_
       rintro e w7 ⟨rfl, hb7x⟩
       have hb7 := hb6.trans (hb7x.mono hb6.size)
       have q7a := HQ0.out _ hb7
       have q7b := HQ1.out _ hb7
       have q7c := HQ2.out _ hb7)
    | (go_at_call 19
       refine (HP.out _ hb5).mono ?_
       rintro e w6 ⟨rfl, hb6x⟩
       have hb6 := hb5.trans (hb6x.mono hb5.size)
       have q6a := HQ0.out _ hb6
       have q6b := HQ1.out _ hb6
       have q6c := HQ2.out _ hb6)
    | (go_at_call 14
       refine (HPc.out _ hb4).mono ?_
       rintro e w5 ⟨rfl, hb5x⟩
       have hb5 := hb4.trans (hb5x.mono hb4.size)
       have q5a := HQ0.out _ hb5
       have q5b := HQ1.out _ hb5
       have q5c := HQ2.out _ hb5)
    | (go_at_call 8
       refine (HJ.out _ hb3).mono ?_
       rintro e w4 ⟨rfl, hb4x⟩
       have hb4 := hb3.trans (hb4x.mono hb3.size)
       have q4a := HQ0.out _ hb4
       have q4b := HQ1.out _ hb4
       have q4c := HQ2.out _ hb4)
    | (go_at_call 7
       refine (HK.out _ hb2).mono ?_
       rintro e w3 ⟨rfl, hb3x⟩
       have hb3 := hb2.trans (hb3x.mono hb2.size)
       have q3a := HQ0.out _ hb3
       have q3b := HQ1.out _ hb3
       have q3c := HQ2.out _ hb3)
    | (go_at_call 6
       refine (HR.out _ hb1).mono ?_
       rintro e w2 ⟨rfl, hb2x⟩
       have hb2 := hb1.trans (hb2x.mono hb1.size)
       have q2a := HQ0.out _ hb2
       have q2b := HQ1.out _ hb2
       have q2c := HQ2.out _ hb2)
    | (go_at_call 5
       refine (HL.out _ hb0).mono ?_
       rintro e w1 ⟨rfl, hb1x⟩
       have hb1 := hb0.trans (hb1x.mono hb0.size)
       have q1a := HQ0.out _ hb1
       have q1b := HQ1.out _ hb1
       have q1c := HQ2.out _ hb1))
  go_ret
  exact ⟨rfl, hbw0.trans (hbe.mono hbw0.size)⟩
set_option maxHeartbeats 16000000 in
set_option maxRecDepth 100000 in
theorem jfacts_main (SA : SpecAcceptJ) (SC : SpecClashesJ) (ST : SpecTrimPf) (l : List En) (root : List Nd) (s : List Sp) (p : List Pk) (A0 A1 A2 A3 : Option Addr) (n0 c0 n1 c1 n2 c2 n3 c3 : Nat) (w : World) (h : EnOn w A0 n0 l) (h' : NdOn w A1 n1 root) (h'' : PfOn w A2 n2 s) (h3 : PkOn w A3 n3 p) (hn : n0 ≤ 9223372036854775807) (hn' : n1 ≤ 9223372036854775807) (hn'' : n2 ≤ 9223372036854775807) (hn3 : n3 ≤ 9223372036854775807) (hc2 : n2 ≤ c2) (hsk : skipF l root s p = false) :
    Calls Tryz.prog 4 #[.slice A0 n0 c0, .agg #[.slice A1 n1 c1, .slice A2 n2 c2, .slice A3 n3 c3]] w fun e w' => e = .returned (.bool true) ∧ Below w.heap.size w w' := by
  unfold skipF at hsk
  simp only [Bool.or_eq_false_iff, Bool.not_eq_false'] at hsk
  obtain ⟨g1, g2, g3, g4, g5, g6, g7⟩ := hsk
  obtain ⟨W0, hW0⟩ : ∃ W0, W0 = w.alloc (.cells #[.slice A1 n1 c1, .slice A2 n2 c2, .slice A3 n3 c3] 48) := ⟨_, rfl⟩
  obtain ⟨g0, hg0⟩ : ∃ g, g = w.heap.size := ⟨_, rfl⟩
  have hbw0 : Below w.heap.size w W0 := by rw [hW0]; exact Proof.alloc_b _ _
  have hBx : Blk W0 g0 48 #[.slice A1 n1 c1, .slice A2 n2 c2, .slice A3 n3 c3] := by rw [hW0, hg0]; exact Blk.new _ _ _
  have hb0 : Below W0.heap.size W0 W0 := Below.refl _ _
  have HQ0 := hide (fun (wx : World) (hx : Below W0.heap.size W0 wx) => (show wx.cell? ⟨g0, 0, none⟩ = some (Value.slice A1 n1 c1) from ((hBx.below hx hBx.lt).cell 0).trans rfl))
  have HQ1 := hide (fun (wx : World) (hx : Below W0.heap.size W0 wx) => (show wx.cell? ⟨g0, 1, none⟩ = some (Value.slice A2 n2 c2) from ((hBx.below hx hBx.lt).cell 1).trans rfl))
  have HQ2 := hide (fun (wx : World) (hx : Below W0.heap.size W0 wx) => (show wx.cell? ⟨g0, 2, none⟩ = some (Value.slice A3 n3 c3) from ((hBx.below hx hBx.lt).cell 2).trans rfl))
  have hgb : g0 < W0.heap.size := hBx.lt
  replace h : EnOn W0 A0 n0 l := h.on hbw0
  replace h' : NdOn W0 A1 n1 root := h'.on hbw0
  replace h'' : PfOn W0 A2 n2 s := h''.on hbw0
  replace h3 : PkOn W0 A3 n3 p := h3.on hbw0
  clear hBx
  have HW := hide (fun wx => awakeJ_any SA wx)
  have HL := hide (fun (wx : World) (hb : Below W0.heap.size W0 wx) => largeE_any l A0 n0 c0 wx (h.on hb) (by omega))
  unfold Tells at HL
  have HR := hide (fun (wx : World) (hb : Below W0.heap.size W0 wx) => large_any root A1 n1 c1 wx (h'.on hb) (by omega))
  have HJ := hide (fun (wx : World) (hb : Below W0.heap.size W0 wx) => (show Calls Tryz.prog 8 #[.slice A2 n2 c2] wx fun e w' => e = .returned (.bool (largeJ s)) ∧ Below wx.heap.size wx w' from (largeJ_any s A2 n2 c2 wx (h''.on hb) hn'').mono fun _ _ ⟨e1, e2⟩ => ⟨e1, by rw [e2]; exact Below.refl _ _⟩))
  have HP := hide (fun (wx : World) (hb : Below W0.heap.size W0 wx) => (show Calls Tryz.prog 19 #[.slice A3 n3 c3] wx fun e w' => e = .returned (.bool (largeP p)) ∧ Below wx.heap.size wx w' from (largeP_any p A3 n3 c3 wx (h3.on hb) hn3).mono fun _ _ ⟨e1, e2⟩ => ⟨e1, by rw [e2]; exact Below.refl _ _⟩))
  rw [g1] at HL
  rw [g2] at HR
  rw [g4] at HJ
  rw [g6] at HP
  have hfn := fine_of g2
  have hn40 : n1 ≤ 40 := by rw [← h'.len]; exact hfn.1
  have HK := hide (fun (wx : World) (hb : Below W0.heap.size W0 wx) => refCheckN_any root A1 n1 c1 wx (h'.on hb) (namesJ9 hfn) (by omega))
  rw [g3] at HK
  obtain ⟨hs120, hsn⟩ := largeJ_no g4
  have hslen := h''.len
  have hn120 : n2 ≤ 120 := by omega
  have HPc := hide (fun (wx : World) (hb : Below W0.heap.size W0 wx) => refCheckPf_any s A2 n2 c2 wx (h''.on hb) hsn (by omega))
  rw [g5] at HPc
  obtain ⟨hp60, hp200⟩ := largeP_no g6
  have hn60 : n3 ≤ 60 := by rw [← h3.len]; exact hp60
  have HC := hide (fun (wx : World) (hb : Below W0.heap.size W0 wx) => refCheckP_any p A3 n3 c3 wx (h3.on hb) (fun q hq => by have := hp200 q hq; omega) (by omega))
  rw [g7] at HC
  obtain ⟨h30, hs⟩ := fineE_of g1
  obtain ⟨hr, hf, hsh, hXl⟩ := take_bounds l l.length h30 hs
  rw [List.take_of_length_le (Nat.le_refl _)] at hr hf hsh hXl
  have hX : OkX (putsX [] l) := okX_puts hf (by omega)
  have h8 : EightX (putsX [] l) := EightX.nil.puts l
  have hlen := h.len
  have HIO := hide (fun (wx : World) (hb : Below W0.heap.size W0 wx) => indexOf_any l A0 n0 c0 wx (h.on hb) (by omega) fun e he => by have := hs e he; omega)
  generalize putsX [] l = X at *
  have HTr := hide (fun (wx : World) (hb : Below W0.heap.size W0 wx) => ST s A2 n2 c2 wx (h''.on hb) hc2 g5)
  unfold TellsPf at HTr
  have hot := okPf_trim g5
  have htn := trim_names hsn
  have htl : (trimT s).length ≤ 120 := Nat.le_trans trim_le hs120
  have hfin := clash_fin (root := root) hX h8 g3 hot htl
  have Hend := hide (fun (hf : (clashC X root (trimT s) []).length = (trimT s).length) (c : List Tm) => facts_hold (c := c) g7 hot hf)
  have HNd := hide (fun (wx : World) (hb : Below W0.heap.size W0 wx) => h'.on hb)
  have HPk := hide (fun (wx : World) (hb : Below W0.heap.size W0 wx) => h3.on hb)
  have hot1 : 1 ≤ (trimT s).length := (okPf_steps hot).2.2
  have HX0 := hide hX
  have H80 := hide h8
  clear h hs hr hf hsh hXl hlen h30 h' h'' h3 hn hn' hn'' hn3 hfn g1 g2 g4 g5 g6 g7 hX h8 hp60 hp200 hsn hs120 hslen hn120 ST SA
  generalize trimT s = t at *
  go_enter Tryz.func4, Tryz.ntmps4
  go_upto_region 1 with fail
  try rw [← hW0]
  try rw [← hg0]
  clear hW0 hg0
  go_upto_region 3 with (first
    | (go_at_call 20
       refine (HC.out _ hb6).mono ?_
       rintro e w7 ⟨rfl, hb7x⟩
       have hb7 := hb6.trans (hb7x.mono hb6.size)
       have q7a := HQ0.out _ hb7
       have q7b := HQ1.out _ hb7
       have q7c := HQ2.out _ hb7)
    | (go_at_call 19
       refine (HP.out _ hb5).mono ?_
       rintro e w6 ⟨rfl, hb6x⟩
       have hb6 := hb5.trans (hb6x.mono hb5.size)
       have q6a := HQ0.out _ hb6
       have q6b := HQ1.out _ hb6
       have q6c := HQ2.out _ hb6)
    | (go_at_call 14
       refine (HPc.out _ hb4).mono ?_
       rintro e w5 ⟨rfl, hb5x⟩
       have hb5 := hb4.trans (hb5x.mono hb4.size)
       have q5a := HQ0.out _ hb5
       have q5b := HQ1.out _ hb5
       have q5c := HQ2.out _ hb5)
    | (go_at_call 8
       refine (HJ.out _ hb3).mono ?_
       rintro e w4 ⟨rfl, hb4x⟩
       have hb4 := hb3.trans (hb4x.mono hb3.size)
       have q4a := HQ0.out _ hb4
       have q4b := HQ1.out _ hb4
       have q4c := HQ2.out _ hb4)
    | (go_at_call 7
       refine (HK.out _ hb2).mono ?_
       rintro e w3 ⟨rfl, hb3x⟩
       have hb3 := hb2.trans (hb3x.mono hb2.size)
       have q3a := HQ0.out _ hb3
       have q3b := HQ1.out _ hb3
       have q3c := HQ2.out _ hb3)
    | (go_at_call 6
       refine (HR.out _ hb1).mono ?_
       rintro e w2 ⟨rfl, hb2x⟩
       have hb2 := hb1.trans (hb2x.mono hb1.size)
       have q2a := HQ0.out _ hb2
       have q2b := HQ1.out _ hb2
       have q2c := HQ2.out _ hb2)
    | (go_at_call 5
       refine (HL.out _ hb0).mono ?_
       rintro e w1 ⟨rfl, hb1x⟩
       have hb1 := hb0.trans (hb1x.mono hb0.size)
       have q1a := HQ0.out _ hb1
       have q1b := HQ1.out _ hb1
       have q1c := HQ2.out _ hb1))
  clear HL HR HK HJ HPc HP HC hb1 hb2 hb3 hb4 hb5 hb6 hb1x hb2x hb3x hb4x hb5x hb6x hb7x q1a q1b q1c q2a q2b q2c q3a q3b q3c q4a q4b q4c q5a q5b q5c q6a q6b q6c
  go_upto_region 4 with (first
    | (go_at_call 10
       refine (HIO.out _ hb7).mono ?_
       rintro e w8 ⟨g, rfl, hI8, hb8x⟩
       have hb8 := hb7.trans (hb8x.mono hb7.size)
       have q8 := HQ1.out _ hb8))
  go_upto_region 5 with (first
    | (go_at_call 21
       refine (HTr.out _ hb8).mono ?_
       rintro e w10 ⟨At, nt, ct, rfl, hct, ht, hb10x⟩
       have hb10 := hb8.trans (hb10x.mono hb8.size)
       have q10 := HQ0.out _ hb10
       have hI10 := hI8.below hb10x))
  have HASK : AskX X (.pointer (some ⟨g, 0, none⟩)) w10 := ⟨⟨_, rfl⟩, tells_idx hI10 HX0.out.fine, HX0.out⟩
  have htlen := PfIn.len ht
  have HCl := hide (SC X root t (.pointer (some ⟨g, 0, none⟩)) A1 At n1 c1 nt ct w10 HASK H80.out (HNd.out _ hb10) hn40 g3 ht hct hot (by omega))
  clear HASK SC HIO HTr HX0 H80 hI8 hI10 hb8x hb10x hb7 hb8 q7a q7b q7c q8 HNd g3 hn40
  go_upto_region 6 with (first
    | (go_at_call 15
       refine HCl.out.mono ?_
       rintro e V ⟨AL, nL, cL, rfl, hcL, hL, hbVx⟩
       have hbV := hb10.trans (hbVx.mono hb10.size)))
  have hgV : g0 < V.heap.size := Nat.lt_of_lt_of_le hgb hbV.size
  have q2 := Clash.cell_in (HQ2.out _ hbV) hgV
  have htV := PfOn.on ht hbVx
  have hPkV := HPk.out _ hbV
  have HQV := hide (fun (wx : World) (hx : Below V.heap.size V wx) => HQ2.out wx (hbV.trans (hx.mono hbV.size)))
  have hLl := FcIn.len hL
  have HCt := hide (fun (wx : World) (hx : Below V.heap.size V wx) => (show Calls Tryz.prog 14 #[.slice At nt ct] wx fun e w' => e = .returned (.bool true) ∧ Below wx.heap.size wx w' from by
    have := refCheckPf_any t At nt ct wx (htV.on hx) htn (by omega)
    rw [hot] at this
    exact this))
  have HHd := hide (fun (d : List Tm) (hd : d ∈ clashC X root t []) (A : Option Addr) (n c : Nat) (wx : World) (hx : Below V.heap.size V wx) (hT : TmOn wx A n d) => refHoldsC_any d p A A3 n c n3 c3 wx hT (hPkV.on hx) (hfin d hd).1.2.2 (by have := (hfin d hd).1.2.1; have := TmIn.len hT; omega) (by omega))
  have up := hide (fun (wx : World) (hx : Below V.heap.size V wx) => (hbw0.trans (hbV.mono hbw0.size)).trans (hx.mono (Nat.le_trans hbw0.size hbV.size)))
  clear HCl q10 HQ0 HQ1 HPk hfin hb10 hbVx ht hbw0 hbV htn hgb hot HQ2
  have e0 : ((nL : Int) != (nL : Int)) = false := bne_self_eq_false _
  generalize clashC X root t [] = L at *
  by_cases hall : nL = nt
  · subst hall
    have hmn : nL - 1 < nL := by omega
    obtain ⟨m, hm⟩ : ∃ m, m = nL - 1 := ⟨_, rfl⟩
    have hmn : m < nL := by omega
    obtain ⟨ad, cc, Ac, nc, kc, rfl, hbl, hx, htc, q3⟩ := FcIn.at_ hL hmn
    have q4 := Clash.cell_in q3 (by rw [block_of_add]; omega)
    have HHo := hide (fun (wx : World) (hb : Below V.heap.size V wx) => HHd.out cc (List.mem_of_getElem? hx) Ac nc kc wx hb (TmOn.on htc hb))
    have wd : IntKind.i64.wrap ((nL : Int) - 1) = (m : Int) := by rw [IntKind.wrap_i64]; omega
    have hm1 : (0 : Int) ≤ (m : Int) := by omega
    have hm2 : (m : Int) < (nL : Int) := by omega
    have HEn := Hend.out (by omega) cc (by rw [← htlen] at hm; exact hm ▸ hx)
    obtain ⟨bh, hbh⟩ : ∃ b, b = holdsC (getP p) cc := ⟨_, rfl⟩
    rw [← hbh] at HHo HEn
    clear hbh hx htc q3 Hend hm hbl
    cases bh with
    | false =>
      clear HEn
      refine wp_region_grow [(60, isC (.bool true)), (83, isC (.bool false))] [60, 83]
        (by kernel_rfl) (by kernel_rfl) rfl (by kernel_rfl) (by kernel_rfl) ⟨isC_stable _, isC_stable _, trivial⟩ ?_
      repeat (first
        | (refine lex_skip rfl ?_; simp only [Act.put, List.setIfInBounds_toArray, List.set_cons_zero, List.set_cons_succ])
        | (refine lex_quiet rfl rfl rfl (fun K hK => ?_); unfold Reg; go_big_quiet_op; refine hK _ ?_; clear hK K)
        | (refine lex_rel rfl rfl (fun w' hb9 hK => ?_) (fun v w' hb9 hv => ?_)
           · clear hK
             unfold grows
             go_simp
             first
               | (go_at_call 14; exact call_isC (HCt.out w' hb9))
               | (go_at_call 22; exact call_isC (HHo.out w' hb9))
           obtain rfl := hv
           simp only [Act.put, List.setIfInBounds_toArray, List.set_cons_zero, List.set_cons_succ]))
      refine lex_nil (fun w9 hC9 _ => ?_)
      have hb9 := reg_iff.1 hC9
      clear hC9
      clear q2 q4
      have hbe := up.out _ hb9
      go_wp2_with (first
        | (go_at_call 9
           refine (HW.out _).mono ?_
           rintro e wE ⟨rfl, hbE⟩))
      go_ret
      exact ⟨rfl, hbe.trans (hbE.mono hbe.size)⟩
    | true =>
      have HEn2 := hide (HEn rfl)
      clear HEn
      refine wp_region_grow [(60, isC (.bool true)), (83, isC (.bool true))] [60, 83]
        (by kernel_rfl) (by kernel_rfl) rfl (by kernel_rfl) (by kernel_rfl) ⟨isC_stable _, isC_stable _, trivial⟩ ?_
      repeat (first
        | (refine lex_skip rfl ?_; simp only [Act.put, List.setIfInBounds_toArray, List.set_cons_zero, List.set_cons_succ])
        | (refine lex_quiet rfl rfl rfl (fun K hK => ?_); unfold Reg; go_big_quiet_op; refine hK _ ?_; clear hK K)
        | (refine lex_rel rfl rfl (fun w' hb9 hK => ?_) (fun v w' hb9 hv => ?_)
           · clear hK
             unfold grows
             go_simp
             first
               | (go_at_call 14; exact call_isC (HCt.out w' hb9))
               | (go_at_call 22; exact call_isC (HHo.out w' hb9))
           obtain rfl := hv
           simp only [Act.put, List.setIfInBounds_toArray, List.set_cons_zero, List.set_cons_succ]))
      refine lex_nil (fun w9 hC9 _ => ?_)
      have hb9 := reg_iff.1 hC9
      clear hC9
      clear q2 q4 HHo HCt
      go_wp2
      go_loopw [9] (fun v wr => ∃ i : Nat, i ≤ nL ∧ v = .int .i64 (i : Int) ∧ Below V.heap.size V wr ∧ Hid (∀ j s d, j < i → t[j]? = some s → s.kind ≠ 4 → L[j]? = some d → holdsC (getP p) d = false)) (fun v _ => nL - (RowKit.intOf v).toNat)
      case atStart => exact ⟨0, by omega, rfl, hb9, hide (fun j s d hj => by omega)⟩
      case round =>
        clear hb9
        obtain ⟨i, hi, rfl, hb, hno⟩ := hrel
        have hbs := hb.size
        by_cases hlt : i < nL
        · obtain ⟨ta, sp, rfl, htb, hts, p0, p1, p2, p3, p4, p5⟩ := PfIn.at_ (PfOn.on htV hb) hlt
          obtain ⟨ad2, c4, A4, n4, k4, had, hbl2, hx2, htc2, q3⟩ := FcIn.at_ (FcOn.on hL hb) hlt
          injection had with had
          subst had
          have HHo := hide (fun (wx : World) (hx : Below wr.heap.size wr wx) => HHd.out c4 (List.mem_of_getElem? hx2) A4 n4 k4 wx (hb.trans (hx.mono hbs)) (TmOn.on htc2 hx))
          have r0 := Clash.cell_in p0 (by rw [block_of_add]; omega)
          have r1 := Clash.cell_in q3 (by rw [block_of_add]; omega)
          have r2 := Clash.cell_in (HQV.out _ hb) (Nat.lt_of_lt_of_le hgV hbs)
          have hi1 : (0 : Int) ≤ (i : Int) := by omega
          have hi2 : (i : Int) < (nL : Int) := by omega
          have Hnx : Hid ((sp.kind ≠ 4 → holdsC (getP p) c4 = false) → Hid (∀ j s d, j < i + 1 → t[j]? = some s → s.kind ≠ 4 → L[j]? = some d → holdsC (getP p) d = false)) := hide (fun hz => hide (fun j s d hj h1 h2 h3 => by
            by_cases e : j < i
            · exact hno.out j s d e h1 h2 h3
            · obtain rfl : j = i := by omega
              rw [hts] at h1
              rw [hx2] at h3
              injection h1 with h1
              injection h3 with h3
              subst h1
              subst h3
              exact hz h2))
          obtain ⟨bo, hbo⟩ : ∃ b, b = holdsC (getP p) c4 := ⟨_, rfl⟩
          rw [← hbo] at HHo Hnx
          obtain ⟨kd, hkd⟩ : ∃ k, k = sp.kind := ⟨_, rfl⟩
          rw [← hkd] at r0 Hnx
          have upw := hide (up.out _ hb)
          clear hno hts hx2 htc2 q3 p0 p1 p2 p3 p4 p5 hbl2 htb HHd HQV hPkV hL htV hbo hkd HEn2
          go_upto_region 11 with fail
          by_cases e4 : kd = 4
          · have e5 : (kd != 4) = false := by rw [e4]; rfl
            have hnx := Hnx.out (fun h => absurd e4 h)
            clear Hnx HHo e4
            refine wp_region_grow [] []
              (by kernel_rfl) (by kernel_rfl) rfl (by kernel_rfl) (by kernel_rfl) trivial ?_
            repeat (first
              | (refine lex_skip rfl ?_; simp only [Act.put, List.setIfInBounds_toArray, List.set_cons_zero, List.set_cons_succ])
              | (refine lex_quiet rfl rfl rfl (fun K hK => ?_); unfold Reg; go_big_quiet_op; refine hK _ ?_; clear hK K))
            refine lex_nil (fun w9 hC9 _ => ?_)
            have hb9 := reg_iff.1 hC9
            clear hC9
            clear r0 r1 r2
            have hb2 := hb.trans (hb9.mono hbs)
            go_wp2
            go_roundw
            case rel => exact ⟨i + 1, by omega, by go_num, hb2, hnx⟩
            case measure => simp [RowKit.intOf]; omega
          · have e5 : (kd != 4) = true := bne_iff_ne.2 e4
            clear e4
            cases bo with
            | true =>
              clear Hnx
              refine wp_region_grow [(106, isC (.bool true))] [106]
                (by kernel_rfl) (by kernel_rfl) rfl (by kernel_rfl) (by kernel_rfl) ⟨isC_stable _, trivial⟩ ?_
              repeat (first
                | (refine lex_skip rfl ?_; simp only [Act.put, List.setIfInBounds_toArray, List.set_cons_zero, List.set_cons_succ])
                | (refine lex_quiet rfl rfl rfl (fun K hK => ?_); unfold Reg; go_big_quiet_op; refine hK _ ?_; clear hK K)
                | (refine lex_rel rfl rfl (fun w' hb9 hK => ?_) (fun v w' hb9 hv => ?_)
                   · clear hK
                     unfold grows
                     go_simp
                     first
                       | (go_at_call 22; exact call_isC (HHo.out w' hb9))
                   obtain rfl := hv
                   simp only [Act.put, List.setIfInBounds_toArray, List.set_cons_zero, List.set_cons_succ]))
              refine lex_nil (fun w9 hC9 _ => ?_)
              have hb9 := reg_iff.1 hC9
              clear hC9
              clear r0 r1 r2
              have hbe := upw.out.trans (hb9.mono upw.out.size)
              go_wp2_with (first
                | (go_at_call 9
                   refine (HW.out _).mono ?_
                   rintro e wE ⟨rfl, hbE⟩))
              go_ret
              exact ⟨rfl, hbe.trans (hbE.mono hbe.size)⟩
            | false =>
              have hnx := Hnx.out (fun _ => rfl)
              clear Hnx
              refine wp_region_grow [(106, isC (.bool false))] [106]
                (by kernel_rfl) (by kernel_rfl) rfl (by kernel_rfl) (by kernel_rfl) ⟨isC_stable _, trivial⟩ ?_
              repeat (first
                | (refine lex_skip rfl ?_; simp only [Act.put, List.setIfInBounds_toArray, List.set_cons_zero, List.set_cons_succ])
                | (refine lex_quiet rfl rfl rfl (fun K hK => ?_); unfold Reg; go_big_quiet_op; refine hK _ ?_; clear hK K)
                | (refine lex_rel rfl rfl (fun w' hb9 hK => ?_) (fun v w' hb9 hv => ?_)
                   · clear hK
                     unfold grows
                     go_simp
                     first
                       | (go_at_call 22; exact call_isC (HHo.out w' hb9))
                   obtain rfl := hv
                   simp only [Act.put, List.setIfInBounds_toArray, List.set_cons_zero, List.set_cons_succ]))
              refine lex_nil (fun w9 hC9 _ => ?_)
              have hb9 := reg_iff.1 hC9
              clear hC9
              clear r0 r1 r2
              have hb2 := hb.trans (hb9.mono hbs)
              go_wp2
              go_roundw
              case rel => exact ⟨i + 1, by omega, by go_num, hb2, hnx⟩
              case measure => simp [RowKit.intOf]; omega
        · exfalso
          exact HEn2.out fun j s d h1 h2 h3 => hno.out j s d (by have := (List.getElem?_eq_some_iff.1 h1).1; omega) h1 h2 h3
  · have e1 : ((nL : Int) != (nt : Int)) = true := bne_iff_ne.2 (by omega)
    clear Hend HHd
    refine wp_region_grow [(60, isC (.bool true))] [60]
      (by kernel_rfl) (by kernel_rfl) rfl (by kernel_rfl) (by kernel_rfl) ⟨isC_stable _, trivial⟩ ?_
    repeat (first
      | (refine lex_skip rfl ?_; simp only [Act.put, List.setIfInBounds_toArray, List.set_cons_zero, List.set_cons_succ])
      | (refine lex_quiet rfl rfl rfl (fun K hK => ?_); unfold Reg; go_big_quiet_op; refine hK _ ?_; clear hK K)
      | (refine lex_rel rfl rfl (fun w' hb9 hK => ?_) (fun v w' hb9 hv => ?_)
         · clear hK
           unfold grows
           go_simp
           first
             | (go_at_call 14; exact call_isC (HCt.out w' hb9))
         obtain rfl := hv
         simp only [Act.put, List.setIfInBounds_toArray, List.set_cons_zero, List.set_cons_succ]))
    refine lex_nil (fun w9 hC9 _ => ?_)
    have hb9 := reg_iff.1 hC9
    clear hC9
    clear q2
    have hbe := up.out _ hb9
    go_wp2_with (first
      | (go_at_call 9
         refine (HW.out _).mono ?_
         rintro e wE ⟨rfl, hbE⟩))
    go_ret
    exact ⟨rfl, hbe.trans (hbE.mono hbe.size)⟩
theorem jfacts_walk (SA : SpecAcceptJ) (SC : SpecClashesJ) (ST : SpecTrimPf) (l : List En) (root : List Nd) (s : List Sp) (p : List Pk) (A0 A1 A2 A3 : Option Addr) (n0 c0 n1 c1 n2 c2 n3 c3 : Nat) (w : World) (h : EnOn w A0 n0 l) (h' : NdOn w A1 n1 root) (h'' : PfOn w A2 n2 s) (h3 : PkOn w A3 n3 p) (hn : n0 ≤ 9223372036854775807) (hn' : n1 ≤ 9223372036854775807) (hn'' : n2 ≤ 9223372036854775807) (hn3 : n3 ≤ 9223372036854775807) (hc2 : n2 ≤ c2) :
    Calls Tryz.prog 4 #[.slice A0 n0 c0, .agg #[.slice A1 n1 c1, .slice A2 n2 c2, .slice A3 n3 c3]] w fun e w' => e = .returned (.bool true) ∧ Below w.heap.size w w' := by
  cases hsk : skipF l root s p with
  | true => exact jfacts_skip SA l root s p A0 A1 A2 A3 n0 c0 n1 c1 n2 c2 n3 c3 w h h' h'' h3 hn hn' hn'' hn3 hsk
  | false => exact jfacts_main SA SC ST l root s p A0 A1 A2 A3 n0 c0 n1 c1 n2 c2 n3 c3 w h h' h'' h3 hn hn' hn'' hn3 hc2 hsk
end Go.Proofs.YtdmejcfnolhplaaGreat.Judge
