/-
  Some texts of this claim, one behind the other: FitGrowsW. What each proves, and its condition, stands at its head.
-/
import Derived.Test.YtjbjdoioallpkaaDoorZ48
import Derived.Test.YtjbjdoioallpkaaDoorZ42
import Derived.Test.YtjbjdoioallpkaaDoorZ25
import Derived.Test.YtjbjdoioallpkaaDoorZ31
import Derived.Test.YtjbjdoioallpkaaDoorZ16
import Derived.Test.YtjbjdoioallpkaaDoorZ15
import Derived.Test.YtjbjdoioallpkaaDoorZ44
/-
  The walk of FitGrows, if the program's Wrong, Solution and Needed tell what they have to. Condition: those three premises; the program's own table holds what its text lays in it.
-/
namespace Go.Proofs.YtjbjdoioallpkaaDoor.Fit
open Go Go.RowKit Go.Lib Go.Sort Go.Proofs.YtjbjdoioallpkaaDoor.Span Go.Proofs.YtjbjdoioallpkaaDoor.Need Go.Proofs.YtjbjdoioallpkaaDoor.Mani Go.Proofs.YtjbjdoioallpkaaDoor.Wire Go.Proofs.YtjbjdoioallpkaaDoor.Depot Go.Proofs.YtjbjdoioallpkaaDoor.Index Go.Proofs.YtjbjdoioallpkaaDoor.Reach Go.Proofs.YtjbjdoioallpkaaDoor.Pick
open Go.Proofs.YtjbjdoioallpkaaDoor.Ver (Units)
set_option linter.unusedVariables false
theorem namesG9 {l : List Nd} (h : Fine l) : Names9 l := fun q hq => by have := h.2 q hq; omega
theorem drop_sol_mem {p : List Pk} {nm : ByteArray} {z : Pk} (h : z ∈ dropP p nm) : z ∈ p := (List.mem_filter.1 h).1
theorem drop_sol_len (p : List Pk) (nm : ByteArray) : (dropP p nm).length ≤ p.length := List.length_filter_le _ _
section
variable (l m : List En) (root : List Nd) (p : List Pk) (A0 A1 A2 A3 : Option Addr) (n0 c0 n1 c1 n2 c2 n3 c3 : Nat) (w : World)
set_option maxHeartbeats 8000000 in
set_option maxRecDepth 100000 in
/-- Where the law looks at its example alone. -/
theorem fgrows_skip (SW : SpecWrong) (SS : SpecSol) (h : EnOn w A0 n0 l) (hm : EnOn w A3 n3 m) (h' : NdOn w A1 n1 root) (h'' : PkOn w A2 n2 p) (hn : n0 ≤ 9223372036854775807) (hn' : n1 ≤ 9223372036854775807) (hn'' : n2 ≤ 9223372036854775807) (hn3 : n3 ≤ 9223372036854775807) (hT : Units w) (hsk : (largeE l || (largeE m || (large root || (!okS root || largeP p)))) = true) :
    Calls Tryd.prog 3 #[.slice A0 n0 c0, .slice A3 n3 c3, .agg #[.slice A1 n1 c1, .slice A2 n2 c2]] w fun e w' => e = .returned (.bool true) ∧ Below w.heap.size w w' := by
  obtain ⟨W0, hW0⟩ : ∃ W0, W0 = w.alloc (.cells #[.slice A1 n1 c1, .slice A2 n2 c2] 26) := ⟨_, rfl⟩
  have hbW0 : Below w.heap.size w W0 := by rw [hW0]; exact alloc_b w _
  have hBc : Blk W0 w.heap.size 26 #[.slice A1 n1 c1, .slice A2 n2 c2] := by rw [hW0]; exact Blk.new w _ _
  have HX := hide (fun wx (hx : Below W0.heap.size W0 wx) => (⟨((hBc.below hx hBc.lt).cell 0).trans rfl, ((hBc.below hx hBc.lt).cell 1).trans rfl⟩ :
    wx.cell? ⟨w.heap.size, 0, none⟩ = some (Value.slice A1 n1 c1) ∧ wx.cell? ⟨w.heap.size, 1, none⟩ = some (Value.slice A2 n2 c2)))
  have HW := hide (fun wx (hx : Below w.heap.size w wx) => awakeF_any SW SS wx (hT.below hx))
  unfold Tells at HW
  have HL := hide (fun (wx : World) (hb : Below W0.heap.size W0 wx) => largeE_any l A0 n0 c0 wx (h.on (hbW0.trans (hb.mono hbW0.size))) (by omega))
  have HM := hide (fun (wx : World) (hb : Below W0.heap.size W0 wx) => largeE_any m A3 n3 c3 wx (hm.on (hbW0.trans (hb.mono hbW0.size))) (by omega))
  unfold Tells at HL HM
  have HR := hide (fun (wx : World) (hb : Below W0.heap.size W0 wx) => large_any root A1 n1 c1 wx (h'.on (hbW0.trans (hb.mono hbW0.size))) (by omega))
  have HP := hide (fun (wx : World) (hb : Below W0.heap.size W0 wx) => largeP_any p A2 n2 c2 wx (h''.on (hbW0.trans (hb.mono hbW0.size))) (by omega))
  clear hT SW SS
  cases g1 : largeE l with
  | true =>
    rw [g1] at HL
    clear h hm h' h'' hn hn' hn'' hn3 hsk HM HR HP
    go_enter Tryd.func3, Tryd.ntmps3
    go_upto_region 1 with fail
    rw [← hW0]
    have hb0 : Below W0.heap.size W0 W0 := Below.refl _ _
    obtain ⟨kr0, kp0⟩ := HX.out _ hb0
    clear hW0 hBc
    go_wp2_with (first
      | (go_at_call_of 4 (Value.slice A0 n0 c0)
         refine (HL.out _ hb0).mono ?_
         rintro e w1 ⟨rfl, hb1x⟩
         have hb1 := hb0.trans (hb1x.mono hb0.size)
         have hk1 := HX.out _ hb1)
      | (go_at_call 8
         refine (HW.out _ (hbW0.trans (hb1.mono hbW0.size))).mono ?_
         rintro e w9 ⟨rfl, hb9⟩
         have hbe := (hbW0.trans (hb1.mono hbW0.size)).trans (hb9.mono (hbW0.trans (hb1.mono hbW0.size)).size)))
    go_ret
    exact ⟨rfl, hbe⟩
  | false =>
    rw [g1] at HL
    cases g2 : largeE m with
    | true =>
      rw [g2] at HM
      clear h hm h' h'' hn hn' hn'' hn3 hsk HR HP
      go_enter Tryd.func3, Tryd.ntmps3
      go_upto_region 1 with fail
      rw [← hW0]
      have hb0 : Below W0.heap.size W0 W0 := Below.refl _ _
      obtain ⟨kr0, kp0⟩ := HX.out _ hb0
      clear hW0 hBc
      go_wp2_with (first
        | (go_at_call_of 4 (Value.slice A3 n3 c3)
           have hdone := hb1
           refine (HM.out _ hb1).mono ?_
           rintro e w2 ⟨rfl, hb2x⟩
           have hb2 := hb1.trans (hb2x.mono hb1.size)
           obtain ⟨kr2, kp2⟩ := HX.out _ hb2)
        | (go_at_call_of 4 (Value.slice A0 n0 c0)
           refine (HL.out _ hb0).mono ?_
           rintro e w1 ⟨rfl, hb1x⟩
           have hb1 := hb0.trans (hb1x.mono hb0.size)
           have hk1 := HX.out _ hb1)
        | (go_at_call 8
           refine (HW.out _ (hbW0.trans (hb2.mono hbW0.size))).mono ?_
           rintro e w9 ⟨rfl, hb9⟩
           have hbe := (hbW0.trans (hb2.mono hbW0.size)).trans (hb9.mono (hbW0.trans (hb2.mono hbW0.size)).size)))
      go_ret
      exact ⟨rfl, hbe⟩
    | false =>
      rw [g2] at HM
      cases g3 : large root with
      | true =>
        rw [g3] at HR
        clear h hm h' h'' hn hn' hn'' hn3 hsk HP
        go_enter Tryd.func3, Tryd.ntmps3
        go_upto_region 1 with fail
        rw [← hW0]
        have hb0 : Below W0.heap.size W0 W0 := Below.refl _ _
        obtain ⟨kr0, kp0⟩ := HX.out _ hb0
        clear hW0 hBc
        go_wp2_with (first
          | (go_at_call_of 4 (Value.slice A3 n3 c3)
             have hdone := hb1
             refine (HM.out _ hb1).mono ?_
             rintro e w2 ⟨rfl, hb2x⟩
             have hb2 := hb1.trans (hb2x.mono hb1.size)
             obtain ⟨kr2, kp2⟩ := HX.out _ hb2)
          | (go_at_call_of 4 (Value.slice A0 n0 c0)
             refine (HL.out _ hb0).mono ?_
             rintro e w1 ⟨rfl, hb1x⟩
             have hb1 := hb0.trans (hb1x.mono hb0.size)
             have hk1 := HX.out _ hb1)
          | (go_at_call 5
             refine (HR.out _ hb2).mono ?_
             rintro e w3 ⟨rfl, hb3x⟩
             have hb3 := hb2.trans (hb3x.mono hb2.size)
             obtain ⟨kr3, kp3⟩ := HX.out _ hb3)
          | (go_at_call 8
             refine (HW.out _ (hbW0.trans (hb3.mono hbW0.size))).mono ?_
             rintro e w9 ⟨rfl, hb9⟩
             have hbe := (hbW0.trans (hb3.mono hbW0.size)).trans (hb9.mono (hbW0.trans (hb3.mono hbW0.size)).size)))
        go_ret
        exact ⟨rfl, hbe⟩
      | false =>
        rw [g3] at HR
        have hfn := fine_of g3
        have hn40 : n1 ≤ 40 := by rw [← h'.len]; exact hfn.1
        have HK := hide (fun (wx : World) (hb : Below W0.heap.size W0 wx) => refCheckN_any root A1 n1 c1 wx (h'.on (hbW0.trans (hb.mono hbW0.size))) (namesG9 hfn) (by omega))
        cases g4 : okS root with
        | false =>
          rw [g4] at HK
          clear h hm h' h'' hn hn' hn'' hn3 hsk HP hfn hn40
          go_enter Tryd.func3, Tryd.ntmps3
          go_upto_region 1 with fail
          rw [← hW0]
          have hb0 : Below W0.heap.size W0 W0 := Below.refl _ _
          obtain ⟨kr0, kp0⟩ := HX.out _ hb0
          clear hW0 hBc
          go_wp2_with (first
            | (go_at_call_of 4 (Value.slice A3 n3 c3)
               have hdone := hb1
               refine (HM.out _ hb1).mono ?_
               rintro e w2 ⟨rfl, hb2x⟩
               have hb2 := hb1.trans (hb2x.mono hb1.size)
               obtain ⟨kr2, kp2⟩ := HX.out _ hb2)
            | (go_at_call_of 4 (Value.slice A0 n0 c0)
               refine (HL.out _ hb0).mono ?_
               rintro e w1 ⟨rfl, hb1x⟩
               have hb1 := hb0.trans (hb1x.mono hb0.size)
               have hk1 := HX.out _ hb1)
            | (go_at_call 5
               refine (HR.out _ hb2).mono ?_
               rintro e w3 ⟨rfl, hb3x⟩
               have hb3 := hb2.trans (hb3x.mono hb2.size)
               obtain ⟨kr3, kp3⟩ := HX.out _ hb3)
            | (go_at_call 6
               refine (HK.out _ hb3).mono ?_
               rintro e w4 ⟨rfl, hb4x⟩
               have hb4 := hb3.trans (hb4x.mono hb3.size)
               obtain ⟨kr4, kp4⟩ := HX.out _ hb4)
            | (go_at_call 8
               refine (HW.out _ (hbW0.trans (hb4.mono hbW0.size))).mono ?_
               rintro e w9 ⟨rfl, hb9⟩
               have hbe := (hbW0.trans (hb4.mono hbW0.size)).trans (hb9.mono (hbW0.trans (hb4.mono hbW0.size)).size)))
          go_ret
          exact ⟨rfl, hbe⟩
        | true =>
          rw [g4] at HK
          have g5 : largeP p = true := by rw [g1, g2, g3, g4] at hsk; simpa using hsk
          rw [g5] at HP
          clear h hm h' h'' hn hn' hn'' hn3 hsk hfn hn40
          go_enter Tryd.func3, Tryd.ntmps3
          go_upto_region 1 with fail
          rw [← hW0]
          have hb0 : Below W0.heap.size W0 W0 := Below.refl _ _
          obtain ⟨kr0, kp0⟩ := HX.out _ hb0
          clear hW0 hBc
          go_wp2_with (first
            | (go_at_call_of 4 (Value.slice A3 n3 c3)
               have hdone := hb1
               refine (HM.out _ hb1).mono ?_
               rintro e w2 ⟨rfl, hb2x⟩
               have hb2 := hb1.trans (hb2x.mono hb1.size)
               obtain ⟨kr2, kp2⟩ := HX.out _ hb2)
            | (go_at_call_of 4 (Value.slice A0 n0 c0)
               refine (HL.out _ hb0).mono ?_
               rintro e w1 ⟨rfl, hb1x⟩
               have hb1 := hb0.trans (hb1x.mono hb0.size)
               have hk1 := HX.out _ hb1)
            | (go_at_call 5
               refine (HR.out _ hb2).mono ?_
               rintro e w3 ⟨rfl, hb3x⟩
               have hb3 := hb2.trans (hb3x.mono hb2.size)
               obtain ⟨kr3, kp3⟩ := HX.out _ hb3)
            | (go_at_call 6
               refine (HK.out _ hb3).mono ?_
               rintro e w4 ⟨rfl, hb4x⟩
               have hb4 := hb3.trans (hb4x.mono hb3.size)
               obtain ⟨kr4, kp4⟩ := HX.out _ hb4)
            | (go_at_call 7
               refine (HP.out _ hb4).mono ?_
               rintro e w4 ⟨rfl, rfl⟩)
            | (go_at_call 8
               refine (HW.out _ (hbW0.trans (hb4.mono hbW0.size))).mono ?_
               rintro e w9 ⟨rfl, hb9⟩
               have hbe := (hbW0.trans (hb4.mono hbW0.size)).trans (hb9.mono (hbW0.trans (hb4.mono hbW0.size)).size)))
          go_ret
          exact ⟨rfl, hbe⟩
set_option maxHeartbeats 16000000 in
set_option maxRecDepth 100000 in
theorem fgrows_main (SW : SpecWrong) (SS : SpecSol) (SN : SpecNeeded) (h : EnOn w A0 n0 l) (hm : EnOn w A3 n3 m) (h' : NdOn w A1 n1 root) (h'' : PkOn w A2 n2 p) (hc : n2 ≤ c2) (hT : Units w) (g1 : largeE l = false) (g2 : largeE m = false) (g3 : large root = false) (g4 : okS root = true) (g5 : largeP p = false) :
    Calls Tryd.prog 3 #[.slice A0 n0 c0, .slice A3 n3 c3, .agg #[.slice A1 n1 c1, .slice A2 n2 c2]] w fun e w' => e = .returned (.bool true) ∧ Below w.heap.size w w' := by
  obtain ⟨h30, hs⟩ := fineE_of g1
  obtain ⟨hm30, hms⟩ := fineE_of g2
  obtain ⟨hp60, hp200⟩ := largeP_no g5
  have hn0 : n0 ≤ 30 := by rw [← h.len]; exact h30
  have hn3 : n3 ≤ 30 := by rw [← hm.len]; exact hm30
  have hn2 : n2 ≤ 60 := by rw [← h''.len]; exact hp60
  have hfn := fine_of g3
  have hn40 : n1 ≤ 40 := by rw [← h'.len]; exact hfn.1
  obtain ⟨W0, hW0⟩ : ∃ W0, W0 = w.alloc (.cells #[.slice A1 n1 c1, .slice A2 n2 c2] 26) := ⟨_, rfl⟩
  have hbW0 : Below w.heap.size w W0 := by rw [hW0]; exact alloc_b w _
  have hBc : Blk W0 w.heap.size 26 #[.slice A1 n1 c1, .slice A2 n2 c2] := by rw [hW0]; exact Blk.new w _ _
  have HX := hide (fun wx (hx : Below W0.heap.size W0 wx) => (⟨((hBc.below hx hBc.lt).cell 0).trans rfl, ((hBc.below hx hBc.lt).cell 1).trans rfl⟩ :
    wx.cell? ⟨w.heap.size, 0, none⟩ = some (Value.slice A1 n1 c1) ∧ wx.cell? ⟨w.heap.size, 1, none⟩ = some (Value.slice A2 n2 c2)))
  have HW := hide (fun wx (hx : Below w.heap.size w wx) => awakeF_any SW SS wx (hT.below hx))
  unfold Tells at HW
  have HL := hide (fun (wx : World) (hb : Below W0.heap.size W0 wx) => largeE_any l A0 n0 c0 wx (h.on (hbW0.trans (hb.mono hbW0.size))) (by omega))
  have HM := hide (fun (wx : World) (hb : Below W0.heap.size W0 wx) => largeE_any m A3 n3 c3 wx (hm.on (hbW0.trans (hb.mono hbW0.size))) (by omega))
  unfold Tells at HL HM
  have HR := hide (fun (wx : World) (hb : Below W0.heap.size W0 wx) => large_any root A1 n1 c1 wx (h'.on (hbW0.trans (hb.mono hbW0.size))) (by omega))
  have HP := hide (fun (wx : World) (hb : Below W0.heap.size W0 wx) => largeP_any p A2 n2 c2 wx (h''.on (hbW0.trans (hb.mono hbW0.size))) (by omega))
  have HK := hide (fun (wx : World) (hb : Below W0.heap.size W0 wx) => refCheckN_any root A1 n1 c1 wx (h'.on (hbW0.trans (hb.mono hbW0.size))) (namesG9 hfn) (by omega))
  have hr9 : ∀ q ∈ root, q.1.size ≤ 100 := fun q hq => (hfn.2 q hq).1
  rw [g1] at HL
  rw [g2] at HM
  rw [g3] at HR
  rw [g4] at HK
  rw [g5] at HP
  obtain ⟨hr, hf, hsh, hXl⟩ := take_bounds l l.length h30 hs
  rw [List.take_of_length_le (Nat.le_refl _)] at hr hf hsh hXl
  have hset : SetX (putsX [] l) := SetX.nil.puts l
  have HIO := hide (fun (wx : World) (hb : Below W0.heap.size W0 wx) => indexOf_any l A0 n0 c0 wx (h.on (hbW0.trans (hb.mono hbW0.size))) (by omega) fun e he => by have := hs e he; omega)
  generalize putsX [] l = X at *
  have HASK := hide (fun (Y : List Kn) (q : List Pk) (pv : Value) (Aq : Option Addr) (nq cq : Nat) (wx : World) (hb : Below w.heap.size w wx) (hTx : IsP pv ∧ TellsX wx pv Y) (hfY : FineX Y) (hsY : SetX Y) (hlY : Y.length ≤ 100) (hq : PkOn wx Aq nq q) (hqc : nq ≤ cq) (hqn : nq ≤ 60) (hq2 : ∀ z ∈ q, z.1.size ≤ 200) =>
    (show AskedF Y root q pv A1 n1 Aq nq cq wx from ⟨hTx, hfY, hsY, hlY, h'.on hb, hn40, g4, hr9, hq, hqc, hqn, hq2, hT.below hb⟩))
  have HSS := hide (fun (Y : List Kn) (q : List Pk) (pv : Value) (Aq : Option Addr) (nq cq : Nat) (wx : World) (ha : AskedF Y root q pv A1 n1 Aq nq cq wx) => SS Y root q pv A1 n1 c1 Aq nq cq wx ha)
  have HSN := hide (fun (pv : Value) (wx : World) (ha : AskedF X root p pv A1 n1 A2 n2 c2 wx) (hok : okP p = true) => SN X root p pv A1 n1 c1 A2 n2 c2 wx ha hok)
  unfold MakesT at HSN
  have hPk := h''
  clear SW SS SN hfn
  cases hsol : solX X root p with
  | false =>
    have HA0 := hide (fun (g B : Nat) (wx : World) (hb : Below w.heap.size w wx) (hI : IdxB wx B g X) => HASK.out X p (.pointer (some ⟨g, 0, none⟩)) A2 n2 c2 wx hb ⟨⟨_, rfl⟩, tells_idx hI hf⟩ hf hset (by omega) (hPk.on hb) hc hn2 hp200)
    have HS0 := hide (fun (pv : Value) (wx : World) (ha : AskedF X root p pv A1 n1 A2 n2 c2 wx) => HSS.out X p pv A2 n2 c2 wx ha)
    rw [hsol] at HS0
    clear h hm h' h'' hPk hsol hs hms hp200 hr9 hr hf hsh hset hT g1 g2 g3 g4 g5 HSN HSS HASK h30 hm30 hp60
    go_enter Tryd.func3, Tryd.ntmps3
    go_upto_region 1 with fail
    rw [← hW0]
    have hb0 : Below W0.heap.size W0 W0 := Below.refl _ _
    obtain ⟨kr0, kp0⟩ := HX.out _ hb0
    clear hW0 hBc
    go_upto_region 3 with (first
      | (go_at_call_of 4 (Value.slice A3 n3 c3)
         have hdone := hb1
         refine (HM.out _ hb1).mono ?_
         rintro e w2 ⟨rfl, hb2x⟩
         have hb2 := hb1.trans (hb2x.mono hb1.size)
         obtain ⟨kr2, kp2⟩ := HX.out _ hb2)
      | (go_at_call_of 4 (Value.slice A0 n0 c0)
         refine (HL.out _ hb0).mono ?_
         rintro e w1 ⟨rfl, hb1x⟩
         have hb1 := hb0.trans (hb1x.mono hb0.size)
         have hk1 := HX.out _ hb1)
      | (go_at_call 5
         refine (HR.out _ hb2).mono ?_
         rintro e w3 ⟨rfl, hb3x⟩
         have hb3 := hb2.trans (hb3x.mono hb2.size)
         obtain ⟨kr3, kp3⟩ := HX.out _ hb3)
      | (go_at_call 6
         refine (HK.out _ hb3).mono ?_
         rintro e w4 ⟨rfl, hb4x⟩
         have hb4 := hb3.trans (hb4x.mono hb3.size)
         obtain ⟨kr4, kp4⟩ := HX.out _ hb4)
      | (go_at_call 7
         refine (HP.out _ hb4).mono ?_
         rintro e w4 ⟨rfl, rfl⟩))
    have hbw4 := hbW0.trans (hb4.mono hbW0.size)
    clear HL HM HR HK HP hb1x hb1 hb2x hb2 hb3x hb3 hb4x hb0 kr0 kp0 kr2 kp2 kr3 kp3 hk1
    go_upto_region 4 with (first
      | (go_at_call 9
         refine (HIO.out _ hb4).mono ?_
         rintro e w5 ⟨g, rfl, hI5, hb5⟩))
    have hb05 := hb4.trans (hb5.mono hb4.size)
    have hbw5 := hbW0.trans (hb05.mono hbW0.size)
    obtain ⟨kr5, kp5⟩ := HX.out _ hb05
    have hA5 := HA0.out _ _ _ hbw5 hI5
    clear kr4 kp4 hb5 HIO hI5 HA0
    go_wp2_with (first
      | (go_at_call 10
         refine (HS0.out _ w5 hA5).mono ?_
         rintro e w6 ⟨rfl, hb6⟩
         have hbw6 := hbw5.trans (hb6.mono hbw5.size))
      | (go_at_call 8
         refine (HW.out _ hbw6).mono ?_
         rintro e w9 ⟨rfl, hb9⟩
         have hbe := hbw6.trans (hb9.mono hbw6.size)))
    go_ret
    exact ⟨rfl, hbe⟩
  | true =>
    have hok := (sol_iff.1 hsol).1
    have hgr := (sol_grows hr m hsol).1
    have hml := hm.len
    have HA0 := hide (fun (g B : Nat) (wx : World) (hb : Below w.heap.size w wx) (hI : IdxB wx B g X) => HASK.out X p (.pointer (some ⟨g, 0, none⟩)) A2 n2 c2 wx hb ⟨⟨_, rfl⟩, tells_idx hI hf⟩ hf hset (by omega) (hPk.on hb) hc hn2 hp200)
    have HS0 := hide (fun (pv : Value) (wx : World) (ha : AskedF X root p pv A1 n1 A2 n2 c2 wx) => HSS.out X p pv A2 n2 c2 wx ha)
    rw [hsol] at HS0
    have HN0 := hide (fun (pv : Value) (wx : World) (ha : AskedF X root p pv A1 n1 A2 n2 c2 wx) => HSN.out pv wx ha hok)
    rw [sol_names hsol] at HN0
    have Hr := hide (fun i => putsX_rises hr (m.take i))
    have Hl := hide (fun i => (show (putsX X (m.take i)).length ≤ 100 by
      have h1 := putsX_len X (m.take i)
      have h2 : (m.take i).length ≤ m.length := by rw [List.length_take]; omega
      omega))
    have hXl2 : (putsX X m).length ≤ 100 := by have h1 := putsX_len X m; omega
    have hfm := hf.puts m
    have hsm := hset.puts m
    have HA1 := hide (fun (g B : Nat) (wx : World) (hb : Below w.heap.size w wx) (hI : IdxB wx B g (putsX X m)) => HASK.out (putsX X m) p (.pointer (some ⟨g, 0, none⟩)) A2 n2 c2 wx hb ⟨⟨_, rfl⟩, tells_idx hI hfm⟩ hfm hsm hXl2 (hPk.on hb) hc hn2 hp200)
    have HS1 := hide (fun (pv : Value) (wx : World) (ha : AskedF (putsX X m) root p pv A1 n1 A2 n2 c2 wx) => HSS.out (putsX X m) p pv A2 n2 c2 wx ha)
    rw [hgr] at HS1
    have HA2 := hide (fun (g B : Nat) (nm : ByteArray) (A8 : Option Addr) (n8 c8 : Nat) (wx : World) (hb : Below w.heap.size w wx) (hI : IdxB wx B g (putsX X m)) (hN : NewP wx 0 A8 n8 c8 (dropP p nm)) => HASK.out (putsX X m) (dropP p nm) (.pointer (some ⟨g, 0, none⟩)) A8 n8 c8 wx hb ⟨⟨_, rfl⟩, tells_idx hI hfm⟩ hfm hsm hXl2 hN.2.2.2 hN.2.1 (by have h1 := hN.1; have h2 := drop_sol_len p nm; omega) (fun z hz => hp200 z (drop_sol_mem hz)))
    have HS2 := hide (fun (q : Pk) (hq : q ∈ p) (pv : Value) (A8 : Option Addr) (n8 c8 : Nat) (wx : World) (ha : AskedF (putsX X m) root (dropP p q.1) pv A1 n1 A8 n8 c8 wx) =>
      (show Calls Tryd.prog 10 #[pv, .slice A1 n1 c1, .slice A8 n8 c8] wx fun e w' => e = .returned (.bool false) ∧ Below wx.heap.size wx w' by
        have hz := HSS.out (putsX X m) (dropP p q.1) pv A8 n8 c8 wx ha
        rw [sol_drop hgr hq] at hz
        exact hz))
    have HD := hide (fun (nm : ByteArray) (wx : World) (hb : Below w.heap.size w wx) => refDropP_any p nm A2 n2 c2 wx (hPk.on hb) (by omega))
    unfold MakesP at HD
    have Hms := hide hms
    have Hlen := hide hml
    have Hm := hide hm
    have HPk := hide hPk
    have Hpl := hide (show p.length = n2 from h''.len)
    clear h hm h' h'' hPk hsol hs hms hp200 hr9 hr hf hsh hset hT g1 g2 g3 g4 g5 HSN HSS HASK h30 hm30 hp60 hok hgr hml hXl2 hfm hsm
    go_enter Tryd.func3, Tryd.ntmps3
    go_upto_region 1 with fail
    rw [← hW0]
    have hb0 : Below W0.heap.size W0 W0 := Below.refl _ _
    obtain ⟨kr0, kp0⟩ := HX.out _ hb0
    clear hW0 hBc
    generalize w.heap.size = gb at HX kr0 kp0 ⊢
    go_upto_region 3 with (first
      | (go_at_call_of 4 (Value.slice A3 n3 c3)
         have hdone := hb1
         refine (HM.out _ hb1).mono ?_
         rintro e w2 ⟨rfl, hb2x⟩
         have hb2 := hb1.trans (hb2x.mono hb1.size)
         obtain ⟨kr2, kp2⟩ := HX.out _ hb2)
      | (go_at_call_of 4 (Value.slice A0 n0 c0)
         refine (HL.out _ hb0).mono ?_
         rintro e w1 ⟨rfl, hb1x⟩
         have hb1 := hb0.trans (hb1x.mono hb0.size)
         have hk1 := HX.out _ hb1)
      | (go_at_call 5
         refine (HR.out _ hb2).mono ?_
         rintro e w3 ⟨rfl, hb3x⟩
         have hb3 := hb2.trans (hb3x.mono hb2.size)
         obtain ⟨kr3, kp3⟩ := HX.out _ hb3)
      | (go_at_call 6
         refine (HK.out _ hb3).mono ?_
         rintro e w4 ⟨rfl, hb4x⟩
         have hb4 := hb3.trans (hb4x.mono hb3.size)
         obtain ⟨kr4, kp4⟩ := HX.out _ hb4)
      | (go_at_call 7
         refine (HP.out _ hb4).mono ?_
         rintro e w4 ⟨rfl, rfl⟩))
    have hbw4 := hbW0.trans (hb4.mono hbW0.size)
    clear HL HM HR HK HP hb1x hb1 hb2x hb2 hb3x hb3 hb4x hb0 kr0 kp0 kr2 kp2 kr3 kp3 hk1
    go_upto_region 4 with (first
      | (go_at_call 9
         refine (HIO.out _ hb4).mono ?_
         rintro e w5 ⟨g, rfl, hI5, hb5⟩))
    have hb05 := hb4.trans (hb5.mono hb4.size)
    have hbw5 := hbW0.trans (hb05.mono hbW0.size)
    obtain ⟨kr5, kp5⟩ := HX.out _ hb05
    have hA5 := HA0.out _ _ _ hbw5 hI5
    have hWB : W0.heap.size ≤ w4.heap.size := hb4.size
    clear kr4 kp4 hb5 HIO HA0 hb4 hbw4
    generalize w4.heap.size = B at *
    go_upto_region 6 with (first
      | (go_at_call 10
         refine (HS0.out _ w5 hA5).mono ?_
         rintro e w6 ⟨rfl, hb6⟩))
    have hb06 := hb05.trans (hb6.mono hb05.size)
    have hA6 := hA5.on hb6
    have hI6 := hI5.below hb6
    obtain ⟨kr6, kp6⟩ := HX.out _ hb06
    clear kr5 kp5 hA5 hI5 hb6 hb05 hbw5 HS0
    go_wp2_with (first
      | (go_at_call 11
         refine (HN0.out _ w6 hA6).mono ?_
         rintro e w7 ⟨A4, n4, c4, rfl, hT7, hb7⟩))
    obtain rfl : n2 = n4 := by rw [← hT7.len, List.length_map]; exact Hpl.out.symm
    have hb07 := hb06.trans (hb7.mono hb06.size)
    have hI7 := hI6.below hb7
    clear kr6 kp6 hA6 hI6 hb7 hb06 HN0
    go_loopw [9] (fun v wr => ∃ i : Nat, i ≤ n3 ∧ v = .int .i64 (i : Int) ∧ IdxB wr B g (putsX X (m.take i)) ∧ TxOn wr A4 n2 (p.map Prod.fst) ∧ Below W0.heap.size W0 wr) (fun v _ => n3 - (RowKit.intOf v).toNat)
    case atStart => exact ⟨0, Nat.zero_le _, rfl, hI7, hT7, hb07⟩
    case round =>
      obtain ⟨i, hi, rfl, hI, hTa, hb⟩ := hrel
      have hbs := hb.size
      clear hI7 hT7 hb07
      by_cases hlt : i < n3
      · obtain ⟨ad, q, A', n', c', rfl, hbl, hx, hss, d1, d2⟩ := PIn.at_ Hm.out hlt
        have hq := Hms.out q (List.mem_of_getElem? hx)
        have hst := putsX_take (l := X) hx
        have hr := Hr.out i
        have hYl := Hl.out i
        obtain ⟨x, bd⟩ := q
        simp only [] at d1 d2 hq hst
        have hrdw : Reads w w.heap.size 1 A' n' (bcs bd) := hss
        have Hrd := hide (fun (wx : World) (hbx : Below W0.heap.size W0 wx) => hrdw.below (hbW0.trans (hbx.mono hbW0.size)))
        have Hc := hide (fun (wx : World) (hby : Below W0.heap.size W0 wx) => (fun hbx : Below w.heap.size w wx => And.intro ((hbx.cell (p := ad.add (i * 2)) (by rw [block_of_add]; exact hbl)).trans d1) ((hbx.cell (p := ⟨(ad.add (i * 2)).block, (ad.add (i * 2)).off + 1, none⟩) (by simp only [block_of_add]; exact hbl)).trans d2)) (hbW0.trans (hby.mono hbW0.size)))
        have hx9 : x.size ≤ 1000000000 := by omega
        have hi1 : (0 : Int) ≤ (i : Int) := by omega
        have hi2 : (i : Int) < (n3 : Int) := by omega
        have Hst := hide hst
        generalize putsX X (m.take i) = Y at *
        have HPt := hide (fun (wx : World) (hI9 : IdxB wx B g Y) (hr9 : Reads wx B 1 A' n' (bcs bd)) => putX_any x bd A' n' c' hI9 hr (by omega) hr9 hx9)
        have hde := hI.below (drew_b wr)
        have hrdd := (Hrd.out wr.drew hb.drew).more (Nat.le_trans hbW0.size hWB)
        have hcc := Hc.out wr.drew hb.drew
        have hTd := hTa.on (drew_b wr)
        generalize errX Y x bd = ec at *
        generalize putX Y x bd = Y2 at *
        clear hr hss hx d1 d2 hst hx9 hq hrdw Hms Hr Hl HX Hlen Hm HPk Hpl HA1 HS1 HA2 HS2 HD HW hI hTa hYl
        go_upto_region 10 with fail
        go_region_held3 (fun w' => w'.cell? (ad.add (i * 2)) = some (.string x) ∧ w'.cell? ⟨(ad.add (i * 2)).block, (ad.add (i * 2)).off + 1, none⟩ = some (.slice A' n' c')) (first | exact Hc.out w9 hbk9 | exact hcc | go_keep)
          (first
            | (go_at_call 12
               refine (HPt.out _ hde hrdd).mono ?_
               rintro e w9 ⟨rfl, hI9, hb9, hT9⟩
               have hbk9 : Below W0.heap.size W0 w9 := hb.drew.trans (hb9.mono hWB)
               have hTa9 := hT9 _ _ _ hTd))
        go_wp2
        go_roundw
        case rel => exact ⟨i + 1, by omega, by go_num, by rw [Hst.out]; exact hI9, hTa9, hbk9⟩
        case measure => simp [RowKit.intOf]; omega
      · have hi2 : i = n3 := by omega
        rw [List.take_of_length_le (by rw [Hlen.out]; omega)] at hI
        have hbw := hbW0.trans (hb.mono hbW0.size)
        have hA8 := HA1.out _ _ _ hbw hI
        obtain ⟨kr8, kp8⟩ := HX.out _ hb
        clear Hms Hr Hl Hlen Hm HA1
        subst hi2
        generalize putsX X m = Z at *
        go_upto_region 13 with (first
          | (go_at_call 10
             refine (HS1.out _ wr hA8).mono ?_
             rintro e V ⟨rfl, hbV⟩
             obtain ⟨krV, kpV⟩ := HX.out V (hb.trans (hbV.mono hbs))
             have hnn : ((n2 : Int) != (n2 : Int)) = false := bne_self_eq_false _))
        have hbV0 := hb.trans (hbV.mono hbs)
        have hIV := hI.below hbV
        have hTV := hTa.on hbV
        clear kr8 kp8 hA8 hI hTa hb hbs hbw hbV HS1 hnn krV kpV
        go_wp2
        go_loopw [10] (fun v wr => ∃ j : Nat, j ≤ n2 ∧ v = .int .i64 (j : Int) ∧ Below V.heap.size V wr) (fun v _ => n2 - (RowKit.intOf v).toNat)
        case atStart => exact ⟨0, by omega, rfl, Below.refl _ _⟩
        case round =>
          obtain ⟨j, hj, rfl, hbj⟩ := hrel
          have hbjs := hbj.size
          have hb0j := hbV0.trans (hbj.mono hbV0.size)
          have hbwj := hbW0.trans (hb0j.mono hbW0.size)
          obtain ⟨krj, kpj⟩ := HX.out _ hb0j
          by_cases hlt2 : j < n2
          · obtain ⟨ad, y, rfl, had, hy, hcy⟩ := tcs_at hTV hlt2
            obtain ⟨ad', s, rfl, had', hs, d1, d2⟩ := PkIn.at_ HPk.out hlt2
            obtain rfl : s.1 = y := by rw [List.getElem?_map, hs] at hy; simpa using hy
            have hmem := hide (List.mem_of_getElem? hs)
            have hi1 : (0 : Int) ≤ (j : Int) := by omega
            have hi2 : (j : Int) < (n2 : Int) := by omega
            have hdW : Below wr.heap.size wr wr.drew := drew_b wr
            have He := hide (fun (wx : World) (hb : Below wr.heap.size wr wx) => (fun (h0 : Below W0.heap.size W0 wx) => (fun (h1 : Below w.heap.size w wx) =>
              (⟨((hbj.trans (hb.mono hbjs)).cell (p := ad.add j) (by rw [block_of_add]; exact had)).trans hcy, (HX.out wx h0).1, (HX.out wx h0).2, (h1.cell (p := ad'.add (j * 2)) (by rw [block_of_add]; exact had')).trans d1⟩ :
                wx.cell? (ad.add j) = some (.string s.1) ∧ wx.cell? ⟨gb, 0, none⟩ = some (.slice A1 n1 c1) ∧ wx.cell? ⟨gb, 1, none⟩ = some (.slice (some ad') n2 c2) ∧ wx.cell? (ad'.add (j * 2)) = some (.string s.1))) (hbW0.trans (h0.mono hbW0.size))) (hb0j.trans (hb.mono hb0j.size)))
            have HD1 := hide (fun (wx : World) (hb : Below wr.heap.size wr wx) => HD.out s.1 wx (hbwj.trans (hb.mono hbwj.size)))
            have HS3 := hide (fun (A8 : Option Addr) (n8 c8 : Nat) (wx : World) (hb : Below wr.heap.size wr wx) (hN : NewP wx 0 A8 n8 c8 (dropP p s.1)) => HS2.out s hmem.out (.pointer (some ⟨g, 0, none⟩)) A8 n8 c8 wx (HA2.out g B s.1 A8 n8 c8 wx (hbwj.trans (hb.mono hbwj.size)) ((hIV.below hbj).below hb) hN))
            have e0 := He.out _ hdW
            obtain ⟨x, v⟩ := s
            simp only [] at He HD1 HS3 e0
            have hyy : (x.toList == x.toList) = true := beq_self_eq_true _
            clear hy hcy hs d1 d2 HA2 HS2 HD HW HX HPk Hpl hTV hIV hmem
            go_upto_region 16 with fail
            clear krj kpj
            go_region_held3 (fun w' => w'.cell? (ad.add j) = some (.string x) ∧ w'.cell? ⟨gb, 0, none⟩ = some (.slice A1 n1 c1) ∧ w'.cell? ⟨gb, 1, none⟩ = some (.slice (some ad') n2 c2) ∧ w'.cell? (ad'.add (j * 2)) = some (.string x)) (first | exact He.out w9 hbk9 | exact He.out w8 hbk8 | exact e0 | go_keep)
              (first
                | (go_at_call 13
                   refine (HD1.out _ hdW).mono ?_
                   rintro e w8 ⟨A8, n8, c8, rfl, hN8, hb8⟩
                   have hbk8 : Below wr.heap.size wr w8 := hdW.trans hb8)
                | (go_at_call 10
                   refine (HS3.out _ _ _ w8 hbk8 hN8).mono ?_
                   rintro e w9 ⟨rfl, hb9⟩
                   have hbk9 : Below wr.heap.size wr w9 := hbk8.trans (hb9.mono hbk8.size)))
            go_wp2
            go_roundw
            case rel => exact ⟨j + 1, by omega, by go_num, hbj.trans (hbk9.mono hbjs)⟩
            case measure => simp [RowKit.intOf]; omega
          · have hj2 : j = n2 := by omega
            clear hTV hIV HA2 HS2 HD HX HPk
            subst hj2
            go_wp2_with (first
              | (go_at_call 8
                 refine (HW.out _ hbwj).mono ?_
                 rintro e w9 ⟨rfl, hb9⟩
                 have hbz := hbwj.trans (hb9.mono hbwj.size)))
            go_ret
            exact ⟨rfl, hbz⟩
theorem fgrows_walk (SW : SpecWrong) (SS : SpecSol) (SN : SpecNeeded) (h : EnOn w A0 n0 l) (hm : EnOn w A3 n3 m) (h' : NdOn w A1 n1 root) (h'' : PkOn w A2 n2 p) (hn : n0 ≤ 9223372036854775807) (hn' : n1 ≤ 9223372036854775807) (hn'' : n2 ≤ 9223372036854775807) (hn3 : n3 ≤ 9223372036854775807) (hc : n2 ≤ c2) (hT : Units w) :
    Calls Tryd.prog 3 #[.slice A0 n0 c0, .slice A3 n3 c3, .agg #[.slice A1 n1 c1, .slice A2 n2 c2]] w fun e w' => e = .returned (.bool true) ∧ Below w.heap.size w w' := by
  cases hsk : (largeE l || (largeE m || (large root || (!okS root || largeP p)))) with
  | true => exact fgrows_skip l m root p A0 A1 A2 A3 n0 c0 n1 c1 n2 c2 n3 c3 w SW SS h hm h' h'' hn hn' hn'' hn3 hT hsk
  | false =>
    simp only [Bool.or_eq_false_iff, Bool.not_eq_false'] at hsk
    exact fgrows_main l m root p A0 A1 A2 A3 n0 c0 n1 c1 n2 c2 n3 c3 w SW SS SN h hm h' h'' hc hT hsk.1 hsk.2.1 hsk.2.2.1 hsk.2.2.2.1 hsk.2.2.2.2
end
end Go.Proofs.YtjbjdoioallpkaaDoor.Fit
