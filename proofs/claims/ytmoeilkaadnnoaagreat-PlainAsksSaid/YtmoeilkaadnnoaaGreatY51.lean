/-
  Some texts of this claim, one behind the other: PlainAsksW. What each proves, and its condition, stands at its head.
-/
import Derived.Test.YtmoeilkaadnnoaaGreatY49
import Derived.Test.YtmoeilkaadnnoaaGreatY50
import Derived.Deep.RegionHeld3
import Derived.Test.YtmoeilkaadnnoaaGreatY36
import Derived.Test.YtmoeilkaadnnoaaGreatY21
import Derived.Test.YtmoeilkaadnnoaaGreatY28
import Derived.Test.YtmoeilkaadnnoaaGreatY19
import Derived.Test.YtmoeilkaadnnoaaGreatY18
import Derived.Test.YtmoeilkaadnnoaaGreatY20
import Derived.Test.YtmoeilkaadnnoaaGreatY17
/-
  The walk of PlainAsks, if the program's Asked, Next and Solve tell what they have to. Condition: those three premises.
-/
namespace Go.Proofs.YtmoeilkaadnnoaaGreat.Plain
open Go Go.RowKit Go.Lib Go.Sort Go.Proofs.YtmoeilkaadnnoaaGreat.Span Go.Proofs.YtmoeilkaadnnoaaGreat.Need Go.Proofs.YtmoeilkaadnnoaaGreat.Mani Go.Proofs.YtmoeilkaadnnoaaGreat.Wire Go.Proofs.YtmoeilkaadnnoaaGreat.Depot Go.Proofs.YtmoeilkaadnnoaaGreat.Index Go.Proofs.YtmoeilkaadnnoaaGreat.Reach Go.Proofs.YtmoeilkaadnnoaaGreat.Pick Go.Proofs.YtmoeilkaadnnoaaGreat.Fit
set_option linter.unusedVariables false
theorem namesQ9 {l : List Nd} (h : Fine l) : Names9 l := fun q hq => by have := h.2 q hq; omega
section
variable (l : List En) (root : List Nd) (p : List Pk) (nm : ByteArray) (A0 A1 A2 : Option Addr) (n0 c0 n1 c1 n2 c2 : Nat) (w : World)
set_option maxHeartbeats 8000000 in
set_option maxRecDepth 100000 in
theorem pasks_skip (SV : SpecSolve) (h : EnOn w A0 n0 l) (h' : NdOn w A1 n1 root) (h'' : PkOn w A2 n2 p) (hn : n0 ≤ 9223372036854775807) (hn' : n1 ≤ 9223372036854775807) (hn'' : n2 ≤ 9223372036854775807) (hnm : nm.size ≤ 9223372036854775807) (hsk : (largeE l || (large root || (!okS root || (largeP p || (!okP p || decide (200 < nm.size)))))) = true) :
    Calls Tryz.prog 4 #[.slice A0 n0 c0, .agg #[.slice A1 n1 c1, .slice A2 n2 c2], .string nm] w fun e w' => e = .returned (.bool true) ∧ Below w.heap.size w w' := by
  obtain ⟨W0, hW0⟩ : ∃ W0, W0 = w.alloc (.cells #[.slice A1 n1 c1, .slice A2 n2 c2] 40) := ⟨_, rfl⟩
  have hbW0 : Below w.heap.size w W0 := by rw [hW0]; exact alloc_b w _
  have hBc : Blk W0 w.heap.size 40 #[.slice A1 n1 c1, .slice A2 n2 c2] := by rw [hW0]; exact Blk.new w _ _
  have HX := hide (fun wx (hx : Below W0.heap.size W0 wx) => (⟨((hBc.below hx hBc.lt).cell 0).trans rfl, ((hBc.below hx hBc.lt).cell 1).trans rfl⟩ :
    wx.cell? ⟨w.heap.size, 0, none⟩ = some (Value.slice A1 n1 c1) ∧ wx.cell? ⟨w.heap.size, 1, none⟩ = some (Value.slice A2 n2 c2)))
  have HW := hide (fun wx (hx : Below w.heap.size w wx) => awakeP_any SV wx)
  unfold Tells at HW
  have HL := hide (fun (wx : World) (hb : Below W0.heap.size W0 wx) => largeE_any l A0 n0 c0 wx (h.on (hbW0.trans (hb.mono hbW0.size))) (by omega))
  unfold Tells at HL
  have HR := hide (fun (wx : World) (hb : Below W0.heap.size W0 wx) => large_any root A1 n1 c1 wx (h'.on (hbW0.trans (hb.mono hbW0.size))) (by omega))
  have HP := hide (fun (wx : World) (hb : Below W0.heap.size W0 wx) => largeP_any p A2 n2 c2 wx (h''.on (hbW0.trans (hb.mono hbW0.size))) (by omega))
  clear SV
  cases g1 : largeE l with
  | true =>
    rw [g1] at HL
    clear h h' h'' hn hn' hn'' hsk HR HP
    go_enter Tryz.func4, Tryz.ntmps4
    go_upto_region 1 with fail
    rw [← hW0]
    have hb0 : Below W0.heap.size W0 W0 := Below.refl _ _
    obtain ⟨kr0, kp0⟩ := HX.out _ hb0
    clear hW0 hBc
    go_wp2_with (first
      | (go_at_call 5
         refine (HL.out _ hb0).mono ?_
         rintro e w1 ⟨rfl, hb1x⟩
         have hb1 := hb0.trans (hb1x.mono hb0.size)
         obtain ⟨kr1, kp1⟩ := HX.out _ hb1)
      | (go_at_call 8
         refine (HW.out _ (hbW0.trans (hb1.mono hbW0.size))).mono ?_
         rintro e w9 ⟨rfl, hb9⟩
         have hbe := (hbW0.trans (hb1.mono hbW0.size)).trans (hb9.mono (hbW0.trans (hb1.mono hbW0.size)).size)))
    go_ret
    exact ⟨rfl, hbe⟩
  | false =>
    rw [g1] at HL hsk
    cases g2 : large root with
    | true =>
      rw [g2] at HR
      clear h h' h'' hn hn' hn'' hsk HP
      go_enter Tryz.func4, Tryz.ntmps4
      go_upto_region 1 with fail
      rw [← hW0]
      have hb0 : Below W0.heap.size W0 W0 := Below.refl _ _
      obtain ⟨kr0, kp0⟩ := HX.out _ hb0
      clear hW0 hBc
      go_wp2_with (first
        | (go_at_call 5
           refine (HL.out _ hb0).mono ?_
           rintro e w1 ⟨rfl, hb1x⟩
           have hb1 := hb0.trans (hb1x.mono hb0.size)
           obtain ⟨kr1, kp1⟩ := HX.out _ hb1)
        | (go_at_call 6
           refine (HR.out _ hb1).mono ?_
           rintro e w3 ⟨rfl, hb3x⟩
           have hb3 := hb1.trans (hb3x.mono hb1.size)
           obtain ⟨kr3, kp3⟩ := HX.out _ hb3)
        | (go_at_call 8
           refine (HW.out _ (hbW0.trans (hb3.mono hbW0.size))).mono ?_
           rintro e w9 ⟨rfl, hb9⟩
           have hbe := (hbW0.trans (hb3.mono hbW0.size)).trans (hb9.mono (hbW0.trans (hb3.mono hbW0.size)).size)))
      go_ret
      exact ⟨rfl, hbe⟩
    | false =>
      rw [g2] at HR hsk
      have hfn := fine_of g2
      have hn40 : n1 ≤ 40 := by rw [← h'.len]; exact hfn.1
      have HK := hide (fun (wx : World) (hb : Below W0.heap.size W0 wx) => refCheckN_any root A1 n1 c1 wx (h'.on (hbW0.trans (hb.mono hbW0.size))) (namesQ9 hfn) (by omega))
      cases g3 : okS root with
      | false =>
        rw [g3] at HK
        clear h h' h'' hn hn' hn'' hsk HP hfn hn40
        go_enter Tryz.func4, Tryz.ntmps4
        go_upto_region 1 with fail
        rw [← hW0]
        have hb0 : Below W0.heap.size W0 W0 := Below.refl _ _
        obtain ⟨kr0, kp0⟩ := HX.out _ hb0
        clear hW0 hBc
        go_wp2_with (first
          | (go_at_call 5
             refine (HL.out _ hb0).mono ?_
             rintro e w1 ⟨rfl, hb1x⟩
             have hb1 := hb0.trans (hb1x.mono hb0.size)
             obtain ⟨kr1, kp1⟩ := HX.out _ hb1)
          | (go_at_call 6
             refine (HR.out _ hb1).mono ?_
             rintro e w3 ⟨rfl, hb3x⟩
             have hb3 := hb1.trans (hb3x.mono hb1.size)
             obtain ⟨kr3, kp3⟩ := HX.out _ hb3)
          | (go_at_call 7
             refine (HK.out _ hb3).mono ?_
             rintro e w4 ⟨rfl, hb4x⟩
             have hb4 := hb3.trans (hb4x.mono hb3.size)
             obtain ⟨kr4, kp4⟩ := HX.out _ hb4)
          | (go_at_call 8
             refine (HW.out _ (hbW0.trans (hb4.mono hbW0.size))).mono ?_
             rintro e w9 ⟨rfl, hb9⟩
             have hbe := (hbW0.trans (hb4.mono hbW0.size)).trans (hb9.mono (hbW0.trans (hb4.mono hbW0.size)).size)))
        go_ret
        exact ⟨rfl, hbe⟩
      | true =>
        rw [g3] at HK hsk
        cases g4 : largeP p with
        | true =>
          rw [g4] at HP
          clear h h' h'' hn hn' hn'' hsk hfn hn40
          go_enter Tryz.func4, Tryz.ntmps4
          go_upto_region 1 with fail
          rw [← hW0]
          have hb0 : Below W0.heap.size W0 W0 := Below.refl _ _
          obtain ⟨kr0, kp0⟩ := HX.out _ hb0
          clear hW0 hBc
          go_wp2_with (first
            | (go_at_call 5
               refine (HL.out _ hb0).mono ?_
               rintro e w1 ⟨rfl, hb1x⟩
               have hb1 := hb0.trans (hb1x.mono hb0.size)
               obtain ⟨kr1, kp1⟩ := HX.out _ hb1)
            | (go_at_call 6
               refine (HR.out _ hb1).mono ?_
               rintro e w3 ⟨rfl, hb3x⟩
               have hb3 := hb1.trans (hb3x.mono hb1.size)
               obtain ⟨kr3, kp3⟩ := HX.out _ hb3)
            | (go_at_call 7
               refine (HK.out _ hb3).mono ?_
               rintro e w4 ⟨rfl, hb4x⟩
               have hb4 := hb3.trans (hb4x.mono hb3.size)
               obtain ⟨kr4, kp4⟩ := HX.out _ hb4)
            | (go_at_call 14
               refine (HP.out _ hb4).mono ?_
               rintro e w4 ⟨rfl, rfl⟩)
            | (go_at_call 8
               refine (HW.out _ (hbW0.trans (hb4.mono hbW0.size))).mono ?_
               rintro e w9 ⟨rfl, hb9⟩
               have hbe := (hbW0.trans (hb4.mono hbW0.size)).trans (hb9.mono (hbW0.trans (hb4.mono hbW0.size)).size)))
          go_ret
          exact ⟨rfl, hbe⟩
        | false =>
          rw [g4] at HP hsk
          obtain ⟨hp60, hp200⟩ := largeP_no g4
          have hn2 : n2 ≤ 60 := by rw [← h''.len]; exact hp60
          have HC := hide (fun (wx : World) (hb : Below W0.heap.size W0 wx) => refCheckP_any p A2 n2 c2 wx (h''.on (hbW0.trans (hb.mono hbW0.size))) (fun q hq => by have := hp200 q hq; omega) (by omega))
          cases g5 : okP p with
          | false =>
            rw [g5] at HC
            clear h h' h'' hn hn' hn'' hsk hfn hn40 hp60 hp200 hn2
            go_enter Tryz.func4, Tryz.ntmps4
            go_upto_region 1 with fail
            rw [← hW0]
            have hb0 : Below W0.heap.size W0 W0 := Below.refl _ _
            obtain ⟨kr0, kp0⟩ := HX.out _ hb0
            clear hW0 hBc
            go_wp2_with (first
              | (go_at_call 5
                 refine (HL.out _ hb0).mono ?_
                 rintro e w1 ⟨rfl, hb1x⟩
                 have hb1 := hb0.trans (hb1x.mono hb0.size)
                 obtain ⟨kr1, kp1⟩ := HX.out _ hb1)
              | (go_at_call 6
                 refine (HR.out _ hb1).mono ?_
                 rintro e w3 ⟨rfl, hb3x⟩
                 have hb3 := hb1.trans (hb3x.mono hb1.size)
                 obtain ⟨kr3, kp3⟩ := HX.out _ hb3)
              | (go_at_call 7
                 refine (HK.out _ hb3).mono ?_
                 rintro e w4 ⟨rfl, hb4x⟩
                 have hb4 := hb3.trans (hb4x.mono hb3.size)
                 obtain ⟨kr4, kp4⟩ := HX.out _ hb4)
              | (go_at_call 14
                 refine (HP.out _ hb4).mono ?_
                 rintro e w4 ⟨rfl, rfl⟩)
              | (go_at_call 15
                 refine (HC.out _ hb4).mono ?_
                 rintro e w5 ⟨rfl, hb5x⟩
                 have hb5 := hb4.trans (hb5x.mono hb4.size)
                 obtain ⟨kr5, kp5⟩ := HX.out _ hb5)
              | (go_at_call 8
                 refine (HW.out _ (hbW0.trans (hb5.mono hbW0.size))).mono ?_
                 rintro e w9 ⟨rfl, hb9⟩
                 have hbe := (hbW0.trans (hb5.mono hbW0.size)).trans (hb9.mono (hbW0.trans (hb5.mono hbW0.size)).size)))
            go_ret
            exact ⟨rfl, hbe⟩
          | true =>
            rw [g5] at HC hsk
            have g6 : 200 < nm.size := by simpa using hsk
            have g7 : (200 : Int) < (nm.size : Int) := by omega
            clear h h' h'' hn hn' hn'' hsk hfn hn40 hp60 hp200 hn2
            go_enter Tryz.func4, Tryz.ntmps4
            go_upto_region 1 with fail
            rw [← hW0]
            have hb0 : Below W0.heap.size W0 W0 := Below.refl _ _
            obtain ⟨kr0, kp0⟩ := HX.out _ hb0
            clear hW0 hBc
            go_wp2_with (first
              | (go_at_call 5
                 refine (HL.out _ hb0).mono ?_
                 rintro e w1 ⟨rfl, hb1x⟩
                 have hb1 := hb0.trans (hb1x.mono hb0.size)
                 obtain ⟨kr1, kp1⟩ := HX.out _ hb1)
              | (go_at_call 6
                 refine (HR.out _ hb1).mono ?_
                 rintro e w3 ⟨rfl, hb3x⟩
                 have hb3 := hb1.trans (hb3x.mono hb1.size)
                 obtain ⟨kr3, kp3⟩ := HX.out _ hb3)
              | (go_at_call 7
                 refine (HK.out _ hb3).mono ?_
                 rintro e w4 ⟨rfl, hb4x⟩
                 have hb4 := hb3.trans (hb4x.mono hb3.size)
                 obtain ⟨kr4, kp4⟩ := HX.out _ hb4)
              | (go_at_call 14
                 refine (HP.out _ hb4).mono ?_
                 rintro e w4 ⟨rfl, rfl⟩)
              | (go_at_call 15
                 refine (HC.out _ hb4).mono ?_
                 rintro e w5 ⟨rfl, hb5x⟩
                 have hb5 := hb4.trans (hb5x.mono hb4.size)
                 obtain ⟨kr5, kp5⟩ := HX.out _ hb5)
              | (go_at_call 8
                 refine (HW.out _ (hbW0.trans (hb5.mono hbW0.size))).mono ?_
                 rintro e w9 ⟨rfl, hb9⟩
                 have hbe := (hbW0.trans (hb5.mono hbW0.size)).trans (hb9.mono (hbW0.trans (hb5.mono hbW0.size)).size)))
            go_ret
            exact ⟨rfl, hbe⟩
set_option maxHeartbeats 16000000 in
set_option maxRecDepth 100000 in
theorem pasks_main (SV : SpecSolve) (SK : SpecAsked) (SX : SpecNext) (h : EnOn w A0 n0 l) (h' : NdOn w A1 n1 root) (h'' : PkOn w A2 n2 p) (hc : n2 ≤ c2) (g1 : largeE l = false) (g2 : large root = false) (g3 : okS root = true) (g4 : largeP p = false) (g5 : okP p = true) (g6 : ¬ 200 < nm.size) :
    Calls Tryz.prog 4 #[.slice A0 n0 c0, .agg #[.slice A1 n1 c1, .slice A2 n2 c2], .string nm] w fun e w' => e = .returned (.bool true) ∧ Below w.heap.size w w' := by
  obtain ⟨h30, hs⟩ := fineE_of g1
  have hn0 : n0 ≤ 30 := by rw [← h.len]; exact h30
  have hfn := fine_of g2
  have hn40 : n1 ≤ 40 := by rw [← h'.len]; exact hfn.1
  obtain ⟨hp60, hp200⟩ := largeP_no g4
  have hn2 : n2 ≤ 60 := by rw [← h''.len]; exact hp60
  obtain ⟨W0, hW0⟩ : ∃ W0, W0 = w.alloc (.cells #[.slice A1 n1 c1, .slice A2 n2 c2] 40) := ⟨_, rfl⟩
  have hbW0 : Below w.heap.size w W0 := by rw [hW0]; exact alloc_b w _
  have hBc : Blk W0 w.heap.size 40 #[.slice A1 n1 c1, .slice A2 n2 c2] := by rw [hW0]; exact Blk.new w _ _
  have HX := hide (fun wx (hx : Below W0.heap.size W0 wx) => (⟨((hBc.below hx hBc.lt).cell 0).trans rfl, ((hBc.below hx hBc.lt).cell 1).trans rfl⟩ :
    wx.cell? ⟨w.heap.size, 0, none⟩ = some (Value.slice A1 n1 c1) ∧ wx.cell? ⟨w.heap.size, 1, none⟩ = some (Value.slice A2 n2 c2)))
  have HW := hide (fun wx (hx : Below w.heap.size w wx) => awakeP_any SV wx)
  unfold Tells at HW
  have HL := hide (fun (wx : World) (hb : Below W0.heap.size W0 wx) => largeE_any l A0 n0 c0 wx (h.on (hbW0.trans (hb.mono hbW0.size))) (by omega))
  unfold Tells at HL
  have HR := hide (fun (wx : World) (hb : Below W0.heap.size W0 wx) => large_any root A1 n1 c1 wx (h'.on (hbW0.trans (hb.mono hbW0.size))) (by omega))
  have HP := hide (fun (wx : World) (hb : Below W0.heap.size W0 wx) => largeP_any p A2 n2 c2 wx (h''.on (hbW0.trans (hb.mono hbW0.size))) (by omega))
  have HK := hide (fun (wx : World) (hb : Below W0.heap.size W0 wx) => refCheckN_any root A1 n1 c1 wx (h'.on (hbW0.trans (hb.mono hbW0.size))) (namesQ9 hfn) (by omega))
  have HC := hide (fun (wx : World) (hb : Below W0.heap.size W0 wx) => refCheckP_any p A2 n2 c2 wx (h''.on (hbW0.trans (hb.mono hbW0.size))) (fun q hq => by have := hp200 q hq; omega) (by omega))
  have hr9 : ∀ q ∈ root, q.1.size ≤ 100 := fun q hq => (hfn.2 q hq).1
  have g7 : ¬ (200 : Int) < (nm.size : Int) := by omega
  rw [g1] at HL
  rw [g2] at HR
  rw [g3] at HK
  rw [g4] at HP
  rw [g5] at HC
  obtain ⟨hr, hf, hsh, hXl⟩ := take_bounds l l.length h30 hs
  rw [List.take_of_length_le (Nat.le_refl _)] at hr hf hsh hXl
  have hset : SetX (putsX [] l) := SetX.nil.puts l
  have hver : VerX (putsX [] l) := VerX.nil.puts l
  have HIO := hide (fun (wx : World) (hb : Below W0.heap.size W0 wx) => indexOf_any l A0 n0 c0 wx (h.on (hbW0.trans (hb.mono hbW0.size))) (by omega) fun e he => by have := hs e he; omega)
  have HO := hide (fun (wx : World) (hb : Below W0.heap.size W0 wx) => refOfX_any l A0 n0 c0 wx (h.on (hbW0.trans (hb.mono hbW0.size))) (by omega) fun e he => by have := hs e he; omega)
  generalize putsX [] l = X at *
  have HASK := hide (fun (g B : Nat) (wx : World) (hb : Below w.heap.size w wx) (hI : IdxB wx B g X) => (show AskedPk X root p (.pointer (some ⟨g, 0, none⟩)) A1 n1 A2 n2 c2 wx from ⟨⟨⟨⟨_, rfl⟩, tells_idx hI hf⟩, hf, hset, hver, by omega, h'.on hb, hn40, g3, hr9⟩, h''.on hb, hc, hn2, hp200, g5⟩))
  have HSX := hide (fun (g : Nat) (wx : World) (ha : AskedPk X root p (.pointer (some ⟨g, 0, none⟩)) A1 n1 A2 n2 c2 wx) => SX X root p (.pointer (some ⟨g, 0, none⟩)) A1 n1 c1 A2 n2 c2 wx ha)
  have HSK := hide (fun (g : Nat) (wx : World) (ha : AskedPk X root p (.pointer (some ⟨g, 0, none⟩)) A1 n1 A2 n2 c2 wx) => SK X root p nm (.pointer (some ⟨g, 0, none⟩)) A1 n1 c1 A2 n2 c2 wx ha (by omega))
  have HRX := hide (fun (A : Option Addr) (n c : Nat) (wx : World) (hb : Below w.heap.size w wx) (hK : InK wx A n X) => refNextX_any X root p A n c A1 n1 c1 A2 n2 c2 wx hK (by have := hK.len; omega) hf hset (h'.on hb) g3 (h''.on hb) hn2)
  have HRK := hide (fun (A : Option Addr) (n c : Nat) (wx : World) (hb : Below w.heap.size w wx) (hK : InK wx A n X) => refAskedX_any X root p nm A n c A1 n1 c1 A2 n2 c2 wx hK (by have := hK.len; omega) hf hset (h'.on hb) g3 (h''.on hb) hn2)
  unfold Tells at HSX
  unfold Makes at HSK HRK
  have hal := (asked_ok (X := X) (root := root) hset g3 p nm).2
  have HSm := hide (fun (Ax Az : Option Addr) (nx cx nz cz : Nat) (wx : World) (hx : SpOn wx Ax nx (askedX X root p nm)) (hz : SpOn wx Az nz (askedX X root p nm)) => refSame_yes (c := cx) (c' := cz) hx hz (by rw [hx.len]; omega) rfl)
  unfold Tells at HSm
  generalize (nextX X root p).isSome = bs at *
  generalize (nextX X root p).getD ByteArray.empty = ns at *
  generalize askedX X root p nm = AS at *
  have hh1 : (ns.toList == ns.toList) = true := by simp
  have hh2 : (bs == bs) = true := by simp
  clear h h' h'' h30 hs hfn hn0 hn40 hp60 hp200 hn2 hr9 hr hf hsh hXl hset hver g1 g2 g3 g4 g5 g6 SV SK SX hc hal
  go_enter Tryz.func4, Tryz.ntmps4
  go_upto_region 1 with fail
  rw [← hW0]
  have hb0 : Below W0.heap.size W0 W0 := Below.refl _ _
  obtain ⟨kr0, kp0⟩ := HX.out _ hb0
  clear hW0 hBc
  generalize w.heap.size = gb at HX kr0 kp0 ⊢
  go_upto_region 3 with (first
    | (go_at_call 5
       refine (HL.out _ hb0).mono ?_
       rintro e w1 ⟨rfl, hb1x⟩
       have hb1 := hb0.trans (hb1x.mono hb0.size)
       obtain ⟨kr1, kp1⟩ := HX.out _ hb1)
    | (go_at_call 6
       refine (HR.out _ hb1).mono ?_
       rintro e w3 ⟨rfl, hb3x⟩
       have hb3 := hb1.trans (hb3x.mono hb1.size)
       obtain ⟨kr3, kp3⟩ := HX.out _ hb3)
    | (go_at_call 7
       refine (HK.out _ hb3).mono ?_
       rintro e w4 ⟨rfl, hb4x⟩
       have hb4 := hb3.trans (hb4x.mono hb3.size)
       obtain ⟨kr4, kp4⟩ := HX.out _ hb4)
    | (go_at_call 14
       refine (HP.out _ hb4).mono ?_
       rintro e w4 ⟨rfl, rfl⟩)
    | (go_at_call 15
       refine (HC.out _ hb4).mono ?_
       rintro e w5 ⟨rfl, hb5x⟩
       have hb5 := hb4.trans (hb5x.mono hb4.size)
       obtain ⟨kr5, kp5⟩ := HX.out _ hb5))
  clear HL HR HK HP HC hb0 hb1x hb1 hb3x hb3 hb4x hb4 hb5x kr0 kp0 kr1 kp1 kr3 kp3 kr4 kp4
  go_upto_region 4 with (first
    | (go_at_call 10
       refine (HIO.out _ hb5).mono ?_
       rintro e w6 ⟨g, rfl, hI6, hb6⟩))
  have hb06 := hb5.trans (hb6.mono hb5.size)
  clear kr5 kp5 hb6 HIO
  go_upto_region 5 with (first
    | (go_at_call 12
       refine (HO.out _ hb06).mono ?_
       rintro e w7 ⟨Ay, ny, cy, rfl, hK7, hb7⟩))
  have hb07 := hb06.trans (hb7.mono hb06.size)
  obtain ⟨W8, hW8⟩ : ∃ W, W = w7.alloc (.cells #[.slice Ay ny cy] 35) := ⟨_, rfl⟩
  have hby : Blk W8 w7.heap.size 35 #[.slice Ay ny cy] := by rw [hW8]; exact Blk.new _ _ _
  have hK8 : InK W8 Ay ny X := by rw [hW8]; exact hK7.below (Span.alloc_b _)
  have hI8 : IdxB W8 w5.heap.size g X := by rw [hW8]; exact (hI6.below hb7).below (Span.alloc_b _)
  have hb08 : Below W0.heap.size W0 W8 := by rw [hW8]; exact hb07.alloc hb07.size _
  rw [← hW8]
  clear hW8 hK7 hI6 hb7 hb06 hb07 hb5 HO
  generalize w7.heap.size = gy at *
  have hbw8 := hbW0.trans (hb08.mono hbW0.size)
  have hA8 := HASK.out _ _ _ hbw8 hI8
  obtain ⟨kr8, kp8⟩ := HX.out _ hb08
  go_upto_region 6 with (first
    | (go_at_call 16
       refine (HSX.out _ W8 hA8).mono ?_
       rintro e w9 ⟨rfl, hb9⟩))
  have hb09 := hb08.trans (hb9.mono hb08.size)
  have hbw9 := hbW0.trans (hb09.mono hbW0.size)
  have hby9 := hby.below hb9 hby.lt
  have hK9 := hK8.below hb9
  have hA9 := hA8.on hb9
  have ky9 := (hby9.cell 0).trans (show (#[Value.slice Ay ny cy] : Array Value)[0]? = some (.slice Ay ny cy) from rfl)
  obtain ⟨kr9, kp9⟩ := HX.out _ hb09
  clear kr8 kp8 hA8 hK8 hby hb9 hb08 hbw8 hI8 HSX HASK
  go_upto_region 7 with (first
    | (go_at_call 17
       refine (HRX.out _ _ _ w9 hbw9 hK9).mono ?_
       rintro e V ⟨rfl, hbV⟩))
  have hb0V := hb09.trans (hbV.mono hb09.size)
  have hbwV := hbW0.trans (hb0V.mono hbW0.size)
  have hbyV := hby9.below hbV hby9.lt
  have hKV := hK9.below hbV
  have hAV := hA9.on hbV
  clear kr9 kp9 ky9 hA9 hK9 hby9 hbV hb09 hbw9 HRX
  have hdV : Below V.heap.size V V.drew := (Below.refl _ _).drew
  have HB := hide (fun (wx : World) (hb : Below V.heap.size V wx) => hbwV.trans (hb.mono hbwV.size))
  have HE := hide (fun (wx : World) (hb : Below V.heap.size V wx) => (⟨(HX.out wx (hb0V.trans (hb.mono hb0V.size))).1, (HX.out wx (hb0V.trans (hb.mono hb0V.size))).2, ((hbyV.below hb hbyV.lt).cell 0).trans rfl⟩ : wx.cell? ⟨gb, 0, none⟩ = some (.slice A1 n1 c1) ∧ wx.cell? ⟨gb, 1, none⟩ = some (.slice A2 n2 c2) ∧ wx.cell? ⟨gy, 0, none⟩ = some (.slice Ay ny cy)))
  have HAV := hide (fun (wx : World) (hb : Below V.heap.size V wx) => hAV.on hb)
  have HKV := hide (fun (wx : World) (hb : Below V.heap.size V wx) => hKV.below hb)
  have e0 := HE.out V (Below.refl _ _)
  have e0d := HE.out _ hdV
  clear hAV hKV HX hbyV
  go_region_held3 (fun w' => w'.cell? ⟨gb, 0, none⟩ = some (.slice A1 n1 c1) ∧ w'.cell? ⟨gb, 1, none⟩ = some (.slice A2 n2 c2) ∧ w'.cell? ⟨gy, 0, none⟩ = some (.slice Ay ny cy)) (first | exact HE.out _ hbk4 | exact HE.out _ hbk3 | exact HE.out _ hbk2 | exact HE.out _ hbk1 | exact e0d | exact e0 | go_keep)
    (first
      | (go_at_call 19
         refine (HSK.out _ _ (HAV.out _ hdV)).mono ?_
         rintro e w1 ⟨A6, n6, c6, rfl, hS1, hb1⟩
         have hbk1 : Below V.heap.size V w1 := hdV.trans hb1)
      | (go_at_call 20
         refine (HRK.out _ _ _ _ (HB.out _ hbk1) (HKV.out _ hbk1)).mono ?_
         rintro e w2 ⟨A7, n7, c7, rfl, hS2, hb2⟩
         have hS1' := SpOn.on hS1 hb2
         have hbk2 := hbk1.trans (hb2.mono hbk1.size))
      | (go_at_call 18
         refine (HSm.out _ _ _ _ _ _ _ hS1' hS2).mono ?_
         rintro e w3 ⟨rfl, hb3⟩
         have hbk3 := hbk2.trans (hb3.mono hbk2.size))
      | (go_at_call 8
         refine (HW.out _ (HB.out _ hbk3)).mono ?_
         rintro e w4' ⟨rfl, hb4⟩
         have hbk4 := hbk3.trans (hb4.mono hbk3.size)))
  go_wp2
  go_ret
  exact ⟨rfl, HB.out _ hbk4⟩
theorem pasks_walk (SV : SpecSolve) (SK : SpecAsked) (SX : SpecNext) (h : EnOn w A0 n0 l) (h' : NdOn w A1 n1 root) (h'' : PkOn w A2 n2 p) (hn : n0 ≤ 9223372036854775807) (hn' : n1 ≤ 9223372036854775807) (hn'' : n2 ≤ 9223372036854775807) (hnm : nm.size ≤ 9223372036854775807) (hc : n2 ≤ c2) :
    Calls Tryz.prog 4 #[.slice A0 n0 c0, .agg #[.slice A1 n1 c1, .slice A2 n2 c2], .string nm] w fun e w' => e = .returned (.bool true) ∧ Below w.heap.size w w' := by
  cases hsk : (largeE l || (large root || (!okS root || (largeP p || (!okP p || decide (200 < nm.size)))))) with
  | true => exact pasks_skip l root p nm A0 A1 A2 n0 c0 n1 c1 n2 c2 w SV h h' h'' hn hn' hn'' hnm hsk
  | false =>
    simp only [Bool.or_eq_false_iff, Bool.not_eq_false', decide_eq_false_iff_not] at hsk
    obtain ⟨g1, g2, g3, g4, g5, g6⟩ := hsk
    exact pasks_main l root p nm A0 A1 A2 n0 c0 n1 c1 n2 c2 w SV SK SX h h' h'' hc g1 g2 g3 g4 g5 g6
end
end Go.Proofs.YtmoeilkaadnnoaaGreat.Plain
