/-
  Some texts of this claim, one behind the other: PlainSolvesW. Contracts of the functions that the names say, and their mathematics. Conditions: each theorem's premises.
-/
import Derived.Test.YtmoeilkaadnnoaaGreatZ52
import Derived.Test.YtmoeilkaadnnoaaGreatZ47
import Derived.Test.YtmoeilkaadnnoaaGreatZ37
import Derived.Test.YtmoeilkaadnnoaaGreatZ21
import Derived.Test.YtmoeilkaadnnoaaGreatZ29
import Derived.Test.YtmoeilkaadnnoaaGreatZ20
import Derived.Test.YtmoeilkaadnnoaaGreatZ19
namespace Go.Proofs.YtmoeilkaadnnoaaGreat.Plain
open Go Go.RowKit Go.Lib Go.Sort Go.Proofs.YtmoeilkaadnnoaaGreat.Span Go.Proofs.YtmoeilkaadnnoaaGreat.Need Go.Proofs.YtmoeilkaadnnoaaGreat.Mani Go.Proofs.YtmoeilkaadnnoaaGreat.Wire Go.Proofs.YtmoeilkaadnnoaaGreat.Depot Go.Proofs.YtmoeilkaadnnoaaGreat.Index Go.Proofs.YtmoeilkaadnnoaaGreat.Reach Go.Proofs.YtmoeilkaadnnoaaGreat.Pick Go.Proofs.YtmoeilkaadnnoaaGreat.Fit
set_option linter.unusedVariables false
theorem namesP9 {l : List Nd} (h : Fine l) : Names9 l := fun q hq => by have := h.2 q hq; omega
theorem picks_sixty {X : List Kn} {root : List Nd} (hset : SetX X) (hver : VerX X) (hroot : okS root = true) (hr : RisesK X) (hl : X.length ≤ 60) (fuel : Nat) : (picksT (solveX X root fuel)).length ≤ 60 := by
  cases e : solveX X root fuel with
  | found l => have h1 := picks_len hset hver hroot hr e; show l.length ≤ 60; omega
  | nothing => exact Nat.zero_le _
  | lacks a => exact Nat.zero_le _
  | broken a => exact Nat.zero_le _
  | spent => exact Nat.zero_le _
section
variable (l : List En) (root : List Nd) (fuel : Int) (A0 A1 : Option Addr) (n0 c0 n1 c1 : Nat) (w : World)
set_option maxHeartbeats 8000000 in
set_option maxRecDepth 100000 in
theorem psolves_skip (SV : SpecSolve) (h : EnOn w A0 n0 l) (h' : NdOn w A1 n1 root) (hn : n0 ≤ 9223372036854775807) (hn' : n1 ≤ 9223372036854775807) (hsk : (largeE l || (large root || (!okS root || decide (2000 < fuel)))) = true) :
    Calls Tryz.prog 3 #[.slice A0 n0 c0, .slice A1 n1 c1, .int .i64 fuel] w fun e w' => e = .returned (.bool true) ∧ Below w.heap.size w w' := by
  have HW := hide (fun wx (hx : Below w.heap.size w wx) => awakeP_any SV wx)
  unfold Tells at HW
  have HL := hide (largeE_any l A0 n0 c0 w h hn)
  have HM := hide (fun (wx : World) (hb : Below w.heap.size w wx) => large_any root A1 n1 c1 wx (h'.on hb) hn')
  unfold Tells at HL
  clear SV
  cases g1 : largeE l with
  | true =>
    rw [g1] at HL
    clear h h' hn hn' hsk HM
    go_enter Tryz.func3, Tryz.ntmps3
    go_wp2_with (first
      | (go_at_call 5
         refine HL.out.mono ?_
         rintro e w0 ⟨rfl, hb0⟩)
      | (go_at_call 8
         refine (HW.out _ hb0).mono ?_
         rintro e w9 ⟨rfl, hb9⟩
         have hbw := hb0.trans (hb9.mono hb0.size)))
    go_ret
    exact ⟨rfl, hbw⟩
  | false =>
    rw [g1] at HL hsk
    cases g2 : large root with
    | true =>
      rw [g2] at HM
      clear h h' hn hn' hsk
      go_enter Tryz.func3, Tryz.ntmps3
      go_wp2_with (first
        | (go_at_call 5
           refine HL.out.mono ?_
           rintro e w0 ⟨rfl, hb0⟩)
        | (go_at_call 6
           refine (HM.out _ hb0).mono ?_
           rintro e w1 ⟨rfl, hb1x⟩
           have hb1 := hb0.trans (hb1x.mono hb0.size))
        | (go_at_call 8
           refine (HW.out _ hb1).mono ?_
           rintro e w9 ⟨rfl, hb9⟩
           have hbw := hb1.trans (hb9.mono hb1.size)))
      go_ret
      exact ⟨rfl, hbw⟩
    | false =>
      rw [g2] at HM hsk
      have hfn := fine_of g2
      have hn40 : n1 ≤ 40 := by rw [← h'.len]; exact hfn.1
      have HK := hide (fun (wx : World) (hb : Below w.heap.size w wx) => refCheckN_any root A1 n1 c1 wx (h'.on hb) (namesP9 hfn) (by omega))
      cases g3 : okS root with
      | false =>
        rw [g3] at HK
        clear h h' hn hn' hsk hfn hn40
        go_enter Tryz.func3, Tryz.ntmps3
        go_wp2_with (first
          | (go_at_call 5
             refine HL.out.mono ?_
             rintro e w0 ⟨rfl, hb0⟩)
          | (go_at_call 6
             refine (HM.out _ hb0).mono ?_
             rintro e w1 ⟨rfl, hb1x⟩
             have hb1 := hb0.trans (hb1x.mono hb0.size))
          | (go_at_call 7
             refine (HK.out _ hb1).mono ?_
             rintro e w2 ⟨rfl, hb2x⟩
             have hb2 := hb1.trans (hb2x.mono hb1.size))
          | (go_at_call 8
             refine (HW.out _ hb2).mono ?_
             rintro e w9 ⟨rfl, hb9⟩
             have hbw := hb2.trans (hb9.mono hb2.size)))
        go_ret
        exact ⟨rfl, hbw⟩
      | true =>
        rw [g3] at HK hsk
        have g4 : 2000 < fuel := by simpa using hsk
        clear h h' hn hn' hsk hfn hn40
        go_enter Tryz.func3, Tryz.ntmps3
        go_wp2_with (first
          | (go_at_call 5
             refine HL.out.mono ?_
             rintro e w0 ⟨rfl, hb0⟩)
          | (go_at_call 6
             refine (HM.out _ hb0).mono ?_
             rintro e w1 ⟨rfl, hb1x⟩
             have hb1 := hb0.trans (hb1x.mono hb0.size))
          | (go_at_call 7
             refine (HK.out _ hb1).mono ?_
             rintro e w2 ⟨rfl, hb2x⟩
             have hb2 := hb1.trans (hb2x.mono hb1.size))
          | (go_at_call 8
             refine (HW.out _ hb2).mono ?_
             rintro e w9 ⟨rfl, hb9⟩
             have hbw := hb2.trans (hb9.mono hb2.size)))
        go_ret
        exact ⟨rfl, hbw⟩
set_option maxHeartbeats 16000000 in
set_option maxRecDepth 100000 in
theorem psolves_main (SV : SpecSolve) (h : EnOn w A0 n0 l) (h' : NdOn w A1 n1 root) (hz : -9223372036854775808 ≤ fuel) (g1 : largeE l = false) (g2 : large root = false) (g3 : okS root = true) (g4 : ¬ 2000 < fuel) :
    Calls Tryz.prog 3 #[.slice A0 n0 c0, .slice A1 n1 c1, .int .i64 fuel] w fun e w' => e = .returned (.bool true) ∧ Below w.heap.size w w' := by
  obtain ⟨h30, hs⟩ := fineE_of g1
  have hfn := fine_of g2
  have hn0 : n0 ≤ 30 := by rw [← h.len]; exact h30
  have hn40 : n1 ≤ 40 := by rw [← h'.len]; exact hfn.1
  have hr9 : ∀ q ∈ root, q.1.size ≤ 100 := fun q hq => (hfn.2 q hq).1
  have HW := hide (fun wx (hx : Below w.heap.size w wx) => awakeP_any SV wx)
  unfold Tells at HW
  have HL := hide (largeE_any l A0 n0 c0 w h (by omega))
  have HM := hide (fun (wx : World) (hb : Below w.heap.size w wx) => large_any root A1 n1 c1 wx (h'.on hb) (by omega))
  have HK := hide (fun (wx : World) (hb : Below w.heap.size w wx) => refCheckN_any root A1 n1 c1 wx (h'.on hb) (namesP9 hfn) (by omega))
  unfold Tells at HL
  rw [g1] at HL
  rw [g2] at HM
  rw [g3] at HK
  obtain ⟨hr, hf, hsh, hXl⟩ := take_bounds l l.length h30 hs
  rw [List.take_of_length_le (Nat.le_refl _)] at hr hf hsh hXl
  have hset : SetX (putsX [] l) := SetX.nil.puts l
  have hver : VerX (putsX [] l) := VerX.nil.puts l
  have HIO := hide (fun (wx : World) (hb : Below w.heap.size w wx) => indexOf_any l A0 n0 c0 wx (h.on hb) (by omega) fun e he => by have := hs e he; omega)
  have HO := hide (fun (wx : World) (hb : Below w.heap.size w wx) => refOfX_any l A0 n0 c0 wx (h.on hb) (by omega) fun e he => by have := hs e he; omega)
  generalize putsX [] l = X at *
  have HV := hide (fun (g B : Nat) (wx : World) (hb : Below w.heap.size w wx) (hI : IdxB wx B g X) => SV X root fuel (.pointer (some ⟨g, 0, none⟩)) A1 n1 c1 wx ⟨⟨⟨_, rfl⟩, tells_idx hI hf⟩, hf, hset, hver, by omega, h'.on hb, hn40, g3, hr9⟩ hz (by omega))
  have HR := hide (fun (A : Option Addr) (n c : Nat) (wx : World) (hb : Below w.heap.size w wx) (hK : InK wx A n X) => refSolveX_any X root A n c A1 n1 c1 wx fuel hK (by have := hK.len; omega) hf hset hver hr (by omega) (h'.on hb) g3 hr9 (by omega))
  unfold Solves at HV HR
  have hp60 := picks_sixty hset hver g3 hr (by omega) fuel.toNat
  generalize solveX X root fuel.toNat = TT at *
  have HS := hide (fun (Ax Az : Option Addr) (nx cx nz cz : Nat) (wx : World) (hx : PkOn wx Ax nx (picksT TT)) (hz : PkOn wx Az nz (picksT TT)) => (show Calls Tryz.prog 13 #[.slice Ax nx cx, .slice Az nz cz] wx fun e w' => e = .returned (.bool true) ∧ Below wx.heap.size wx w' by
    refine (refSameP_any wx hx hz (by rw [← hx.len]; omega) (by rw [← hz.len]; omega)).mono ?_
    rintro e w' ⟨rfl, k, rfl⟩
    exact ⟨by rw [decide_eq_true rfl], below_drewN (Below.refl _ _) _⟩))
  have hk1 : ((kindT TT : Int) == kindT TT) = true := by simp
  have hk2 : ((nameT TT).toList == (nameT TT).toList) = true := by simp
  clear h h' h30 hs hfn hn0 hn40 hr9 hr hf hsh hXl hset hver g1 g2 g3 SV hp60
  go_enter Tryz.func3, Tryz.ntmps3
  go_upto_region 3 with (first
    | (go_at_call 5
       refine HL.out.mono ?_
       rintro e w0 ⟨rfl, hb0⟩)
    | (go_at_call 6
       refine (HM.out _ hb0).mono ?_
       rintro e w1 ⟨rfl, hb1x⟩
       have hb1 := hb0.trans (hb1x.mono hb0.size))
    | (go_at_call 7
       refine (HK.out _ hb1).mono ?_
       rintro e w2 ⟨rfl, hb2x⟩
       have hb2 := hb1.trans (hb2x.mono hb1.size)))
  clear HL HM HK hb0 hb1x hb1 hb2x
  go_upto_region 4 with (first
    | (go_at_call 10
       refine (HIO.out _ hb2).mono ?_
       rintro e w3 ⟨g, rfl, hI3, hb3⟩
       have hbw3 := hb2.trans (hb3.mono hb2.size))
    | (go_at_call 9
       refine (HV.out _ _ _ hbw3 hI3).mono ?_
       rintro e w4 ⟨A4, n4, c4, rfl, hP4, hb4⟩
       have hbw4 := hbw3.trans (hb4.mono hbw3.size)))
  clear HIO hI3 hb3 hbw3 hb4 hb2 HV
  go_upto_region 5 with (first
    | (go_at_call 12
       refine (HO.out _ hbw4).mono ?_
       rintro e w5 ⟨Ay, ny, cy, rfl, hK5, hb5⟩
       have hbw5 := hbw4.trans (hb5.mono hbw4.size)
       have hP5 := hP4.below hb5)
    | (go_at_call 11
       refine (HR.out _ _ _ _ hbw5 hK5).mono ?_
       rintro e w6 ⟨A6, n6, c6, rfl, hP6, hb6⟩
       have hbw6 := hbw5.trans (hb6.mono hbw5.size)
       have hP56 := hP5.below hb6))
  clear HO HR hP4 hP5 hK5 hb5 hb6 hbw4 hbw5
  go_wp2_with (first
    | (go_at_call 13
       refine (HS.out _ _ _ _ _ _ _ hP56.2.2.2 hP6.2.2.2).mono ?_
       rintro e w7 ⟨rfl, hb7⟩
       have hbw7 := hbw6.trans (hb7.mono hbw6.size))
    | (go_at_call 8
       refine (HW.out _ hbw7).mono ?_
       rintro e w9 ⟨rfl, hb9⟩
       have hbw := hbw7.trans (hb9.mono hbw7.size)))
  go_ret
  exact ⟨rfl, hbw⟩
theorem psolves_walk (SV : SpecSolve) (h : EnOn w A0 n0 l) (h' : NdOn w A1 n1 root) (hn : n0 ≤ 9223372036854775807) (hn' : n1 ≤ 9223372036854775807) (hz : -9223372036854775808 ≤ fuel) :
    Calls Tryz.prog 3 #[.slice A0 n0 c0, .slice A1 n1 c1, .int .i64 fuel] w fun e w' => e = .returned (.bool true) ∧ Below w.heap.size w w' := by
  cases hsk : (largeE l || (large root || (!okS root || decide (2000 < fuel)))) with
  | true => exact psolves_skip l root fuel A0 A1 n0 c0 n1 c1 w SV h h' hn hn' hsk
  | false =>
    simp only [Bool.or_eq_false_iff, Bool.not_eq_false', decide_eq_false_iff_not] at hsk
    exact psolves_main l root fuel A0 A1 n0 c0 n1 c1 w SV h h' hz hsk.1 hsk.2.1 hsk.2.2.1 hsk.2.2.2
end
end Go.Proofs.YtmoeilkaadnnoaaGreat.Plain
