/-
  Some texts of this claim, one behind the other: PlainHoldsW. What each proves, and its condition, stands at its head.
-/
import Derived.Test.YtmoeilkaadnnoaaGreatDoorZ49
import Derived.Test.YtmoeilkaadnnoaaGreatDoorZ39
import Derived.Test.YtmoeilkaadnnoaaGreatDoorZ38
import Derived.Test.YtmoeilkaadnnoaaGreatDoorZ37
import Derived.Test.YtmoeilkaadnnoaaGreatDoorZ21
import Derived.Test.YtmoeilkaadnnoaaGreatDoorZ29
import Derived.Test.YtmoeilkaadnnoaaGreatDoorZ20
import Derived.Test.YtmoeilkaadnnoaaGreatDoorZ18
/-
  The walk of PlainHolds, if the program's Solve and Solution tell what they have to. Condition: those two premises; the program's own table holds what its text lays in it.
-/
namespace Go.Proofs.YtmoeilkaadnnoaaGreatDoor.Plain
open Go Go.RowKit Go.Lib Go.Sort Go.Proofs.YtmoeilkaadnnoaaGreatDoor.Span Go.Proofs.YtmoeilkaadnnoaaGreatDoor.Need Go.Proofs.YtmoeilkaadnnoaaGreatDoor.Mani Go.Proofs.YtmoeilkaadnnoaaGreatDoor.Wire Go.Proofs.YtmoeilkaadnnoaaGreatDoor.Depot Go.Proofs.YtmoeilkaadnnoaaGreatDoor.Index Go.Proofs.YtmoeilkaadnnoaaGreatDoor.Reach Go.Proofs.YtmoeilkaadnnoaaGreatDoor.Pick Go.Proofs.YtmoeilkaadnnoaaGreatDoor.Fit
open Go.Proofs.YtmoeilkaadnnoaaGreatDoor.Ver (Units)
set_option linter.unusedVariables false
theorem namesH9 {l : List Nd} (h : Fine l) : Names9 l := fun q hq => by have := h.2 q hq; omega
/-- New picks stay where an index is written. -/
theorem newP_put {w w' : World} {B n c : Nat} {A : Option Addr} {l : List Pk} (h : Wrote B w w') (hN : NewP w 0 A n c l) : NewP w' 0 A n c l := by
  obtain ⟨row, h1, h2, h3⟩ := h
  obtain ⟨e1, e2, ho, hp⟩ := hN
  have ho' := own_far ho (h3 _ (by decide)) h1
  obtain ⟨A', c', e, hN'⟩ := newP_of_own ho'
  injection e with ea en ec
  subst ea ec
  exact ⟨e1, e2, ho', hN'.2.2.2⟩
set_option maxHeartbeats 4000000 in
set_option maxRecDepth 100000 in
theorem among_any (L : List ByteArray) (z : ByteArray) (A : Option Addr) (n c : Nat) (w : World) (h : TxOn w A n L) (hn : n ≤ 1000000) :
    Calls Tryz.prog 11 #[.slice A n c, .string z] w fun e w' => e = .returned (.bool (memB z L)) ∧ w' = w := by
  have hlen := h.len
  obtain ⟨F, hF⟩ : ∃ F, F = memB z L := ⟨_, rfl⟩
  rw [← hF]
  have HF : Hid (F = (L.drop 0).any fun y => decide (y = z)) := hide hF
  have Hd := hide (fun (i : Nat) (y : ByteArray) (hy : L[i]? = some y) => (show (L.drop i).any (fun y => decide (y = z)) = (decide (y = z) || (L.drop (i + 1)).any fun y => decide (y = z)) by
    obtain ⟨hi, e⟩ := List.getElem?_eq_some_iff.1 hy
    rw [List.drop_eq_getElem_cons hi, e]
    rfl))
  have Hend : Hid (((L.drop n).any fun y => decide (y = z)) = false) := hide (by rw [List.drop_of_length_le (by omega)]; rfl)
  clear hF hlen
  go_enter Tryz.func11, Tryz.ntmps11
  go_wp2
  go_loopw [5] (fun v wr => ∃ i : Nat, i ≤ n ∧ v = .int .i64 (i : Int) ∧ Hid (F = (L.drop i).any fun y => decide (y = z)) ∧ wr = w) (fun v _ => n - (RowKit.intOf v).toNat)
  case atStart => exact ⟨0, by omega, rfl, HF, rfl⟩
  case round =>
    obtain ⟨i, hi, rfl, hf, rfl⟩ := hrel
    by_cases hlt : i < n
    · obtain ⟨ad, y, rfl, had, hy, hc⟩ := tcs_at h hlt
      have hd := hf.out.trans (Hd.out i y hy)
      have heq : (y.toList == z.toList) = decide (y = z) := eq_names y z
      clear hy hf h HF Hd Hend
      cases g : decide (y = z) with
      | true =>
        rw [g] at hd heq
        have e : Hid (F = true) := hide (by rw [hd]; rfl)
        clear hd g
        go_wp2
        go_ret
        exact ⟨by rw [e.out]; rfl, rfl⟩
      | false =>
        rw [g] at hd heq
        have e : Hid (F = (L.drop (i + 1)).any fun y => decide (y = z)) := hide (by rw [hd]; rfl)
        clear hd g
        go_wp2
        go_roundw
        case rel => exact ⟨i + 1, by omega, by go_num, e, by trivial⟩
        case measure => simp [RowKit.intOf]; omega
    · have hi2 : i = n := by omega
      have e : Hid (F = false) := hide (by rw [hf.out, hi2]; exact Hend.out)
      clear hf HF Hd Hend h
      go_wp2
      go_ret
      exact ⟨by rw [e.out]; rfl, rfl⟩
section
variable (l m : List En) (root : List Nd) (p : List Pk) (A0 A1 A2 A3 : Option Addr) (n0 c0 n1 c1 n2 c2 n3 c3 : Nat) (w : World)
set_option maxHeartbeats 8000000 in
set_option maxRecDepth 100000 in
/-- Where the law looks at its example alone. -/
theorem pholds_skip (SV : SpecSolve) (h : EnOn w A0 n0 l) (hm : EnOn w A3 n3 m) (h' : NdOn w A1 n1 root) (h'' : PkOn w A2 n2 p) (hn : n0 ≤ 9223372036854775807) (hn' : n1 ≤ 9223372036854775807) (hn'' : n2 ≤ 9223372036854775807) (hn3 : n3 ≤ 9223372036854775807) (hsk : (largeE l || (largeE m || (large root || (!okS root || largeP p)))) = true) :
    Calls Tryz.prog 3 #[.slice A0 n0 c0, .slice A3 n3 c3, .agg #[.slice A1 n1 c1, .slice A2 n2 c2]] w fun e w' => e = .returned (.bool true) ∧ Below w.heap.size w w' := by
  obtain ⟨W0, hW0⟩ : ∃ W0, W0 = w.alloc (.cells #[.slice A1 n1 c1, .slice A2 n2 c2] 26) := ⟨_, rfl⟩
  have hbW0 : Below w.heap.size w W0 := by rw [hW0]; exact alloc_b w _
  have hBc : Blk W0 w.heap.size 26 #[.slice A1 n1 c1, .slice A2 n2 c2] := by rw [hW0]; exact Blk.new w _ _
  have HX := hide (fun wx (hx : Below W0.heap.size W0 wx) => (⟨((hBc.below hx hBc.lt).cell 0).trans rfl, ((hBc.below hx hBc.lt).cell 1).trans rfl⟩ :
    wx.cell? ⟨w.heap.size, 0, none⟩ = some (Value.slice A1 n1 c1) ∧ wx.cell? ⟨w.heap.size, 1, none⟩ = some (Value.slice A2 n2 c2)))
  have HW := hide (fun wx (hx : Below w.heap.size w wx) => awakeP_any SV wx)
  unfold Tells at HW
  have HL := hide (fun (wx : World) (hb : Below W0.heap.size W0 wx) => largeE_any l A0 n0 c0 wx (h.on (hbW0.trans (hb.mono hbW0.size))) (by omega))
  have HM := hide (fun (wx : World) (hb : Below W0.heap.size W0 wx) => largeE_any m A3 n3 c3 wx (hm.on (hbW0.trans (hb.mono hbW0.size))) (by omega))
  unfold Tells at HL HM
  have HR := hide (fun (wx : World) (hb : Below W0.heap.size W0 wx) => large_any root A1 n1 c1 wx (h'.on (hbW0.trans (hb.mono hbW0.size))) (by omega))
  have HP := hide (fun (wx : World) (hb : Below W0.heap.size W0 wx) => largeP_any p A2 n2 c2 wx (h''.on (hbW0.trans (hb.mono hbW0.size))) (by omega))
  clear SV
  cases g1 : largeE l with
  | true =>
    rw [g1] at HL
    clear h hm h' h'' hn hn' hn'' hn3 hsk HM HR HP
    go_enter Tryz.func3, Tryz.ntmps3
    go_upto_region 1 with fail
    rw [← hW0]
    have hb0 : Below W0.heap.size W0 W0 := Below.refl _ _
    obtain ⟨kr0, kp0⟩ := HX.out _ hb0
    clear hW0 hBc
    go_wp2_with (first
      | (go_at_call_of 4 (Value.slice A0 n0 c0)
         refine (HL.out _ hb0).mono ?_
         rintro e w1 ⟨rfl, hb1x⟩
         have hb1 := hb0.trans (hb1x.mono hb0.size)
         have hk1 := HX.out _ hb1)
      | (go_at_call 8
         refine (HW.out _ (hbW0.trans (hb1.mono hbW0.size))).mono ?_
         rintro e w9 ⟨rfl, hb9⟩
         have hbe := (hbW0.trans (hb1.mono hbW0.size)).trans (hb9.mono (hbW0.trans (hb1.mono hbW0.size)).size)))
    go_ret
    exact ⟨rfl, hbe⟩
  | false =>
    rw [g1] at HL
    cases g2 : largeE m with
    | true =>
      rw [g2] at HM
      clear h hm h' h'' hn hn' hn'' hn3 hsk HR HP
      go_enter Tryz.func3, Tryz.ntmps3
      go_upto_region 1 with fail
      rw [← hW0]
      have hb0 : Below W0.heap.size W0 W0 := Below.refl _ _
      obtain ⟨kr0, kp0⟩ := HX.out _ hb0
      clear hW0 hBc
      go_wp2_with (first
        | (go_at_call_of 4 (Value.slice A3 n3 c3)
           have hdone := hb1
           refine (HM.out _ hb1).mono ?_
           rintro e w2 ⟨rfl, hb2x⟩
           have hb2 := hb1.trans (hb2x.mono hb1.size)
           obtain ⟨kr2, kp2⟩ := HX.out _ hb2)
        | (go_at_call_of 4 (Value.slice A0 n0 c0)
           refine (HL.out _ hb0).mono ?_
           rintro e w1 ⟨rfl, hb1x⟩
           have hb1 := hb0.trans (hb1x.mono hb0.size)
           have hk1 := HX.out _ hb1)
        | (go_at_call 8
           refine (HW.out _ (hbW0.trans (hb2.mono hbW0.size))).mono ?_
           rintro e w9 ⟨rfl, hb9⟩
           have hbe := (hbW0.trans (hb2.mono hbW0.size)).trans (hb9.mono (hbW0.trans (hb2.mono hbW0.size)).size)))
      go_ret
      exact ⟨rfl, hbe⟩
    | false =>
      rw [g2] at HM
      cases g3 : large root with
      | true =>
        rw [g3] at HR
        clear h hm h' h'' hn hn' hn'' hn3 hsk HP
        go_enter Tryz.func3, Tryz.ntmps3
        go_upto_region 1 with fail
        rw [← hW0]
        have hb0 : Below W0.heap.size W0 W0 := Below.refl _ _
        obtain ⟨kr0, kp0⟩ := HX.out _ hb0
        clear hW0 hBc
        go_wp2_with (first
          | (go_at_call_of 4 (Value.slice A3 n3 c3)
             have hdone := hb1
             refine (HM.out _ hb1).mono ?_
             rintro e w2 ⟨rfl, hb2x⟩
             have hb2 := hb1.trans (hb2x.mono hb1.size)
             obtain ⟨kr2, kp2⟩ := HX.out _ hb2)
          | (go_at_call_of 4 (Value.slice A0 n0 c0)
             refine (HL.out _ hb0).mono ?_
             rintro e w1 ⟨rfl, hb1x⟩
             have hb1 := hb0.trans (hb1x.mono hb0.size)
             have hk1 := HX.out _ hb1)
          | (go_at_call 5
             refine (HR.out _ hb2).mono ?_
             rintro e w3 ⟨rfl, hb3x⟩
             have hb3 := hb2.trans (hb3x.mono hb2.size)
             obtain ⟨kr3, kp3⟩ := HX.out _ hb3)
          | (go_at_call 8
             refine (HW.out _ (hbW0.trans (hb3.mono hbW0.size))).mono ?_
             rintro e w9 ⟨rfl, hb9⟩
             have hbe := (hbW0.trans (hb3.mono hbW0.size)).trans (hb9.mono (hbW0.trans (hb3.mono hbW0.size)).size)))
        go_ret
        exact ⟨rfl, hbe⟩
      | false =>
        rw [g3] at HR
        have hfn := fine_of g3
        have hn40 : n1 ≤ 40 := by rw [← h'.len]; exact hfn.1
        have HK := hide (fun (wx : World) (hb : Below W0.heap.size W0 wx) => refCheckN_any root A1 n1 c1 wx (h'.on (hbW0.trans (hb.mono hbW0.size))) (namesH9 hfn) (by omega))
        cases g4 : okS root with
        | false =>
          rw [g4] at HK
          clear h hm h' h'' hn hn' hn'' hn3 hsk HP hfn hn40
          go_enter Tryz.func3, Tryz.ntmps3
          go_upto_region 1 with fail
          rw [← hW0]
          have hb0 : Below W0.heap.size W0 W0 := Below.refl _ _
          obtain ⟨kr0, kp0⟩ := HX.out _ hb0
          clear hW0 hBc
          go_wp2_with (first
            | (go_at_call_of 4 (Value.slice A3 n3 c3)
               have hdone := hb1
               refine (HM.out _ hb1).mono ?_
               rintro e w2 ⟨rfl, hb2x⟩
               have hb2 := hb1.trans (hb2x.mono hb1.size)
               obtain ⟨kr2, kp2⟩ := HX.out _ hb2)
            | (go_at_call_of 4 (Value.slice A0 n0 c0)
               refine (HL.out _ hb0).mono ?_
               rintro e w1 ⟨rfl, hb1x⟩
               have hb1 := hb0.trans (hb1x.mono hb0.size)
               have hk1 := HX.out _ hb1)
            | (go_at_call 5
               refine (HR.out _ hb2).mono ?_
               rintro e w3 ⟨rfl, hb3x⟩
               have hb3 := hb2.trans (hb3x.mono hb2.size)
               obtain ⟨kr3, kp3⟩ := HX.out _ hb3)
            | (go_at_call 6
               refine (HK.out _ hb3).mono ?_
               rintro e w4 ⟨rfl, hb4x⟩
               have hb4 := hb3.trans (hb4x.mono hb3.size)
               obtain ⟨kr4, kp4⟩ := HX.out _ hb4)
            | (go_at_call 8
               refine (HW.out _ (hbW0.trans (hb4.mono hbW0.size))).mono ?_
               rintro e w9 ⟨rfl, hb9⟩
               have hbe := (hbW0.trans (hb4.mono hbW0.size)).trans (hb9.mono (hbW0.trans (hb4.mono hbW0.size)).size)))
          go_ret
          exact ⟨rfl, hbe⟩
        | true =>
          rw [g4] at HK
          have g5 : largeP p = true := by rw [g1, g2, g3, g4] at hsk; simpa using hsk
          rw [g5] at HP
          clear h hm h' h'' hn hn' hn'' hn3 hsk hfn hn40
          go_enter Tryz.func3, Tryz.ntmps3
          go_upto_region 1 with fail
          rw [← hW0]
          have hb0 : Below W0.heap.size W0 W0 := Below.refl _ _
          obtain ⟨kr0, kp0⟩ := HX.out _ hb0
          clear hW0 hBc
          go_wp2_with (first
            | (go_at_call_of 4 (Value.slice A3 n3 c3)
               have hdone := hb1
               refine (HM.out _ hb1).mono ?_
               rintro e w2 ⟨rfl, hb2x⟩
               have hb2 := hb1.trans (hb2x.mono hb1.size)
               obtain ⟨kr2, kp2⟩ := HX.out _ hb2)
            | (go_at_call_of 4 (Value.slice A0 n0 c0)
               refine (HL.out _ hb0).mono ?_
               rintro e w1 ⟨rfl, hb1x⟩
               have hb1 := hb0.trans (hb1x.mono hb0.size)
               have hk1 := HX.out _ hb1)
            | (go_at_call 5
               refine (HR.out _ hb2).mono ?_
               rintro e w3 ⟨rfl, hb3x⟩
               have hb3 := hb2.trans (hb3x.mono hb2.size)
               obtain ⟨kr3, kp3⟩ := HX.out _ hb3)
            | (go_at_call 6
               refine (HK.out _ hb3).mono ?_
               rintro e w4 ⟨rfl, hb4x⟩
               have hb4 := hb3.trans (hb4x.mono hb3.size)
               obtain ⟨kr4, kp4⟩ := HX.out _ hb4)
            | (go_at_call 7
               refine (HP.out _ hb4).mono ?_
               rintro e w4 ⟨rfl, rfl⟩)
            | (go_at_call 8
               refine (HW.out _ (hbW0.trans (hb4.mono hbW0.size))).mono ?_
               rintro e w9 ⟨rfl, hb9⟩
               have hbe := (hbW0.trans (hb4.mono hbW0.size)).trans (hb9.mono (hbW0.trans (hb4.mono hbW0.size)).size)))
          go_ret
          exact ⟨rfl, hbe⟩
set_option maxHeartbeats 16000000 in
set_option maxRecDepth 100000 in
theorem pholds_found (SV : SpecSolve) (SS : SpecSol) (h : EnOn w A0 n0 l) (hm : EnOn w A3 n3 m) (h' : NdOn w A1 n1 root) (h'' : PkOn w A2 n2 p) (hc : n2 ≤ c2) (hT : Units w) (g1 : largeE l = false) (g2 : largeE m = false) (g3 : large root = false) (g4 : okS root = true) (g5 : largeP p = false) (q : List Pk) (hsv : solveX (putsX [] l) root 2000 = .found q) :
    Calls Tryz.prog 3 #[.slice A0 n0 c0, .slice A3 n3 c3, .agg #[.slice A1 n1 c1, .slice A2 n2 c2]] w fun e w' => e = .returned (.bool true) ∧ Below w.heap.size w w' := by
  obtain ⟨h30, hs⟩ := fineE_of g1
  obtain ⟨hm30, hms⟩ := fineE_of g2
  obtain ⟨hp60, hp200⟩ := largeP_no g5
  have hn0 : n0 ≤ 30 := by rw [← h.len]; exact h30
  have hn3 : n3 ≤ 30 := by rw [← hm.len]; exact hm30
  have hn2 : n2 ≤ 60 := by rw [← h''.len]; exact hp60
  have hfn := fine_of g3
  have hn40 : n1 ≤ 40 := by rw [← h'.len]; exact hfn.1
  obtain ⟨W0, hW0⟩ : ∃ W0, W0 = w.alloc (.cells #[.slice A1 n1 c1, .slice A2 n2 c2] 26) := ⟨_, rfl⟩
  have hbW0 : Below w.heap.size w W0 := by rw [hW0]; exact alloc_b w _
  have hBc : Blk W0 w.heap.size 26 #[.slice A1 n1 c1, .slice A2 n2 c2] := by rw [hW0]; exact Blk.new w _ _
  have HX := hide (fun wx (hx : Below W0.heap.size W0 wx) => (⟨((hBc.below hx hBc.lt).cell 0).trans rfl, ((hBc.below hx hBc.lt).cell 1).trans rfl⟩ :
    wx.cell? ⟨w.heap.size, 0, none⟩ = some (Value.slice A1 n1 c1) ∧ wx.cell? ⟨w.heap.size, 1, none⟩ = some (Value.slice A2 n2 c2)))
  have HW := hide (fun wx (hx : Below w.heap.size w wx) => awakeP_any SV wx)
  unfold Tells at HW
  have HL := hide (fun (wx : World) (hb : Below W0.heap.size W0 wx) => largeE_any l A0 n0 c0 wx (h.on (hbW0.trans (hb.mono hbW0.size))) (by omega))
  have HM := hide (fun (wx : World) (hb : Below W0.heap.size W0 wx) => largeE_any m A3 n3 c3 wx (hm.on (hbW0.trans (hb.mono hbW0.size))) (by omega))
  unfold Tells at HL HM
  have HR := hide (fun (wx : World) (hb : Below W0.heap.size W0 wx) => large_any root A1 n1 c1 wx (h'.on (hbW0.trans (hb.mono hbW0.size))) (by omega))
  have HP := hide (fun (wx : World) (hb : Below W0.heap.size W0 wx) => largeP_any p A2 n2 c2 wx (h''.on (hbW0.trans (hb.mono hbW0.size))) (by omega))
  have HK := hide (fun (wx : World) (hb : Below W0.heap.size W0 wx) => refCheckN_any root A1 n1 c1 wx (h'.on (hbW0.trans (hb.mono hbW0.size))) (namesH9 hfn) (by omega))
  have hr9 : ∀ q ∈ root, q.1.size ≤ 100 := fun q hq => (hfn.2 q hq).1
  rw [g1] at HL
  rw [g2] at HM
  rw [g3] at HR
  rw [g4] at HK
  rw [g5] at HP
  obtain ⟨hr, hf, hsh, hXl⟩ := take_bounds l l.length h30 hs
  rw [List.take_of_length_le (Nat.le_refl _)] at hr hf hsh hXl
  have hset : SetX (putsX [] l) := SetX.nil.puts l
  have hver : VerX (putsX [] l) := VerX.nil.puts l
  have HIO := hide (fun (wx : World) (hb : Below W0.heap.size W0 wx) => indexOf_any l A0 n0 c0 wx (h.on (hbW0.trans (hb.mono hbW0.size))) (by omega) fun e he => by have := hs e he; omega)
  generalize putsX [] l = X at *
  have HAP := hide (fun (Y : List Kn) (g B : Nat) (wx : World) (hb : Below w.heap.size w wx) (hI : IdxB wx B g Y) (hfY : FineX Y) (hsY : SetX Y) (hvY : VerX Y) (hlY : Y.length ≤ 100) =>
    SV Y root 2000 (.pointer (some ⟨g, 0, none⟩)) A1 n1 c1 wx ⟨⟨⟨_, rfl⟩, tells_idx hI hfY⟩, hfY, hsY, hvY, hlY, h'.on hb, hn40, g4, hr9⟩ (by omega) (by omega))
  rw [show (2000 : Int).toNat = 2000 from rfl] at HAP
  have HASK := hide (fun (Y : List Kn) (q : List Pk) (g B : Nat) (Aq : Option Addr) (nq cq : Nat) (wx : World) (hb : Below w.heap.size w wx) (hI : IdxB wx B g Y) (hfY : FineX Y) (hsY : SetX Y) (hlY : Y.length ≤ 100) (hq : PkOn wx Aq nq q) (hqc : nq ≤ cq) (hqn : nq ≤ 60) (hq2 : ∀ z ∈ q, z.1.size ≤ 200) =>
    SS Y root q (.pointer (some ⟨g, 0, none⟩)) A1 n1 c1 Aq nq cq wx ⟨⟨⟨_, rfl⟩, tells_idx hI hfY⟩, hfY, hsY, hlY, h'.on hb, hn40, g4, hr9, hq, hqc, hqn, hq2, hT.below hb⟩)
  have hml := hm.len
  have Hr := hide (fun i => putsX_rises hr (m.take i))
  have Hl := hide (fun i => (show (putsX X (m.take i)).length ≤ 100 by
    have h1 := putsX_len X (m.take i)
    have h2 : (m.take i).length ≤ m.length := by rw [List.length_take]; omega
    omega))
  have hXl2 : (putsX X m).length ≤ 100 := by have h1 := putsX_len X m; omega
  have hfm := hf.puts m
  have hsm := hset.puts m
  have hvm := hver.puts m
  have HV0 := hide (fun (g B : Nat) (wx : World) (hb : Below w.heap.size w wx) (hI : IdxB wx B g X) => HAP.out X g B wx hb hI hf hset hver (by omega))
  have HV1 := hide (fun (g B : Nat) (wx : World) (hb : Below w.heap.size w wx) (hI : IdxB wx B g (putsX X m)) => HAP.out (putsX X m) g B wx hb hI hfm hsm hvm hXl2)
  unfold Solves at HV0 HV1
  have hPk := h''
  have hsol := solve_found hset hver g4 hsv
  have hs2 : solveX (putsX X m) root 2000 = .found q := (solve_grows hr m hset hver g4 (by rw [hsv]; exact .inr ⟨q, rfl⟩)).trans hsv
  rw [hsv] at HV0
  rw [hs2] at HV1
  simp only [kindT, nameT, picksT] at HV0 HV1
  have hql : q.length ≤ 60 := by have h1 := sol_len hsol hr; omega
  have hq200 : ∀ z ∈ q, z.1.size ≤ 200 := fun z hz => by
    have h1 := mayF_short hf hr9 (((needed_ok X root q).2 z.1).1 ((sol_iff.1 hsol).2.2.2.2 z hz))
    omega
  have HS0 := hide (fun (g B : Nat) (Aq : Option Addr) (nq cq : Nat) (wx : World) (hb : Below w.heap.size w wx) (hI : IdxB wx B g X) (hN : NewP wx 0 Aq nq cq q) => HASK.out X q g B Aq nq cq wx hb hI hf hset (by omega) hN.2.2.2 hN.2.1 (by rw [hN.1]; exact hql) hq200)
  rw [hsol] at HS0
  have HSm := hide (fun (Ax Az : Option Addr) (nx cx nz cz : Nat) (wx : World) (hx : PkOn wx Ax nx q) (hz : PkOn wx Az nz q) => (show Calls Tryz.prog 15 #[.slice Ax nx cx, .slice Az nz cz] wx fun e w' => e = .returned (.bool true) ∧ Below wx.heap.size wx w' by
    refine (refSameP_any wx hx hz (by rw [← hx.len]; omega) (by rw [← hz.len]; omega)).mono ?_
    rintro e w' ⟨rfl, k, rfl⟩
    exact ⟨by rw [decide_eq_true rfl], below_drewN (Below.refl _ _) _⟩))
  clear hsol hs2 hsv hql hq200
  have Hms := hide hms
  have Hlen := hide hml
  have Hm := hide hm
  clear h hm h' h'' hPk hs hms hp200 hr9 hr hf hsh hset hver hT g1 g2 g3 g4 g5 HASK HAP h30 hm30 hp60 hml hXl2 hfm hsm hvm SV SS hfn
  go_enter Tryz.func3, Tryz.ntmps3
  go_upto_region 1 with fail
  rw [← hW0]
  have hb0 : Below W0.heap.size W0 W0 := Below.refl _ _
  obtain ⟨kr0, kp0⟩ := HX.out _ hb0
  clear hW0 hBc
  generalize w.heap.size = gb at HX kr0 kp0 ⊢
  go_upto_region 3 with (first
    | (go_at_call_of 4 (Value.slice A3 n3 c3)
       have hdone := hb1
       refine (HM.out _ hb1).mono ?_
       rintro e w2 ⟨rfl, hb2x⟩
       have hb2 := hb1.trans (hb2x.mono hb1.size)
       obtain ⟨kr2, kp2⟩ := HX.out _ hb2)
    | (go_at_call_of 4 (Value.slice A0 n0 c0)
       refine (HL.out _ hb0).mono ?_
       rintro e w1 ⟨rfl, hb1x⟩
       have hb1 := hb0.trans (hb1x.mono hb0.size)
       have hk1 := HX.out _ hb1)
    | (go_at_call 5
       refine (HR.out _ hb2).mono ?_
       rintro e w3 ⟨rfl, hb3x⟩
       have hb3 := hb2.trans (hb3x.mono hb2.size)
       obtain ⟨kr3, kp3⟩ := HX.out _ hb3)
    | (go_at_call 6
       refine (HK.out _ hb3).mono ?_
       rintro e w4 ⟨rfl, hb4x⟩
       have hb4 := hb3.trans (hb4x.mono hb3.size)
       obtain ⟨kr4, kp4⟩ := HX.out _ hb4)
    | (go_at_call 7
       refine (HP.out _ hb4).mono ?_
       rintro e w4 ⟨rfl, rfl⟩))
  have hbw4 := hbW0.trans (hb4.mono hbW0.size)
  clear HL HM HR HK HP hb1x hb1 hb2x hb2 hb3x hb3 hb4x hb0 kr0 kp0 kr2 kp2 kr3 kp3 hk1
  go_upto_region 4 with (first
    | (go_at_call 9
       refine (HIO.out _ hb4).mono ?_
       rintro e w5 ⟨g, rfl, hI5, hb5⟩))
  have hb05 := hb4.trans (hb5.mono hb4.size)
  have hbw5 := hbW0.trans (hb05.mono hbW0.size)
  obtain ⟨kr5, kp5⟩ := HX.out _ hb05
  have hWB : W0.heap.size ≤ w4.heap.size := hb4.size
  clear kr4 kp4 hb5 HIO hb4 hbw4
  generalize w4.heap.size = B at *
  go_upto_region 5 with (first
    | (go_at_call 10
       refine (HV0.out _ _ w5 hbw5 hI5).mono ?_
       rintro e w6 ⟨Ap, np, cp, rfl, hP6, hb6⟩))
  have hb06 := hb05.trans (hb6.mono hb05.size)
  have hbw6 := hbW0.trans (hb06.mono hbW0.size)
  have hI6 := hI5.below hb6
  obtain ⟨kr6, kp6⟩ := HX.out _ hb06
  clear kr5 kp5 hI5 hb6 hb05 hbw5 HV0
  go_wp2_with (first
    | (go_at_call 13
       refine (HS0.out _ _ _ _ _ _ hbw6 hI6 hP6).mono ?_
       rintro e w7 ⟨rfl, hb7⟩
       have hb07 := hb06.trans (hb7.mono hb06.size)
       have hI7 := hI6.below hb7
       have hP7 := hP6.below hb7))
  clear kr6 kp6 hI6 hb06 hbw6
  go_loopw [11] (fun v wr => ∃ i : Nat, i ≤ n3 ∧ v = .int .i64 (i : Int) ∧ IdxB wr B g (putsX X (m.take i)) ∧ NewP wr 0 Ap np cp q ∧ Below W0.heap.size W0 wr) (fun v _ => n3 - (RowKit.intOf v).toNat)
  case atStart => exact ⟨0, Nat.zero_le _, rfl, hI7, hP7, hb07⟩
  case round =>
    obtain ⟨i, hi, rfl, hI, hPa, hb⟩ := hrel
    have hbs := hb.size
    clear hI7 hP7 hb07
    by_cases hlt : i < n3
    · obtain ⟨ad, y, A', n', c', rfl, hbl, hx, hss, d1, d2⟩ := PIn.at_ Hm.out hlt
      have hq := Hms.out y (List.mem_of_getElem? hx)
      have hst := putsX_take (l := X) hx
      have hr := Hr.out i
      have hYl := Hl.out i
      obtain ⟨x, bd⟩ := y
      simp only [] at d1 d2 hq hst
      have hrdw : Reads w w.heap.size 1 A' n' (bcs bd) := hss
      have Hrd := hide (fun (wx : World) (hbx : Below W0.heap.size W0 wx) => hrdw.below (hbW0.trans (hbx.mono hbW0.size)))
      have Hc := hide (fun (wx : World) (hby : Below W0.heap.size W0 wx) => (fun hbx : Below w.heap.size w wx => And.intro ((hbx.cell (p := ad.add (i * 2)) (by rw [block_of_add]; exact hbl)).trans d1) ((hbx.cell (p := ⟨(ad.add (i * 2)).block, (ad.add (i * 2)).off + 1, none⟩) (by simp only [block_of_add]; exact hbl)).trans d2)) (hbW0.trans (hby.mono hbW0.size)))
      have hx9 : x.size ≤ 1000000000 := by omega
      have hi1 : (0 : Int) ≤ (i : Int) := by omega
      have hi2 : (i : Int) < (n3 : Int) := by omega
      have Hst := hide hst
      generalize putsX X (m.take i) = Y at *
      have HPt := hide (fun (wx : World) (hI9 : IdxB wx B g Y) (hr9 : Reads wx B 1 A' n' (bcs bd)) => putW_any x bd A' n' c' hI9 hr (by omega) hr9 hx9)
      have hde := hI.below (drew_b wr)
      have hBle := hde.le
      have hrdd := (Hrd.out wr.drew hb.drew).more (Nat.le_trans hbW0.size hWB)
      have hcc := Hc.out wr.drew hb.drew
      have hPd := hPa.below (drew_b wr)
      generalize errX Y x bd = ec at *
      generalize putX Y x bd = Y2 at *
      clear hr hss hx d1 d2 hst hx9 hq hrdw Hms Hr Hl HX Hlen Hm HV1 HW hI hPa hYl
      go_upto_region 10 with fail
      go_region_held3 (fun w' => w'.cell? (ad.add (i * 2)) = some (.string x) ∧ w'.cell? ⟨(ad.add (i * 2)).block, (ad.add (i * 2)).off + 1, none⟩ = some (.slice A' n' c')) (first | exact Hc.out w9 hbk9 | exact hcc | go_keep)
        (first
          | (go_at_call 14
             refine (HPt.out _ hde hrdd).mono ?_
             rintro e w9 ⟨rfl, hI9, hW9⟩
             have hbk9 : Below W0.heap.size W0 w9 := hb.drew.trans ((hW9.below hBle).mono hWB)
             have hPa9 := newP_put hW9 hPd))
      go_wp2
      go_roundw
      case rel => exact ⟨i + 1, by omega, by go_num, by rw [Hst.out]; exact hI9, hPa9, hbk9⟩
      case measure => simp [RowKit.intOf]; omega
    · have hi2 : i = n3 := by omega
      rw [List.take_of_length_le (by rw [Hlen.out]; omega)] at hI
      have hbw := hbW0.trans (hb.mono hbW0.size)
      obtain ⟨kr8, kp8⟩ := HX.out _ hb
      clear Hms Hr Hl Hlen Hm
      subst hi2
      generalize putsX X m = Z at *
      go_upto_region 12 with (first
        | (go_at_call 10
           refine (HV1.out _ _ wr hbw hI).mono ?_
           rintro e V ⟨Aq, nq, cq, rfl, hQV, hbV⟩))
      have hb0V := hb.trans (hbV.mono hbs)
      have hbwV := hbW0.trans (hb0V.mono hbW0.size)
      have hIV := hI.below hbV
      have hPV := hPa.below hbV
      obtain ⟨krV, kpV⟩ := HX.out V hb0V
      clear kr8 kp8 hI hPa hb hbs hbw hbV HV1
      go_wp2_with (first
        | (go_at_call 15
           refine (HSm.out _ _ _ _ _ _ _ hPV.2.2.2 hQV.2.2.2).mono ?_
           rintro e wS ⟨rfl, hbS⟩
           have hbwS := hbwV.trans (hbS.mono hbwV.size))
        | (go_at_call 8
           refine (HW.out _ hbwS).mono ?_
           rintro e w9 ⟨rfl, hb9⟩
           have hbz := hbwS.trans (hb9.mono hbwS.size)))
      go_ret
      exact ⟨rfl, hbz⟩
set_option maxHeartbeats 16000000 in
set_option maxRecDepth 100000 in
theorem pholds_nothing (SV : SpecSolve) (SS : SpecSol) (h : EnOn w A0 n0 l) (hm : EnOn w A3 n3 m) (h' : NdOn w A1 n1 root) (h'' : PkOn w A2 n2 p) (hc : n2 ≤ c2) (hT : Units w) (g1 : largeE l = false) (g2 : largeE m = false) (g3 : large root = false) (g4 : okS root = true) (g5 : largeP p = false) (hsv : solveX (putsX [] l) root 2000 = .nothing) :
    Calls Tryz.prog 3 #[.slice A0 n0 c0, .slice A3 n3 c3, .agg #[.slice A1 n1 c1, .slice A2 n2 c2]] w fun e w' => e = .returned (.bool true) ∧ Below w.heap.size w w' := by
  obtain ⟨h30, hs⟩ := fineE_of g1
  obtain ⟨hm30, hms⟩ := fineE_of g2
  obtain ⟨hp60, hp200⟩ := largeP_no g5
  have hn0 : n0 ≤ 30 := by rw [← h.len]; exact h30
  have hn3 : n3 ≤ 30 := by rw [← hm.len]; exact hm30
  have hn2 : n2 ≤ 60 := by rw [← h''.len]; exact hp60
  have hfn := fine_of g3
  have hn40 : n1 ≤ 40 := by rw [← h'.len]; exact hfn.1
  obtain ⟨W0, hW0⟩ : ∃ W0, W0 = w.alloc (.cells #[.slice A1 n1 c1, .slice A2 n2 c2] 26) := ⟨_, rfl⟩
  have hbW0 : Below w.heap.size w W0 := by rw [hW0]; exact alloc_b w _
  have hBc : Blk W0 w.heap.size 26 #[.slice A1 n1 c1, .slice A2 n2 c2] := by rw [hW0]; exact Blk.new w _ _
  have HX := hide (fun wx (hx : Below W0.heap.size W0 wx) => (⟨((hBc.below hx hBc.lt).cell 0).trans rfl, ((hBc.below hx hBc.lt).cell 1).trans rfl⟩ :
    wx.cell? ⟨w.heap.size, 0, none⟩ = some (Value.slice A1 n1 c1) ∧ wx.cell? ⟨w.heap.size, 1, none⟩ = some (Value.slice A2 n2 c2)))
  have HW := hide (fun wx (hx : Below w.heap.size w wx) => awakeP_any SV wx)
  unfold Tells at HW
  have HL := hide (fun (wx : World) (hb : Below W0.heap.size W0 wx) => largeE_any l A0 n0 c0 wx (h.on (hbW0.trans (hb.mono hbW0.size))) (by omega))
  have HM := hide (fun (wx : World) (hb : Below W0.heap.size W0 wx) => largeE_any m A3 n3 c3 wx (hm.on (hbW0.trans (hb.mono hbW0.size))) (by omega))
  unfold Tells at HL HM
  have HR := hide (fun (wx : World) (hb : Below W0.heap.size W0 wx) => large_any root A1 n1 c1 wx (h'.on (hbW0.trans (hb.mono hbW0.size))) (by omega))
  have HP := hide (fun (wx : World) (hb : Below W0.heap.size W0 wx) => largeP_any p A2 n2 c2 wx (h''.on (hbW0.trans (hb.mono hbW0.size))) (by omega))
  have HK := hide (fun (wx : World) (hb : Below W0.heap.size W0 wx) => refCheckN_any root A1 n1 c1 wx (h'.on (hbW0.trans (hb.mono hbW0.size))) (namesH9 hfn) (by omega))
  have hr9 : ∀ q ∈ root, q.1.size ≤ 100 := fun q hq => (hfn.2 q hq).1
  rw [g1] at HL
  rw [g2] at HM
  rw [g3] at HR
  rw [g4] at HK
  rw [g5] at HP
  obtain ⟨hr, hf, hsh, hXl⟩ := take_bounds l l.length h30 hs
  rw [List.take_of_length_le (Nat.le_refl _)] at hr hf hsh hXl
  have hset : SetX (putsX [] l) := SetX.nil.puts l
  have hver : VerX (putsX [] l) := VerX.nil.puts l
  have HIO := hide (fun (wx : World) (hb : Below W0.heap.size W0 wx) => indexOf_any l A0 n0 c0 wx (h.on (hbW0.trans (hb.mono hbW0.size))) (by omega) fun e he => by have := hs e he; omega)
  generalize putsX [] l = X at *
  have HAP := hide (fun (Y : List Kn) (g B : Nat) (wx : World) (hb : Below w.heap.size w wx) (hI : IdxB wx B g Y) (hfY : FineX Y) (hsY : SetX Y) (hvY : VerX Y) (hlY : Y.length ≤ 100) =>
    SV Y root 2000 (.pointer (some ⟨g, 0, none⟩)) A1 n1 c1 wx ⟨⟨⟨_, rfl⟩, tells_idx hI hfY⟩, hfY, hsY, hvY, hlY, h'.on hb, hn40, g4, hr9⟩ (by omega) (by omega))
  rw [show (2000 : Int).toNat = 2000 from rfl] at HAP
  have HASK := hide (fun (Y : List Kn) (q : List Pk) (g B : Nat) (Aq : Option Addr) (nq cq : Nat) (wx : World) (hb : Below w.heap.size w wx) (hI : IdxB wx B g Y) (hfY : FineX Y) (hsY : SetX Y) (hlY : Y.length ≤ 100) (hq : PkOn wx Aq nq q) (hqc : nq ≤ cq) (hqn : nq ≤ 60) (hq2 : ∀ z ∈ q, z.1.size ≤ 200) =>
    SS Y root q (.pointer (some ⟨g, 0, none⟩)) A1 n1 c1 Aq nq cq wx ⟨⟨⟨_, rfl⟩, tells_idx hI hfY⟩, hfY, hsY, hlY, h'.on hb, hn40, g4, hr9, hq, hqc, hqn, hq2, hT.below hb⟩)
  have hml := hm.len
  have Hr := hide (fun i => putsX_rises hr (m.take i))
  have Hl := hide (fun i => (show (putsX X (m.take i)).length ≤ 100 by
    have h1 := putsX_len X (m.take i)
    have h2 : (m.take i).length ≤ m.length := by rw [List.length_take]; omega
    omega))
  have hXl2 : (putsX X m).length ≤ 100 := by have h1 := putsX_len X m; omega
  have hfm := hf.puts m
  have hsm := hset.puts m
  have hvm := hver.puts m
  have HV0 := hide (fun (g B : Nat) (wx : World) (hb : Below w.heap.size w wx) (hI : IdxB wx B g X) => HAP.out X g B wx hb hI hf hset hver (by omega))
  have HV1 := hide (fun (g B : Nat) (wx : World) (hb : Below w.heap.size w wx) (hI : IdxB wx B g (putsX X m)) => HAP.out (putsX X m) g B wx hb hI hfm hsm hvm hXl2)
  unfold Solves at HV0 HV1
  have hPk := h''
  have hs2 : solveX (putsX X m) root 2000 = .nothing := (solve_grows hr m hset hver g4 (by rw [hsv]; exact .inl rfl)).trans hsv
  rw [hsv] at HV0
  rw [hs2] at HV1
  simp only [kindT, nameT, picksT] at HV0 HV1
  have hSm : solX (putsX X m) root p = false := solve_nothing hsm g4 hs2 p
  have HSN := hide (fun (g B : Nat) (wx : World) (hb : Below w.heap.size w wx) (hI : IdxB wx B g (putsX X m)) => HASK.out (putsX X m) p g B A2 n2 c2 wx hb hI hfm hsm hXl2 (hPk.on hb) hc hn2 hp200)
  rw [hSm] at HSN
  clear hs2 hsv hSm
  have Hms := hide hms
  have Hlen := hide hml
  have Hm := hide hm
  clear h hm h' h'' hPk hs hms hp200 hr9 hr hf hsh hset hver hT g1 g2 g3 g4 g5 HASK HAP h30 hm30 hp60 hml hXl2 hfm hsm hvm SV SS hfn
  go_enter Tryz.func3, Tryz.ntmps3
  go_upto_region 1 with fail
  rw [← hW0]
  have hb0 : Below W0.heap.size W0 W0 := Below.refl _ _
  obtain ⟨kr0, kp0⟩ := HX.out _ hb0
  clear hW0 hBc
  generalize w.heap.size = gb at HX kr0 kp0 ⊢
  go_upto_region 3 with (first
    | (go_at_call_of 4 (Value.slice A3 n3 c3)
       have hdone := hb1
       refine (HM.out _ hb1).mono ?_
       rintro e w2 ⟨rfl, hb2x⟩
       have hb2 := hb1.trans (hb2x.mono hb1.size)
       obtain ⟨kr2, kp2⟩ := HX.out _ hb2)
    | (go_at_call_of 4 (Value.slice A0 n0 c0)
       refine (HL.out _ hb0).mono ?_
       rintro e w1 ⟨rfl, hb1x⟩
       have hb1 := hb0.trans (hb1x.mono hb0.size)
       have hk1 := HX.out _ hb1)
    | (go_at_call 5
       refine (HR.out _ hb2).mono ?_
       rintro e w3 ⟨rfl, hb3x⟩
       have hb3 := hb2.trans (hb3x.mono hb2.size)
       obtain ⟨kr3, kp3⟩ := HX.out _ hb3)
    | (go_at_call 6
       refine (HK.out _ hb3).mono ?_
       rintro e w4 ⟨rfl, hb4x⟩
       have hb4 := hb3.trans (hb4x.mono hb3.size)
       obtain ⟨kr4, kp4⟩ := HX.out _ hb4)
    | (go_at_call 7
       refine (HP.out _ hb4).mono ?_
       rintro e w4 ⟨rfl, rfl⟩))
  have hbw4 := hbW0.trans (hb4.mono hbW0.size)
  clear HL HM HR HK HP hb1x hb1 hb2x hb2 hb3x hb3 hb4x hb0 kr0 kp0 kr2 kp2 kr3 kp3 hk1
  go_upto_region 4 with (first
    | (go_at_call 9
       refine (HIO.out _ hb4).mono ?_
       rintro e w5 ⟨g, rfl, hI5, hb5⟩))
  have hb05 := hb4.trans (hb5.mono hb4.size)
  have hbw5 := hbW0.trans (hb05.mono hbW0.size)
  obtain ⟨kr5, kp5⟩ := HX.out _ hb05
  have hWB : W0.heap.size ≤ w4.heap.size := hb4.size
  clear kr4 kp4 hb5 HIO hb4 hbw4
  generalize w4.heap.size = B at *
  go_upto_region 5 with (first
    | (go_at_call 10
       refine (HV0.out _ _ w5 hbw5 hI5).mono ?_
       rintro e w6 ⟨Ap, np, cp, rfl, hP6, hb6⟩))
  have hb06 := hb05.trans (hb6.mono hb05.size)
  have hbw6 := hbW0.trans (hb06.mono hbW0.size)
  have hI6 := hI5.below hb6
  obtain ⟨kr6, kp6⟩ := HX.out _ hb06
  clear kr5 kp5 hI5 hb6 hb05 hbw5 HV0
  go_wp2
  have hb07 := hb06
  have hI7 := hI6
  have hP7 := hP6
  clear kr6 kp6 hI6 hb06 hbw6
  go_loopw [11] (fun v wr => ∃ i : Nat, i ≤ n3 ∧ v = .int .i64 (i : Int) ∧ IdxB wr B g (putsX X (m.take i)) ∧ NewP wr 0 Ap np cp [] ∧ Below W0.heap.size W0 wr) (fun v _ => n3 - (RowKit.intOf v).toNat)
  case atStart => exact ⟨0, Nat.zero_le _, rfl, hI7, hP7, hb07⟩
  case round =>
    obtain ⟨i, hi, rfl, hI, hPa, hb⟩ := hrel
    have hbs := hb.size
    clear hI7 hP7 hb07
    by_cases hlt : i < n3
    · obtain ⟨ad, y, A', n', c', rfl, hbl, hx, hss, d1, d2⟩ := PIn.at_ Hm.out hlt
      have hq := Hms.out y (List.mem_of_getElem? hx)
      have hst := putsX_take (l := X) hx
      have hr := Hr.out i
      have hYl := Hl.out i
      obtain ⟨x, bd⟩ := y
      simp only [] at d1 d2 hq hst
      have hrdw : Reads w w.heap.size 1 A' n' (bcs bd) := hss
      have Hrd := hide (fun (wx : World) (hbx : Below W0.heap.size W0 wx) => hrdw.below (hbW0.trans (hbx.mono hbW0.size)))
      have Hc := hide (fun (wx : World) (hby : Below W0.heap.size W0 wx) => (fun hbx : Below w.heap.size w wx => And.intro ((hbx.cell (p := ad.add (i * 2)) (by rw [block_of_add]; exact hbl)).trans d1) ((hbx.cell (p := ⟨(ad.add (i * 2)).block, (ad.add (i * 2)).off + 1, none⟩) (by simp only [block_of_add]; exact hbl)).trans d2)) (hbW0.trans (hby.mono hbW0.size)))
      have hx9 : x.size ≤ 1000000000 := by omega
      have hi1 : (0 : Int) ≤ (i : Int) := by omega
      have hi2 : (i : Int) < (n3 : Int) := by omega
      have Hst := hide hst
      generalize putsX X (m.take i) = Y at *
      have HPt := hide (fun (wx : World) (hI9 : IdxB wx B g Y) (hr9 : Reads wx B 1 A' n' (bcs bd)) => putW_any x bd A' n' c' hI9 hr (by omega) hr9 hx9)
      have hde := hI.below (drew_b wr)
      have hBle := hde.le
      have hrdd := (Hrd.out wr.drew hb.drew).more (Nat.le_trans hbW0.size hWB)
      have hcc := Hc.out wr.drew hb.drew
      have hPd := hPa.below (drew_b wr)
      generalize errX Y x bd = ec at *
      generalize putX Y x bd = Y2 at *
      clear hr hss hx d1 d2 hst hx9 hq hrdw Hms Hr Hl HX Hlen Hm HV1 HW hI hPa hYl
      go_upto_region 10 with fail
      go_region_held3 (fun w' => w'.cell? (ad.add (i * 2)) = some (.string x) ∧ w'.cell? ⟨(ad.add (i * 2)).block, (ad.add (i * 2)).off + 1, none⟩ = some (.slice A' n' c')) (first | exact Hc.out w9 hbk9 | exact hcc | go_keep)
        (first
          | (go_at_call 14
             refine (HPt.out _ hde hrdd).mono ?_
             rintro e w9 ⟨rfl, hI9, hW9⟩
             have hbk9 : Below W0.heap.size W0 w9 := hb.drew.trans ((hW9.below hBle).mono hWB)
             have hPa9 := newP_put hW9 hPd))
      go_wp2
      go_roundw
      case rel => exact ⟨i + 1, by omega, by go_num, by rw [Hst.out]; exact hI9, hPa9, hbk9⟩
      case measure => simp [RowKit.intOf]; omega
    · have hi2 : i = n3 := by omega
      rw [List.take_of_length_le (by rw [Hlen.out]; omega)] at hI
      have hbw := hbW0.trans (hb.mono hbW0.size)
      obtain ⟨kr8, kp8⟩ := HX.out _ hb
      clear Hms Hr Hl Hlen Hm
      subst hi2
      generalize putsX X m = Z at *
      go_upto_region 12 with (first
        | (go_at_call 10
           refine (HV1.out _ _ wr hbw hI).mono ?_
           rintro e V ⟨Aq, nq, cq, rfl, hQV, hbV⟩))
      have hb0V := hb.trans (hbV.mono hbs)
      have hbwV := hbW0.trans (hb0V.mono hbW0.size)
      have hIV := hI.below hbV
      have hPV := hPa.below hbV
      obtain ⟨krV, kpV⟩ := HX.out V hb0V
      clear kr8 kp8 hI hPa hb hbs hbw hbV HV1
      go_wp2_with (first
        | (go_at_call 13
           refine (HSN.out _ _ _ hbwS hIS).mono ?_
           rintro e wT ⟨rfl, hbT⟩
           have hbwT := hbwS.trans (hbT.mono hbwS.size))
        | (go_at_call 13
           refine (HSN.out _ _ _ hbwV hIV).mono ?_
           rintro e wS ⟨rfl, hbS⟩
           have hbwS := hbwV.trans (hbS.mono hbwV.size)
           have hIS := hIV.below hbS
           obtain ⟨krS, kpS⟩ := HX.out wS (hb0V.trans (hbS.mono hb0V.size)))
        | (go_at_call 8
           refine (HW.out _ hbwT).mono ?_
           rintro e w9 ⟨rfl, hb9⟩
           have hbz := hbwT.trans (hb9.mono hbwT.size)))
      go_ret
      exact ⟨rfl, hbz⟩
set_option maxHeartbeats 16000000 in
set_option maxRecDepth 100000 in
theorem pholds_lacks1 (SV : SpecSolve) (SS : SpecSol) (h : EnOn w A0 n0 l) (hm : EnOn w A3 n3 m) (h' : NdOn w A1 n1 root) (h'' : PkOn w A2 n2 p) (hc : n2 ≤ c2) (hT : Units w) (g1 : largeE l = false) (g2 : largeE m = false) (g3 : large root = false) (g4 : okS root = true) (g5 : largeP p = false) (a : ByteArray) (hsv : solveX (putsX [] l) root 2000 = .lacks a) (hs2 : solveX (putsX (putsX [] l) m) root 2000 = .nothing) :
    Calls Tryz.prog 3 #[.slice A0 n0 c0, .slice A3 n3 c3, .agg #[.slice A1 n1 c1, .slice A2 n2 c2]] w fun e w' => e = .returned (.bool true) ∧ Below w.heap.size w w' := by
  obtain ⟨h30, hs⟩ := fineE_of g1
  obtain ⟨hm30, hms⟩ := fineE_of g2
  obtain ⟨hp60, hp200⟩ := largeP_no g5
  have hn0 : n0 ≤ 30 := by rw [← h.len]; exact h30
  have hn3 : n3 ≤ 30 := by rw [← hm.len]; exact hm30
  have hn2 : n2 ≤ 60 := by rw [← h''.len]; exact hp60
  have hfn := fine_of g3
  have hn40 : n1 ≤ 40 := by rw [← h'.len]; exact hfn.1
  obtain ⟨W0, hW0⟩ : ∃ W0, W0 = w.alloc (.cells #[.slice A1 n1 c1, .slice A2 n2 c2] 26) := ⟨_, rfl⟩
  have hbW0 : Below w.heap.size w W0 := by rw [hW0]; exact alloc_b w _
  have hBc : Blk W0 w.heap.size 26 #[.slice A1 n1 c1, .slice A2 n2 c2] := by rw [hW0]; exact Blk.new w _ _
  have HX := hide (fun wx (hx : Below W0.heap.size W0 wx) => (⟨((hBc.below hx hBc.lt).cell 0).trans rfl, ((hBc.below hx hBc.lt).cell 1).trans rfl⟩ :
    wx.cell? ⟨w.heap.size, 0, none⟩ = some (Value.slice A1 n1 c1) ∧ wx.cell? ⟨w.heap.size, 1, none⟩ = some (Value.slice A2 n2 c2)))
  have HW := hide (fun wx (hx : Below w.heap.size w wx) => awakeP_any SV wx)
  unfold Tells at HW
  have HL := hide (fun (wx : World) (hb : Below W0.heap.size W0 wx) => largeE_any l A0 n0 c0 wx (h.on (hbW0.trans (hb.mono hbW0.size))) (by omega))
  have HM := hide (fun (wx : World) (hb : Below W0.heap.size W0 wx) => largeE_any m A3 n3 c3 wx (hm.on (hbW0.trans (hb.mono hbW0.size))) (by omega))
  unfold Tells at HL HM
  have HR := hide (fun (wx : World) (hb : Below W0.heap.size W0 wx) => large_any root A1 n1 c1 wx (h'.on (hbW0.trans (hb.mono hbW0.size))) (by omega))
  have HP := hide (fun (wx : World) (hb : Below W0.heap.size W0 wx) => largeP_any p A2 n2 c2 wx (h''.on (hbW0.trans (hb.mono hbW0.size))) (by omega))
  have HK := hide (fun (wx : World) (hb : Below W0.heap.size W0 wx) => refCheckN_any root A1 n1 c1 wx (h'.on (hbW0.trans (hb.mono hbW0.size))) (namesH9 hfn) (by omega))
  have hr9 : ∀ q ∈ root, q.1.size ≤ 100 := fun q hq => (hfn.2 q hq).1
  rw [g1] at HL
  rw [g2] at HM
  rw [g3] at HR
  rw [g4] at HK
  rw [g5] at HP
  obtain ⟨hr, hf, hsh, hXl⟩ := take_bounds l l.length h30 hs
  rw [List.take_of_length_le (Nat.le_refl _)] at hr hf hsh hXl
  have hset : SetX (putsX [] l) := SetX.nil.puts l
  have hver : VerX (putsX [] l) := VerX.nil.puts l
  have HIO := hide (fun (wx : World) (hb : Below W0.heap.size W0 wx) => indexOf_any l A0 n0 c0 wx (h.on (hbW0.trans (hb.mono hbW0.size))) (by omega) fun e he => by have := hs e he; omega)
  generalize putsX [] l = X at *
  have HAP := hide (fun (Y : List Kn) (g B : Nat) (wx : World) (hb : Below w.heap.size w wx) (hI : IdxB wx B g Y) (hfY : FineX Y) (hsY : SetX Y) (hvY : VerX Y) (hlY : Y.length ≤ 100) =>
    SV Y root 2000 (.pointer (some ⟨g, 0, none⟩)) A1 n1 c1 wx ⟨⟨⟨_, rfl⟩, tells_idx hI hfY⟩, hfY, hsY, hvY, hlY, h'.on hb, hn40, g4, hr9⟩ (by omega) (by omega))
  rw [show (2000 : Int).toNat = 2000 from rfl] at HAP
  have HASK := hide (fun (Y : List Kn) (q : List Pk) (g B : Nat) (Aq : Option Addr) (nq cq : Nat) (wx : World) (hb : Below w.heap.size w wx) (hI : IdxB wx B g Y) (hfY : FineX Y) (hsY : SetX Y) (hlY : Y.length ≤ 100) (hq : PkOn wx Aq nq q) (hqc : nq ≤ cq) (hqn : nq ≤ 60) (hq2 : ∀ z ∈ q, z.1.size ≤ 200) =>
    SS Y root q (.pointer (some ⟨g, 0, none⟩)) A1 n1 c1 Aq nq cq wx ⟨⟨⟨_, rfl⟩, tells_idx hI hfY⟩, hfY, hsY, hlY, h'.on hb, hn40, g4, hr9, hq, hqc, hqn, hq2, hT.below hb⟩)
  have hml := hm.len
  have Hr := hide (fun i => putsX_rises hr (m.take i))
  have Hl := hide (fun i => (show (putsX X (m.take i)).length ≤ 100 by
    have h1 := putsX_len X (m.take i)
    have h2 : (m.take i).length ≤ m.length := by rw [List.length_take]; omega
    omega))
  have hXl2 : (putsX X m).length ≤ 100 := by have h1 := putsX_len X m; omega
  have hfm := hf.puts m
  have hsm := hset.puts m
  have hvm := hver.puts m
  have HV0 := hide (fun (g B : Nat) (wx : World) (hb : Below w.heap.size w wx) (hI : IdxB wx B g X) => HAP.out X g B wx hb hI hf hset hver (by omega))
  have HV1 := hide (fun (g B : Nat) (wx : World) (hb : Below w.heap.size w wx) (hI : IdxB wx B g (putsX X m)) => HAP.out (putsX X m) g B wx hb hI hfm hsm hvm hXl2)
  unfold Solves at HV0 HV1
  have hPk := h''
  have hla := solve_lacks hset hver g4 hsv
  rw [hsv] at HV0
  simp only [kindT, nameT, picksT] at HV0
  have HMs := hide (fun (g B : Nat) (wx : World) (hb : Below w.heap.size w wx) (hI : IdxB wx B g X) => reachMissing_any X root (.pointer (some ⟨g, 0, none⟩)) A1 n1 c1 wx (tells_idx hI hf) hf (by omega) (h'.on hb) hn40 hr9)
  unfold MakesT at HMs
  have hmis : (missX X root).length ≤ 1000000 := by
    have h1 := missL_len X (reachX X root)
    rw [missL_all] at h1
    have h2 := reachX_len hf (root := root) hfn.1
    omega
  have HAm := hide (fun (Ax : Option Addr) (nx cx : Nat) (wx : World) (hx : TxOn wx Ax nx (missX X root)) => among_any (missX X root) a Ax nx cx wx hx (by rw [← hx.len]; exact hmis))
  rw [memB_iff.2 hla] at HAm
  clear hla hsv hmis
  rw [hs2] at HV1
  simp only [kindT, nameT, picksT] at HV1
  have hSm : solX (putsX X m) root p = false := solve_nothing hsm g4 hs2 p
  have HSN := hide (fun (g B : Nat) (wx : World) (hb : Below w.heap.size w wx) (hI : IdxB wx B g (putsX X m)) => HASK.out (putsX X m) p g B A2 n2 c2 wx hb hI hfm hsm hXl2 (hPk.on hb) hc hn2 hp200)
  rw [hSm] at HSN
  clear hs2 hSm
  have Hms := hide hms
  have Hlen := hide hml
  have Hm := hide hm
  clear h hm h' h'' hPk hs hms hp200 hr9 hr hf hsh hset hver hT g1 g2 g3 g4 g5 HASK HAP h30 hm30 hp60 hml hXl2 hfm hsm hvm SV SS hfn
  go_enter Tryz.func3, Tryz.ntmps3
  go_upto_region 1 with fail
  rw [← hW0]
  have hb0 : Below W0.heap.size W0 W0 := Below.refl _ _
  obtain ⟨kr0, kp0⟩ := HX.out _ hb0
  clear hW0 hBc
  generalize w.heap.size = gb at HX kr0 kp0 ⊢
  go_upto_region 3 with (first
    | (go_at_call_of 4 (Value.slice A3 n3 c3)
       have hdone := hb1
       refine (HM.out _ hb1).mono ?_
       rintro e w2 ⟨rfl, hb2x⟩
       have hb2 := hb1.trans (hb2x.mono hb1.size)
       obtain ⟨kr2, kp2⟩ := HX.out _ hb2)
    | (go_at_call_of 4 (Value.slice A0 n0 c0)
       refine (HL.out _ hb0).mono ?_
       rintro e w1 ⟨rfl, hb1x⟩
       have hb1 := hb0.trans (hb1x.mono hb0.size)
       have hk1 := HX.out _ hb1)
    | (go_at_call 5
       refine (HR.out _ hb2).mono ?_
       rintro e w3 ⟨rfl, hb3x⟩
       have hb3 := hb2.trans (hb3x.mono hb2.size)
       obtain ⟨kr3, kp3⟩ := HX.out _ hb3)
    | (go_at_call 6
       refine (HK.out _ hb3).mono ?_
       rintro e w4 ⟨rfl, hb4x⟩
       have hb4 := hb3.trans (hb4x.mono hb3.size)
       obtain ⟨kr4, kp4⟩ := HX.out _ hb4)
    | (go_at_call 7
       refine (HP.out _ hb4).mono ?_
       rintro e w4 ⟨rfl, rfl⟩))
  have hbw4 := hbW0.trans (hb4.mono hbW0.size)
  clear HL HM HR HK HP hb1x hb1 hb2x hb2 hb3x hb3 hb4x hb0 kr0 kp0 kr2 kp2 kr3 kp3 hk1
  go_upto_region 4 with (first
    | (go_at_call 9
       refine (HIO.out _ hb4).mono ?_
       rintro e w5 ⟨g, rfl, hI5, hb5⟩))
  have hb05 := hb4.trans (hb5.mono hb4.size)
  have hbw5 := hbW0.trans (hb05.mono hbW0.size)
  obtain ⟨kr5, kp5⟩ := HX.out _ hb05
  have hWB : W0.heap.size ≤ w4.heap.size := hb4.size
  clear kr4 kp4 hb5 HIO hb4 hbw4
  generalize w4.heap.size = B at *
  go_upto_region 5 with (first
    | (go_at_call 10
       refine (HV0.out _ _ w5 hbw5 hI5).mono ?_
       rintro e w6 ⟨Ap, np, cp, rfl, hP6, hb6⟩))
  have hb06 := hb05.trans (hb6.mono hb05.size)
  have hbw6 := hbW0.trans (hb06.mono hbW0.size)
  have hI6 := hI5.below hb6
  obtain ⟨kr6, kp6⟩ := HX.out _ hb06
  clear kr5 kp5 hI5 hb6 hb05 hbw5 HV0
  go_wp2_with (first
    | (go_at_call 12
       refine (HMs.out _ _ _ hbw6 hI6).mono ?_
       rintro e w7 ⟨A7, n7, c7, rfl, hT7, hb7⟩
       have hb07 := hb06.trans (hb7.mono hb06.size)
       have hI7 := hI6.below hb7
       have hP7 := hP6.below hb7)
    | (go_at_call 11
       refine (HAm.out _ _ _ _ hT7).mono ?_
       rintro e w7 ⟨rfl, rfl⟩))
  clear kr6 kp6 hI6 hb06 hbw6
  go_loopw [11] (fun v wr => ∃ i : Nat, i ≤ n3 ∧ v = .int .i64 (i : Int) ∧ IdxB wr B g (putsX X (m.take i)) ∧ NewP wr 0 Ap np cp [] ∧ Below W0.heap.size W0 wr) (fun v _ => n3 - (RowKit.intOf v).toNat)
  case atStart => exact ⟨0, Nat.zero_le _, rfl, hI7, hP7, hb07⟩
  case round =>
    obtain ⟨i, hi, rfl, hI, hPa, hb⟩ := hrel
    have hbs := hb.size
    clear hI7 hP7 hb07
    by_cases hlt : i < n3
    · obtain ⟨ad, y, A', n', c', rfl, hbl, hx, hss, d1, d2⟩ := PIn.at_ Hm.out hlt
      have hq := Hms.out y (List.mem_of_getElem? hx)
      have hst := putsX_take (l := X) hx
      have hr := Hr.out i
      have hYl := Hl.out i
      obtain ⟨x, bd⟩ := y
      simp only [] at d1 d2 hq hst
      have hrdw : Reads w w.heap.size 1 A' n' (bcs bd) := hss
      have Hrd := hide (fun (wx : World) (hbx : Below W0.heap.size W0 wx) => hrdw.below (hbW0.trans (hbx.mono hbW0.size)))
      have Hc := hide (fun (wx : World) (hby : Below W0.heap.size W0 wx) => (fun hbx : Below w.heap.size w wx => And.intro ((hbx.cell (p := ad.add (i * 2)) (by rw [block_of_add]; exact hbl)).trans d1) ((hbx.cell (p := ⟨(ad.add (i * 2)).block, (ad.add (i * 2)).off + 1, none⟩) (by simp only [block_of_add]; exact hbl)).trans d2)) (hbW0.trans (hby.mono hbW0.size)))
      have hx9 : x.size ≤ 1000000000 := by omega
      have hi1 : (0 : Int) ≤ (i : Int) := by omega
      have hi2 : (i : Int) < (n3 : Int) := by omega
      have Hst := hide hst
      generalize putsX X (m.take i) = Y at *
      have HPt := hide (fun (wx : World) (hI9 : IdxB wx B g Y) (hr9 : Reads wx B 1 A' n' (bcs bd)) => putW_any x bd A' n' c' hI9 hr (by omega) hr9 hx9)
      have hde := hI.below (drew_b wr)
      have hBle := hde.le
      have hrdd := (Hrd.out wr.drew hb.drew).more (Nat.le_trans hbW0.size hWB)
      have hcc := Hc.out wr.drew hb.drew
      have hPd := hPa.below (drew_b wr)
      generalize errX Y x bd = ec at *
      generalize putX Y x bd = Y2 at *
      clear hr hss hx d1 d2 hst hx9 hq hrdw Hms Hr Hl HX Hlen Hm HV1 HW hI hPa hYl
      go_upto_region 10 with fail
      go_region_held3 (fun w' => w'.cell? (ad.add (i * 2)) = some (.string x) ∧ w'.cell? ⟨(ad.add (i * 2)).block, (ad.add (i * 2)).off + 1, none⟩ = some (.slice A' n' c')) (first | exact Hc.out w9 hbk9 | exact hcc | go_keep)
        (first
          | (go_at_call 14
             refine (HPt.out _ hde hrdd).mono ?_
             rintro e w9 ⟨rfl, hI9, hW9⟩
             have hbk9 : Below W0.heap.size W0 w9 := hb.drew.trans ((hW9.below hBle).mono hWB)
             have hPa9 := newP_put hW9 hPd))
      go_wp2
      go_roundw
      case rel => exact ⟨i + 1, by omega, by go_num, by rw [Hst.out]; exact hI9, hPa9, hbk9⟩
      case measure => simp [RowKit.intOf]; omega
    · have hi2 : i = n3 := by omega
      rw [List.take_of_length_le (by rw [Hlen.out]; omega)] at hI
      have hbw := hbW0.trans (hb.mono hbW0.size)
      obtain ⟨kr8, kp8⟩ := HX.out _ hb
      clear Hms Hr Hl Hlen Hm
      subst hi2
      generalize putsX X m = Z at *
      go_upto_region 12 with (first
        | (go_at_call 10
           refine (HV1.out _ _ wr hbw hI).mono ?_
           rintro e V ⟨Aq, nq, cq, rfl, hQV, hbV⟩))
      have hb0V := hb.trans (hbV.mono hbs)
      have hbwV := hbW0.trans (hb0V.mono hbW0.size)
      have hIV := hI.below hbV
      have hPV := hPa.below hbV
      obtain ⟨krV, kpV⟩ := HX.out V hb0V
      clear kr8 kp8 hI hPa hb hbs hbw hbV HV1
      go_wp2_with (first
        | (go_at_call 13
           refine (HSN.out _ _ _ hbwV hIV).mono ?_
           rintro e wS ⟨rfl, hbS⟩
           have hbwS := hbwV.trans (hbS.mono hbwV.size)
           have hIS := hIV.below hbS
           obtain ⟨krS, kpS⟩ := HX.out wS (hb0V.trans (hbS.mono hb0V.size)))
        | (go_at_call 8
           refine (HW.out _ hbwS).mono ?_
           rintro e w9 ⟨rfl, hb9⟩
           have hbz := hbwS.trans (hb9.mono hbwS.size)))
      go_ret
      exact ⟨rfl, hbz⟩
set_option maxHeartbeats 16000000 in
set_option maxRecDepth 100000 in
theorem pholds_lacks2 (SV : SpecSolve) (SS : SpecSol) (h : EnOn w A0 n0 l) (hm : EnOn w A3 n3 m) (h' : NdOn w A1 n1 root) (h'' : PkOn w A2 n2 p) (hc : n2 ≤ c2) (hT : Units w) (g1 : largeE l = false) (g2 : largeE m = false) (g3 : large root = false) (g4 : okS root = true) (g5 : largeP p = false) (a : ByteArray) (hsv : solveX (putsX [] l) root 2000 = .lacks a) (hs2 : solveX (putsX (putsX [] l) m) root 2000 ≠ .nothing) :
    Calls Tryz.prog 3 #[.slice A0 n0 c0, .slice A3 n3 c3, .agg #[.slice A1 n1 c1, .slice A2 n2 c2]] w fun e w' => e = .returned (.bool true) ∧ Below w.heap.size w w' := by
  obtain ⟨h30, hs⟩ := fineE_of g1
  obtain ⟨hm30, hms⟩ := fineE_of g2
  obtain ⟨hp60, hp200⟩ := largeP_no g5
  have hn0 : n0 ≤ 30 := by rw [← h.len]; exact h30
  have hn3 : n3 ≤ 30 := by rw [← hm.len]; exact hm30
  have hn2 : n2 ≤ 60 := by rw [← h''.len]; exact hp60
  have hfn := fine_of g3
  have hn40 : n1 ≤ 40 := by rw [← h'.len]; exact hfn.1
  obtain ⟨W0, hW0⟩ : ∃ W0, W0 = w.alloc (.cells #[.slice A1 n1 c1, .slice A2 n2 c2] 26) := ⟨_, rfl⟩
  have hbW0 : Below w.heap.size w W0 := by rw [hW0]; exact alloc_b w _
  have hBc : Blk W0 w.heap.size 26 #[.slice A1 n1 c1, .slice A2 n2 c2] := by rw [hW0]; exact Blk.new w _ _
  have HX := hide (fun wx (hx : Below W0.heap.size W0 wx) => (⟨((hBc.below hx hBc.lt).cell 0).trans rfl, ((hBc.below hx hBc.lt).cell 1).trans rfl⟩ :
    wx.cell? ⟨w.heap.size, 0, none⟩ = some (Value.slice A1 n1 c1) ∧ wx.cell? ⟨w.heap.size, 1, none⟩ = some (Value.slice A2 n2 c2)))
  have HW := hide (fun wx (hx : Below w.heap.size w wx) => awakeP_any SV wx)
  unfold Tells at HW
  have HL := hide (fun (wx : World) (hb : Below W0.heap.size W0 wx) => largeE_any l A0 n0 c0 wx (h.on (hbW0.trans (hb.mono hbW0.size))) (by omega))
  have HM := hide (fun (wx : World) (hb : Below W0.heap.size W0 wx) => largeE_any m A3 n3 c3 wx (hm.on (hbW0.trans (hb.mono hbW0.size))) (by omega))
  unfold Tells at HL HM
  have HR := hide (fun (wx : World) (hb : Below W0.heap.size W0 wx) => large_any root A1 n1 c1 wx (h'.on (hbW0.trans (hb.mono hbW0.size))) (by omega))
  have HP := hide (fun (wx : World) (hb : Below W0.heap.size W0 wx) => largeP_any p A2 n2 c2 wx (h''.on (hbW0.trans (hb.mono hbW0.size))) (by omega))
  have HK := hide (fun (wx : World) (hb : Below W0.heap.size W0 wx) => refCheckN_any root A1 n1 c1 wx (h'.on (hbW0.trans (hb.mono hbW0.size))) (namesH9 hfn) (by omega))
  have hr9 : ∀ q ∈ root, q.1.size ≤ 100 := fun q hq => (hfn.2 q hq).1
  rw [g1] at HL
  rw [g2] at HM
  rw [g3] at HR
  rw [g4] at HK
  rw [g5] at HP
  obtain ⟨hr, hf, hsh, hXl⟩ := take_bounds l l.length h30 hs
  rw [List.take_of_length_le (Nat.le_refl _)] at hr hf hsh hXl
  have hset : SetX (putsX [] l) := SetX.nil.puts l
  have hver : VerX (putsX [] l) := VerX.nil.puts l
  have HIO := hide (fun (wx : World) (hb : Below W0.heap.size W0 wx) => indexOf_any l A0 n0 c0 wx (h.on (hbW0.trans (hb.mono hbW0.size))) (by omega) fun e he => by have := hs e he; omega)
  generalize putsX [] l = X at *
  have HAP := hide (fun (Y : List Kn) (g B : Nat) (wx : World) (hb : Below w.heap.size w wx) (hI : IdxB wx B g Y) (hfY : FineX Y) (hsY : SetX Y) (hvY : VerX Y) (hlY : Y.length ≤ 100) =>
    SV Y root 2000 (.pointer (some ⟨g, 0, none⟩)) A1 n1 c1 wx ⟨⟨⟨_, rfl⟩, tells_idx hI hfY⟩, hfY, hsY, hvY, hlY, h'.on hb, hn40, g4, hr9⟩ (by omega) (by omega))
  rw [show (2000 : Int).toNat = 2000 from rfl] at HAP
  have HASK := hide (fun (Y : List Kn) (q : List Pk) (g B : Nat) (Aq : Option Addr) (nq cq : Nat) (wx : World) (hb : Below w.heap.size w wx) (hI : IdxB wx B g Y) (hfY : FineX Y) (hsY : SetX Y) (hlY : Y.length ≤ 100) (hq : PkOn wx Aq nq q) (hqc : nq ≤ cq) (hqn : nq ≤ 60) (hq2 : ∀ z ∈ q, z.1.size ≤ 200) =>
    SS Y root q (.pointer (some ⟨g, 0, none⟩)) A1 n1 c1 Aq nq cq wx ⟨⟨⟨_, rfl⟩, tells_idx hI hfY⟩, hfY, hsY, hlY, h'.on hb, hn40, g4, hr9, hq, hqc, hqn, hq2, hT.below hb⟩)
  have hml := hm.len
  have Hr := hide (fun i => putsX_rises hr (m.take i))
  have Hl := hide (fun i => (show (putsX X (m.take i)).length ≤ 100 by
    have h1 := putsX_len X (m.take i)
    have h2 : (m.take i).length ≤ m.length := by rw [List.length_take]; omega
    omega))
  have hXl2 : (putsX X m).length ≤ 100 := by have h1 := putsX_len X m; omega
  have hfm := hf.puts m
  have hsm := hset.puts m
  have hvm := hver.puts m
  have HV0 := hide (fun (g B : Nat) (wx : World) (hb : Below w.heap.size w wx) (hI : IdxB wx B g X) => HAP.out X g B wx hb hI hf hset hver (by omega))
  have HV1 := hide (fun (g B : Nat) (wx : World) (hb : Below w.heap.size w wx) (hI : IdxB wx B g (putsX X m)) => HAP.out (putsX X m) g B wx hb hI hfm hsm hvm hXl2)
  unfold Solves at HV0 HV1
  have hPk := h''
  have hla := solve_lacks hset hver g4 hsv
  rw [hsv] at HV0
  simp only [kindT, nameT, picksT] at HV0
  have HMs := hide (fun (g B : Nat) (wx : World) (hb : Below w.heap.size w wx) (hI : IdxB wx B g X) => reachMissing_any X root (.pointer (some ⟨g, 0, none⟩)) A1 n1 c1 wx (tells_idx hI hf) hf (by omega) (h'.on hb) hn40 hr9)
  unfold MakesT at HMs
  have hmis : (missX X root).length ≤ 1000000 := by
    have h1 := missL_len X (reachX X root)
    rw [missL_all] at h1
    have h2 := reachX_len hf (root := root) hfn.1
    omega
  have HAm := hide (fun (Ax : Option Addr) (nx cx : Nat) (wx : World) (hx : TxOn wx Ax nx (missX X root)) => among_any (missX X root) a Ax nx cx wx hx (by rw [← hx.len]; exact hmis))
  rw [memB_iff.2 hla] at HAm
  clear hla hsv hmis
  have hk2 : (kindT (solveX (putsX X m) root 2000) != 2) = true := by
    cases e : solveX (putsX X m) root 2000 with
    | nothing => exact absurd e hs2
    | found _ => rfl
    | lacks _ => rfl
    | broken _ => rfl
    | spent => rfl
  clear hs2
  generalize kindT (solveX (putsX X m) root 2000) = K2 at *
  generalize nameT (solveX (putsX X m) root 2000) = N2 at *
  generalize picksT (solveX (putsX X m) root 2000) = P2 at *
  have Hms := hide hms
  have Hlen := hide hml
  have Hm := hide hm
  clear h hm h' h'' hPk hs hms hp200 hr9 hr hf hsh hset hver hT g1 g2 g3 g4 g5 HASK HAP h30 hm30 hp60 hml hXl2 hfm hsm hvm SV SS hfn
  go_enter Tryz.func3, Tryz.ntmps3
  go_upto_region 1 with fail
  rw [← hW0]
  have hb0 : Below W0.heap.size W0 W0 := Below.refl _ _
  obtain ⟨kr0, kp0⟩ := HX.out _ hb0
  clear hW0 hBc
  generalize w.heap.size = gb at HX kr0 kp0 ⊢
  go_upto_region 3 with (first
    | (go_at_call_of 4 (Value.slice A3 n3 c3)
       have hdone := hb1
       refine (HM.out _ hb1).mono ?_
       rintro e w2 ⟨rfl, hb2x⟩
       have hb2 := hb1.trans (hb2x.mono hb1.size)
       obtain ⟨kr2, kp2⟩ := HX.out _ hb2)
    | (go_at_call_of 4 (Value.slice A0 n0 c0)
       refine (HL.out _ hb0).mono ?_
       rintro e w1 ⟨rfl, hb1x⟩
       have hb1 := hb0.trans (hb1x.mono hb0.size)
       have hk1 := HX.out _ hb1)
    | (go_at_call 5
       refine (HR.out _ hb2).mono ?_
       rintro e w3 ⟨rfl, hb3x⟩
       have hb3 := hb2.trans (hb3x.mono hb2.size)
       obtain ⟨kr3, kp3⟩ := HX.out _ hb3)
    | (go_at_call 6
       refine (HK.out _ hb3).mono ?_
       rintro e w4 ⟨rfl, hb4x⟩
       have hb4 := hb3.trans (hb4x.mono hb3.size)
       obtain ⟨kr4, kp4⟩ := HX.out _ hb4)
    | (go_at_call 7
       refine (HP.out _ hb4).mono ?_
       rintro e w4 ⟨rfl, rfl⟩))
  have hbw4 := hbW0.trans (hb4.mono hbW0.size)
  clear HL HM HR HK HP hb1x hb1 hb2x hb2 hb3x hb3 hb4x hb0 kr0 kp0 kr2 kp2 kr3 kp3 hk1
  go_upto_region 4 with (first
    | (go_at_call 9
       refine (HIO.out _ hb4).mono ?_
       rintro e w5 ⟨g, rfl, hI5, hb5⟩))
  have hb05 := hb4.trans (hb5.mono hb4.size)
  have hbw5 := hbW0.trans (hb05.mono hbW0.size)
  obtain ⟨kr5, kp5⟩ := HX.out _ hb05
  have hWB : W0.heap.size ≤ w4.heap.size := hb4.size
  clear kr4 kp4 hb5 HIO hb4 hbw4
  generalize w4.heap.size = B at *
  go_upto_region 5 with (first
    | (go_at_call 10
       refine (HV0.out _ _ w5 hbw5 hI5).mono ?_
       rintro e w6 ⟨Ap, np, cp, rfl, hP6, hb6⟩))
  have hb06 := hb05.trans (hb6.mono hb05.size)
  have hbw6 := hbW0.trans (hb06.mono hbW0.size)
  have hI6 := hI5.below hb6
  obtain ⟨kr6, kp6⟩ := HX.out _ hb06
  clear kr5 kp5 hI5 hb6 hb05 hbw5 HV0
  go_wp2_with (first
    | (go_at_call 12
       refine (HMs.out _ _ _ hbw6 hI6).mono ?_
       rintro e w7 ⟨A7, n7, c7, rfl, hT7, hb7⟩
       have hb07 := hb06.trans (hb7.mono hb06.size)
       have hI7 := hI6.below hb7
       have hP7 := hP6.below hb7)
    | (go_at_call 11
       refine (HAm.out _ _ _ _ hT7).mono ?_
       rintro e w7 ⟨rfl, rfl⟩))
  clear kr6 kp6 hI6 hb06 hbw6
  go_loopw [11] (fun v wr => ∃ i : Nat, i ≤ n3 ∧ v = .int .i64 (i : Int) ∧ IdxB wr B g (putsX X (m.take i)) ∧ NewP wr 0 Ap np cp [] ∧ Below W0.heap.size W0 wr) (fun v _ => n3 - (RowKit.intOf v).toNat)
  case atStart => exact ⟨0, Nat.zero_le _, rfl, hI7, hP7, hb07⟩
  case round =>
    obtain ⟨i, hi, rfl, hI, hPa, hb⟩ := hrel
    have hbs := hb.size
    clear hI7 hP7 hb07
    by_cases hlt : i < n3
    · obtain ⟨ad, y, A', n', c', rfl, hbl, hx, hss, d1, d2⟩ := PIn.at_ Hm.out hlt
      have hq := Hms.out y (List.mem_of_getElem? hx)
      have hst := putsX_take (l := X) hx
      have hr := Hr.out i
      have hYl := Hl.out i
      obtain ⟨x, bd⟩ := y
      simp only [] at d1 d2 hq hst
      have hrdw : Reads w w.heap.size 1 A' n' (bcs bd) := hss
      have Hrd := hide (fun (wx : World) (hbx : Below W0.heap.size W0 wx) => hrdw.below (hbW0.trans (hbx.mono hbW0.size)))
      have Hc := hide (fun (wx : World) (hby : Below W0.heap.size W0 wx) => (fun hbx : Below w.heap.size w wx => And.intro ((hbx.cell (p := ad.add (i * 2)) (by rw [block_of_add]; exact hbl)).trans d1) ((hbx.cell (p := ⟨(ad.add (i * 2)).block, (ad.add (i * 2)).off + 1, none⟩) (by simp only [block_of_add]; exact hbl)).trans d2)) (hbW0.trans (hby.mono hbW0.size)))
      have hx9 : x.size ≤ 1000000000 := by omega
      have hi1 : (0 : Int) ≤ (i : Int) := by omega
      have hi2 : (i : Int) < (n3 : Int) := by omega
      have Hst := hide hst
      generalize putsX X (m.take i) = Y at *
      have HPt := hide (fun (wx : World) (hI9 : IdxB wx B g Y) (hr9 : Reads wx B 1 A' n' (bcs bd)) => putW_any x bd A' n' c' hI9 hr (by omega) hr9 hx9)
      have hde := hI.below (drew_b wr)
      have hBle := hde.le
      have hrdd := (Hrd.out wr.drew hb.drew).more (Nat.le_trans hbW0.size hWB)
      have hcc := Hc.out wr.drew hb.drew
      have hPd := hPa.below (drew_b wr)
      generalize errX Y x bd = ec at *
      generalize putX Y x bd = Y2 at *
      clear hr hss hx d1 d2 hst hx9 hq hrdw Hms Hr Hl HX Hlen Hm HV1 HW hI hPa hYl
      go_upto_region 10 with fail
      go_region_held3 (fun w' => w'.cell? (ad.add (i * 2)) = some (.string x) ∧ w'.cell? ⟨(ad.add (i * 2)).block, (ad.add (i * 2)).off + 1, none⟩ = some (.slice A' n' c')) (first | exact Hc.out w9 hbk9 | exact hcc | go_keep)
        (first
          | (go_at_call 14
             refine (HPt.out _ hde hrdd).mono ?_
             rintro e w9 ⟨rfl, hI9, hW9⟩
             have hbk9 : Below W0.heap.size W0 w9 := hb.drew.trans ((hW9.below hBle).mono hWB)
             have hPa9 := newP_put hW9 hPd))
      go_wp2
      go_roundw
      case rel => exact ⟨i + 1, by omega, by go_num, by rw [Hst.out]; exact hI9, hPa9, hbk9⟩
      case measure => simp [RowKit.intOf]; omega
    · have hi2 : i = n3 := by omega
      rw [List.take_of_length_le (by rw [Hlen.out]; omega)] at hI
      have hbw := hbW0.trans (hb.mono hbW0.size)
      obtain ⟨kr8, kp8⟩ := HX.out _ hb
      clear Hms Hr Hl Hlen Hm
      subst hi2
      generalize putsX X m = Z at *
      go_upto_region 12 with (first
        | (go_at_call 10
           refine (HV1.out _ _ wr hbw hI).mono ?_
           rintro e V ⟨Aq, nq, cq, rfl, hQV, hbV⟩))
      have hb0V := hb.trans (hbV.mono hbs)
      have hbwV := hbW0.trans (hb0V.mono hbW0.size)
      have hIV := hI.below hbV
      have hPV := hPa.below hbV
      obtain ⟨krV, kpV⟩ := HX.out V hb0V
      clear kr8 kp8 hI hPa hb hbs hbw hbV HV1
      go_wp2_with (first
        | (go_at_call 8
           refine (HW.out _ hbwV).mono ?_
           rintro e w9 ⟨rfl, hb9⟩
           have hbz := hbwV.trans (hb9.mono hbwV.size)))
      go_ret
      exact ⟨rfl, hbz⟩
set_option maxHeartbeats 16000000 in
set_option maxRecDepth 100000 in
theorem pholds_other1 (SV : SpecSolve) (SS : SpecSol) (h : EnOn w A0 n0 l) (hm : EnOn w A3 n3 m) (h' : NdOn w A1 n1 root) (h'' : PkOn w A2 n2 p) (hc : n2 ≤ c2) (hT : Units w) (g1 : largeE l = false) (g2 : largeE m = false) (g3 : large root = false) (g4 : okS root = true) (g5 : largeP p = false) (t : Plain.Told) (hsv : solveX (putsX [] l) root 2000 = t) (hsv2 : (∃ z, t = .broken z) ∨ t = .spent) (hs2 : solveX (putsX (putsX [] l) m) root 2000 = .nothing) :
    Calls Tryz.prog 3 #[.slice A0 n0 c0, .slice A3 n3 c3, .agg #[.slice A1 n1 c1, .slice A2 n2 c2]] w fun e w' => e = .returned (.bool true) ∧ Below w.heap.size w w' := by
  obtain ⟨h30, hs⟩ := fineE_of g1
  obtain ⟨hm30, hms⟩ := fineE_of g2
  obtain ⟨hp60, hp200⟩ := largeP_no g5
  have hn0 : n0 ≤ 30 := by rw [← h.len]; exact h30
  have hn3 : n3 ≤ 30 := by rw [← hm.len]; exact hm30
  have hn2 : n2 ≤ 60 := by rw [← h''.len]; exact hp60
  have hfn := fine_of g3
  have hn40 : n1 ≤ 40 := by rw [← h'.len]; exact hfn.1
  obtain ⟨W0, hW0⟩ : ∃ W0, W0 = w.alloc (.cells #[.slice A1 n1 c1, .slice A2 n2 c2] 26) := ⟨_, rfl⟩
  have hbW0 : Below w.heap.size w W0 := by rw [hW0]; exact alloc_b w _
  have hBc : Blk W0 w.heap.size 26 #[.slice A1 n1 c1, .slice A2 n2 c2] := by rw [hW0]; exact Blk.new w _ _
  have HX := hide (fun wx (hx : Below W0.heap.size W0 wx) => (⟨((hBc.below hx hBc.lt).cell 0).trans rfl, ((hBc.below hx hBc.lt).cell 1).trans rfl⟩ :
    wx.cell? ⟨w.heap.size, 0, none⟩ = some (Value.slice A1 n1 c1) ∧ wx.cell? ⟨w.heap.size, 1, none⟩ = some (Value.slice A2 n2 c2)))
  have HW := hide (fun wx (hx : Below w.heap.size w wx) => awakeP_any SV wx)
  unfold Tells at HW
  have HL := hide (fun (wx : World) (hb : Below W0.heap.size W0 wx) => largeE_any l A0 n0 c0 wx (h.on (hbW0.trans (hb.mono hbW0.size))) (by omega))
  have HM := hide (fun (wx : World) (hb : Below W0.heap.size W0 wx) => largeE_any m A3 n3 c3 wx (hm.on (hbW0.trans (hb.mono hbW0.size))) (by omega))
  unfold Tells at HL HM
  have HR := hide (fun (wx : World) (hb : Below W0.heap.size W0 wx) => large_any root A1 n1 c1 wx (h'.on (hbW0.trans (hb.mono hbW0.size))) (by omega))
  have HP := hide (fun (wx : World) (hb : Below W0.heap.size W0 wx) => largeP_any p A2 n2 c2 wx (h''.on (hbW0.trans (hb.mono hbW0.size))) (by omega))
  have HK := hide (fun (wx : World) (hb : Below W0.heap.size W0 wx) => refCheckN_any root A1 n1 c1 wx (h'.on (hbW0.trans (hb.mono hbW0.size))) (namesH9 hfn) (by omega))
  have hr9 : ∀ q ∈ root, q.1.size ≤ 100 := fun q hq => (hfn.2 q hq).1
  rw [g1] at HL
  rw [g2] at HM
  rw [g3] at HR
  rw [g4] at HK
  rw [g5] at HP
  obtain ⟨hr, hf, hsh, hXl⟩ := take_bounds l l.length h30 hs
  rw [List.take_of_length_le (Nat.le_refl _)] at hr hf hsh hXl
  have hset : SetX (putsX [] l) := SetX.nil.puts l
  have hver : VerX (putsX [] l) := VerX.nil.puts l
  have HIO := hide (fun (wx : World) (hb : Below W0.heap.size W0 wx) => indexOf_any l A0 n0 c0 wx (h.on (hbW0.trans (hb.mono hbW0.size))) (by omega) fun e he => by have := hs e he; omega)
  generalize putsX [] l = X at *
  have HAP := hide (fun (Y : List Kn) (g B : Nat) (wx : World) (hb : Below w.heap.size w wx) (hI : IdxB wx B g Y) (hfY : FineX Y) (hsY : SetX Y) (hvY : VerX Y) (hlY : Y.length ≤ 100) =>
    SV Y root 2000 (.pointer (some ⟨g, 0, none⟩)) A1 n1 c1 wx ⟨⟨⟨_, rfl⟩, tells_idx hI hfY⟩, hfY, hsY, hvY, hlY, h'.on hb, hn40, g4, hr9⟩ (by omega) (by omega))
  rw [show (2000 : Int).toNat = 2000 from rfl] at HAP
  have HASK := hide (fun (Y : List Kn) (q : List Pk) (g B : Nat) (Aq : Option Addr) (nq cq : Nat) (wx : World) (hb : Below w.heap.size w wx) (hI : IdxB wx B g Y) (hfY : FineX Y) (hsY : SetX Y) (hlY : Y.length ≤ 100) (hq : PkOn wx Aq nq q) (hqc : nq ≤ cq) (hqn : nq ≤ 60) (hq2 : ∀ z ∈ q, z.1.size ≤ 200) =>
    SS Y root q (.pointer (some ⟨g, 0, none⟩)) A1 n1 c1 Aq nq cq wx ⟨⟨⟨_, rfl⟩, tells_idx hI hfY⟩, hfY, hsY, hlY, h'.on hb, hn40, g4, hr9, hq, hqc, hqn, hq2, hT.below hb⟩)
  have hml := hm.len
  have Hr := hide (fun i => putsX_rises hr (m.take i))
  have Hl := hide (fun i => (show (putsX X (m.take i)).length ≤ 100 by
    have h1 := putsX_len X (m.take i)
    have h2 : (m.take i).length ≤ m.length := by rw [List.length_take]; omega
    omega))
  have hXl2 : (putsX X m).length ≤ 100 := by have h1 := putsX_len X m; omega
  have hfm := hf.puts m
  have hsm := hset.puts m
  have hvm := hver.puts m
  have HV0 := hide (fun (g B : Nat) (wx : World) (hb : Below w.heap.size w wx) (hI : IdxB wx B g X) => HAP.out X g B wx hb hI hf hset hver (by omega))
  have HV1 := hide (fun (g B : Nat) (wx : World) (hb : Below w.heap.size w wx) (hI : IdxB wx B g (putsX X m)) => HAP.out (putsX X m) g B wx hb hI hfm hsm hvm hXl2)
  unfold Solves at HV0 HV1
  have hPk := h''
  have hK : ((kindT t == 1) = false ∧ (kindT t == 2) = false) ∧ (kindT t == 3) = false := by
    rcases hsv2 with ⟨z, rfl⟩ | rfl <;> exact ⟨⟨rfl, rfl⟩, rfl⟩
  obtain ⟨⟨hK1, hK2⟩, hK3⟩ := hK
  have hpq : picksT t = [] := by rcases hsv2 with ⟨z, rfl⟩ | rfl <;> rfl
  rw [hsv, hpq] at HV0
  generalize kindT t = K at *
  generalize nameT t = N0 at *
  clear hsv hsv2 hpq
  rw [hs2] at HV1
  simp only [kindT, nameT, picksT] at HV1
  have hSm : solX (putsX X m) root p = false := solve_nothing hsm g4 hs2 p
  have HSN := hide (fun (g B : Nat) (wx : World) (hb : Below w.heap.size w wx) (hI : IdxB wx B g (putsX X m)) => HASK.out (putsX X m) p g B A2 n2 c2 wx hb hI hfm hsm hXl2 (hPk.on hb) hc hn2 hp200)
  rw [hSm] at HSN
  clear hs2 hSm
  have Hms := hide hms
  have Hlen := hide hml
  have Hm := hide hm
  clear h hm h' h'' hPk hs hms hp200 hr9 hr hf hsh hset hver hT g1 g2 g3 g4 g5 HASK HAP h30 hm30 hp60 hml hXl2 hfm hsm hvm SV SS hfn
  go_enter Tryz.func3, Tryz.ntmps3
  go_upto_region 1 with fail
  rw [← hW0]
  have hb0 : Below W0.heap.size W0 W0 := Below.refl _ _
  obtain ⟨kr0, kp0⟩ := HX.out _ hb0
  clear hW0 hBc
  generalize w.heap.size = gb at HX kr0 kp0 ⊢
  go_upto_region 3 with (first
    | (go_at_call_of 4 (Value.slice A3 n3 c3)
       have hdone := hb1
       refine (HM.out _ hb1).mono ?_
       rintro e w2 ⟨rfl, hb2x⟩
       have hb2 := hb1.trans (hb2x.mono hb1.size)
       obtain ⟨kr2, kp2⟩ := HX.out _ hb2)
    | (go_at_call_of 4 (Value.slice A0 n0 c0)
       refine (HL.out _ hb0).mono ?_
       rintro e w1 ⟨rfl, hb1x⟩
       have hb1 := hb0.trans (hb1x.mono hb0.size)
       have hk1 := HX.out _ hb1)
    | (go_at_call 5
       refine (HR.out _ hb2).mono ?_
       rintro e w3 ⟨rfl, hb3x⟩
       have hb3 := hb2.trans (hb3x.mono hb2.size)
       obtain ⟨kr3, kp3⟩ := HX.out _ hb3)
    | (go_at_call 6
       refine (HK.out _ hb3).mono ?_
       rintro e w4 ⟨rfl, hb4x⟩
       have hb4 := hb3.trans (hb4x.mono hb3.size)
       obtain ⟨kr4, kp4⟩ := HX.out _ hb4)
    | (go_at_call 7
       refine (HP.out _ hb4).mono ?_
       rintro e w4 ⟨rfl, rfl⟩))
  have hbw4 := hbW0.trans (hb4.mono hbW0.size)
  clear HL HM HR HK HP hb1x hb1 hb2x hb2 hb3x hb3 hb4x hb0 kr0 kp0 kr2 kp2 kr3 kp3 hk1
  go_upto_region 4 with (first
    | (go_at_call 9
       refine (HIO.out _ hb4).mono ?_
       rintro e w5 ⟨g, rfl, hI5, hb5⟩))
  have hb05 := hb4.trans (hb5.mono hb4.size)
  have hbw5 := hbW0.trans (hb05.mono hbW0.size)
  obtain ⟨kr5, kp5⟩ := HX.out _ hb05
  have hWB : W0.heap.size ≤ w4.heap.size := hb4.size
  clear kr4 kp4 hb5 HIO hb4 hbw4
  generalize w4.heap.size = B at *
  go_upto_region 5 with (first
    | (go_at_call 10
       refine (HV0.out _ _ w5 hbw5 hI5).mono ?_
       rintro e w6 ⟨Ap, np, cp, rfl, hP6, hb6⟩))
  have hb06 := hb05.trans (hb6.mono hb05.size)
  have hbw6 := hbW0.trans (hb06.mono hbW0.size)
  have hI6 := hI5.below hb6
  obtain ⟨kr6, kp6⟩ := HX.out _ hb06
  clear kr5 kp5 hI5 hb6 hb05 hbw5 HV0
  go_wp2
  have hb07 := hb06
  have hI7 := hI6
  have hP7 := hP6
  clear kr6 kp6 hI6 hb06 hbw6
  go_loopw [11] (fun v wr => ∃ i : Nat, i ≤ n3 ∧ v = .int .i64 (i : Int) ∧ IdxB wr B g (putsX X (m.take i)) ∧ NewP wr 0 Ap np cp [] ∧ Below W0.heap.size W0 wr) (fun v _ => n3 - (RowKit.intOf v).toNat)
  case atStart => exact ⟨0, Nat.zero_le _, rfl, hI7, hP7, hb07⟩
  case round =>
    obtain ⟨i, hi, rfl, hI, hPa, hb⟩ := hrel
    have hbs := hb.size
    clear hI7 hP7 hb07
    by_cases hlt : i < n3
    · obtain ⟨ad, y, A', n', c', rfl, hbl, hx, hss, d1, d2⟩ := PIn.at_ Hm.out hlt
      have hq := Hms.out y (List.mem_of_getElem? hx)
      have hst := putsX_take (l := X) hx
      have hr := Hr.out i
      have hYl := Hl.out i
      obtain ⟨x, bd⟩ := y
      simp only [] at d1 d2 hq hst
      have hrdw : Reads w w.heap.size 1 A' n' (bcs bd) := hss
      have Hrd := hide (fun (wx : World) (hbx : Below W0.heap.size W0 wx) => hrdw.below (hbW0.trans (hbx.mono hbW0.size)))
      have Hc := hide (fun (wx : World) (hby : Below W0.heap.size W0 wx) => (fun hbx : Below w.heap.size w wx => And.intro ((hbx.cell (p := ad.add (i * 2)) (by rw [block_of_add]; exact hbl)).trans d1) ((hbx.cell (p := ⟨(ad.add (i * 2)).block, (ad.add (i * 2)).off + 1, none⟩) (by simp only [block_of_add]; exact hbl)).trans d2)) (hbW0.trans (hby.mono hbW0.size)))
      have hx9 : x.size ≤ 1000000000 := by omega
      have hi1 : (0 : Int) ≤ (i : Int) := by omega
      have hi2 : (i : Int) < (n3 : Int) := by omega
      have Hst := hide hst
      generalize putsX X (m.take i) = Y at *
      have HPt := hide (fun (wx : World) (hI9 : IdxB wx B g Y) (hr9 : Reads wx B 1 A' n' (bcs bd)) => putW_any x bd A' n' c' hI9 hr (by omega) hr9 hx9)
      have hde := hI.below (drew_b wr)
      have hBle := hde.le
      have hrdd := (Hrd.out wr.drew hb.drew).more (Nat.le_trans hbW0.size hWB)
      have hcc := Hc.out wr.drew hb.drew
      have hPd := hPa.below (drew_b wr)
      generalize errX Y x bd = ec at *
      generalize putX Y x bd = Y2 at *
      clear hr hss hx d1 d2 hst hx9 hq hrdw Hms Hr Hl HX Hlen Hm HV1 HW hI hPa hYl
      go_upto_region 10 with fail
      go_region_held3 (fun w' => w'.cell? (ad.add (i * 2)) = some (.string x) ∧ w'.cell? ⟨(ad.add (i * 2)).block, (ad.add (i * 2)).off + 1, none⟩ = some (.slice A' n' c')) (first | exact Hc.out w9 hbk9 | exact hcc | go_keep)
        (first
          | (go_at_call 14
             refine (HPt.out _ hde hrdd).mono ?_
             rintro e w9 ⟨rfl, hI9, hW9⟩
             have hbk9 : Below W0.heap.size W0 w9 := hb.drew.trans ((hW9.below hBle).mono hWB)
             have hPa9 := newP_put hW9 hPd))
      go_wp2
      go_roundw
      case rel => exact ⟨i + 1, by omega, by go_num, by rw [Hst.out]; exact hI9, hPa9, hbk9⟩
      case measure => simp [RowKit.intOf]; omega
    · have hi2 : i = n3 := by omega
      rw [List.take_of_length_le (by rw [Hlen.out]; omega)] at hI
      have hbw := hbW0.trans (hb.mono hbW0.size)
      obtain ⟨kr8, kp8⟩ := HX.out _ hb
      clear Hms Hr Hl Hlen Hm
      subst hi2
      generalize putsX X m = Z at *
      go_upto_region 12 with (first
        | (go_at_call 10
           refine (HV1.out _ _ wr hbw hI).mono ?_
           rintro e V ⟨Aq, nq, cq, rfl, hQV, hbV⟩))
      have hb0V := hb.trans (hbV.mono hbs)
      have hbwV := hbW0.trans (hb0V.mono hbW0.size)
      have hIV := hI.below hbV
      have hPV := hPa.below hbV
      obtain ⟨krV, kpV⟩ := HX.out V hb0V
      clear kr8 kp8 hI hPa hb hbs hbw hbV HV1
      go_wp2_with (first
        | (go_at_call 13
           refine (HSN.out _ _ _ hbwV hIV).mono ?_
           rintro e wS ⟨rfl, hbS⟩
           have hbwS := hbwV.trans (hbS.mono hbwV.size)
           have hIS := hIV.below hbS
           obtain ⟨krS, kpS⟩ := HX.out wS (hb0V.trans (hbS.mono hb0V.size)))
        | (go_at_call 8
           refine (HW.out _ hbwS).mono ?_
           rintro e w9 ⟨rfl, hb9⟩
           have hbz := hbwS.trans (hb9.mono hbwS.size)))
      go_ret
      exact ⟨rfl, hbz⟩
set_option maxHeartbeats 16000000 in
set_option maxRecDepth 100000 in
theorem pholds_other2 (SV : SpecSolve) (SS : SpecSol) (h : EnOn w A0 n0 l) (hm : EnOn w A3 n3 m) (h' : NdOn w A1 n1 root) (h'' : PkOn w A2 n2 p) (hc : n2 ≤ c2) (hT : Units w) (g1 : largeE l = false) (g2 : largeE m = false) (g3 : large root = false) (g4 : okS root = true) (g5 : largeP p = false) (t : Plain.Told) (hsv : solveX (putsX [] l) root 2000 = t) (hsv2 : (∃ z, t = .broken z) ∨ t = .spent) (hs2 : solveX (putsX (putsX [] l) m) root 2000 ≠ .nothing) :
    Calls Tryz.prog 3 #[.slice A0 n0 c0, .slice A3 n3 c3, .agg #[.slice A1 n1 c1, .slice A2 n2 c2]] w fun e w' => e = .returned (.bool true) ∧ Below w.heap.size w w' := by
  obtain ⟨h30, hs⟩ := fineE_of g1
  obtain ⟨hm30, hms⟩ := fineE_of g2
  obtain ⟨hp60, hp200⟩ := largeP_no g5
  have hn0 : n0 ≤ 30 := by rw [← h.len]; exact h30
  have hn3 : n3 ≤ 30 := by rw [← hm.len]; exact hm30
  have hn2 : n2 ≤ 60 := by rw [← h''.len]; exact hp60
  have hfn := fine_of g3
  have hn40 : n1 ≤ 40 := by rw [← h'.len]; exact hfn.1
  obtain ⟨W0, hW0⟩ : ∃ W0, W0 = w.alloc (.cells #[.slice A1 n1 c1, .slice A2 n2 c2] 26) := ⟨_, rfl⟩
  have hbW0 : Below w.heap.size w W0 := by rw [hW0]; exact alloc_b w _
  have hBc : Blk W0 w.heap.size 26 #[.slice A1 n1 c1, .slice A2 n2 c2] := by rw [hW0]; exact Blk.new w _ _
  have HX := hide (fun wx (hx : Below W0.heap.size W0 wx) => (⟨((hBc.below hx hBc.lt).cell 0).trans rfl, ((hBc.below hx hBc.lt).cell 1).trans rfl⟩ :
    wx.cell? ⟨w.heap.size, 0, none⟩ = some (Value.slice A1 n1 c1) ∧ wx.cell? ⟨w.heap.size, 1, none⟩ = some (Value.slice A2 n2 c2)))
  have HW := hide (fun wx (hx : Below w.heap.size w wx) => awakeP_any SV wx)
  unfold Tells at HW
  have HL := hide (fun (wx : World) (hb : Below W0.heap.size W0 wx) => largeE_any l A0 n0 c0 wx (h.on (hbW0.trans (hb.mono hbW0.size))) (by omega))
  have HM := hide (fun (wx : World) (hb : Below W0.heap.size W0 wx) => largeE_any m A3 n3 c3 wx (hm.on (hbW0.trans (hb.mono hbW0.size))) (by omega))
  unfold Tells at HL HM
  have HR := hide (fun (wx : World) (hb : Below W0.heap.size W0 wx) => large_any root A1 n1 c1 wx (h'.on (hbW0.trans (hb.mono hbW0.size))) (by omega))
  have HP := hide (fun (wx : World) (hb : Below W0.heap.size W0 wx) => largeP_any p A2 n2 c2 wx (h''.on (hbW0.trans (hb.mono hbW0.size))) (by omega))
  have HK := hide (fun (wx : World) (hb : Below W0.heap.size W0 wx) => refCheckN_any root A1 n1 c1 wx (h'.on (hbW0.trans (hb.mono hbW0.size))) (namesH9 hfn) (by omega))
  have hr9 : ∀ q ∈ root, q.1.size ≤ 100 := fun q hq => (hfn.2 q hq).1
  rw [g1] at HL
  rw [g2] at HM
  rw [g3] at HR
  rw [g4] at HK
  rw [g5] at HP
  obtain ⟨hr, hf, hsh, hXl⟩ := take_bounds l l.length h30 hs
  rw [List.take_of_length_le (Nat.le_refl _)] at hr hf hsh hXl
  have hset : SetX (putsX [] l) := SetX.nil.puts l
  have hver : VerX (putsX [] l) := VerX.nil.puts l
  have HIO := hide (fun (wx : World) (hb : Below W0.heap.size W0 wx) => indexOf_any l A0 n0 c0 wx (h.on (hbW0.trans (hb.mono hbW0.size))) (by omega) fun e he => by have := hs e he; omega)
  generalize putsX [] l = X at *
  have HAP := hide (fun (Y : List Kn) (g B : Nat) (wx : World) (hb : Below w.heap.size w wx) (hI : IdxB wx B g Y) (hfY : FineX Y) (hsY : SetX Y) (hvY : VerX Y) (hlY : Y.length ≤ 100) =>
    SV Y root 2000 (.pointer (some ⟨g, 0, none⟩)) A1 n1 c1 wx ⟨⟨⟨_, rfl⟩, tells_idx hI hfY⟩, hfY, hsY, hvY, hlY, h'.on hb, hn40, g4, hr9⟩ (by omega) (by omega))
  rw [show (2000 : Int).toNat = 2000 from rfl] at HAP
  have HASK := hide (fun (Y : List Kn) (q : List Pk) (g B : Nat) (Aq : Option Addr) (nq cq : Nat) (wx : World) (hb : Below w.heap.size w wx) (hI : IdxB wx B g Y) (hfY : FineX Y) (hsY : SetX Y) (hlY : Y.length ≤ 100) (hq : PkOn wx Aq nq q) (hqc : nq ≤ cq) (hqn : nq ≤ 60) (hq2 : ∀ z ∈ q, z.1.size ≤ 200) =>
    SS Y root q (.pointer (some ⟨g, 0, none⟩)) A1 n1 c1 Aq nq cq wx ⟨⟨⟨_, rfl⟩, tells_idx hI hfY⟩, hfY, hsY, hlY, h'.on hb, hn40, g4, hr9, hq, hqc, hqn, hq2, hT.below hb⟩)
  have hml := hm.len
  have Hr := hide (fun i => putsX_rises hr (m.take i))
  have Hl := hide (fun i => (show (putsX X (m.take i)).length ≤ 100 by
    have h1 := putsX_len X (m.take i)
    have h2 : (m.take i).length ≤ m.length := by rw [List.length_take]; omega
    omega))
  have hXl2 : (putsX X m).length ≤ 100 := by have h1 := putsX_len X m; omega
  have hfm := hf.puts m
  have hsm := hset.puts m
  have hvm := hver.puts m
  have HV0 := hide (fun (g B : Nat) (wx : World) (hb : Below w.heap.size w wx) (hI : IdxB wx B g X) => HAP.out X g B wx hb hI hf hset hver (by omega))
  have HV1 := hide (fun (g B : Nat) (wx : World) (hb : Below w.heap.size w wx) (hI : IdxB wx B g (putsX X m)) => HAP.out (putsX X m) g B wx hb hI hfm hsm hvm hXl2)
  unfold Solves at HV0 HV1
  have hPk := h''
  have hK : ((kindT t == 1) = false ∧ (kindT t == 2) = false) ∧ (kindT t == 3) = false := by
    rcases hsv2 with ⟨z, rfl⟩ | rfl <;> exact ⟨⟨rfl, rfl⟩, rfl⟩
  obtain ⟨⟨hK1, hK2⟩, hK3⟩ := hK
  have hpq : picksT t = [] := by rcases hsv2 with ⟨z, rfl⟩ | rfl <;> rfl
  rw [hsv, hpq] at HV0
  generalize kindT t = K at *
  generalize nameT t = N0 at *
  clear hsv hsv2 hpq
  have hk2 : (kindT (solveX (putsX X m) root 2000) != 2) = true := by
    cases e : solveX (putsX X m) root 2000 with
    | nothing => exact absurd e hs2
    | found _ => rfl
    | lacks _ => rfl
    | broken _ => rfl
    | spent => rfl
  clear hs2
  generalize kindT (solveX (putsX X m) root 2000) = K2 at *
  generalize nameT (solveX (putsX X m) root 2000) = N2 at *
  generalize picksT (solveX (putsX X m) root 2000) = P2 at *
  have Hms := hide hms
  have Hlen := hide hml
  have Hm := hide hm
  clear h hm h' h'' hPk hs hms hp200 hr9 hr hf hsh hset hver hT g1 g2 g3 g4 g5 HASK HAP h30 hm30 hp60 hml hXl2 hfm hsm hvm SV SS hfn
  go_enter Tryz.func3, Tryz.ntmps3
  go_upto_region 1 with fail
  rw [← hW0]
  have hb0 : Below W0.heap.size W0 W0 := Below.refl _ _
  obtain ⟨kr0, kp0⟩ := HX.out _ hb0
  clear hW0 hBc
  generalize w.heap.size = gb at HX kr0 kp0 ⊢
  go_upto_region 3 with (first
    | (go_at_call_of 4 (Value.slice A3 n3 c3)
       have hdone := hb1
       refine (HM.out _ hb1).mono ?_
       rintro e w2 ⟨rfl, hb2x⟩
       have hb2 := hb1.trans (hb2x.mono hb1.size)
       obtain ⟨kr2, kp2⟩ := HX.out _ hb2)
    | (go_at_call_of 4 (Value.slice A0 n0 c0)
       refine (HL.out _ hb0).mono ?_
       rintro e w1 ⟨rfl, hb1x⟩
       have hb1 := hb0.trans (hb1x.mono hb0.size)
       have hk1 := HX.out _ hb1)
    | (go_at_call 5
       refine (HR.out _ hb2).mono ?_
       rintro e w3 ⟨rfl, hb3x⟩
       have hb3 := hb2.trans (hb3x.mono hb2.size)
       obtain ⟨kr3, kp3⟩ := HX.out _ hb3)
    | (go_at_call 6
       refine (HK.out _ hb3).mono ?_
       rintro e w4 ⟨rfl, hb4x⟩
       have hb4 := hb3.trans (hb4x.mono hb3.size)
       obtain ⟨kr4, kp4⟩ := HX.out _ hb4)
    | (go_at_call 7
       refine (HP.out _ hb4).mono ?_
       rintro e w4 ⟨rfl, rfl⟩))
  have hbw4 := hbW0.trans (hb4.mono hbW0.size)
  clear HL HM HR HK HP hb1x hb1 hb2x hb2 hb3x hb3 hb4x hb0 kr0 kp0 kr2 kp2 kr3 kp3 hk1
  go_upto_region 4 with (first
    | (go_at_call 9
       refine (HIO.out _ hb4).mono ?_
       rintro e w5 ⟨g, rfl, hI5, hb5⟩))
  have hb05 := hb4.trans (hb5.mono hb4.size)
  have hbw5 := hbW0.trans (hb05.mono hbW0.size)
  obtain ⟨kr5, kp5⟩ := HX.out _ hb05
  have hWB : W0.heap.size ≤ w4.heap.size := hb4.size
  clear kr4 kp4 hb5 HIO hb4 hbw4
  generalize w4.heap.size = B at *
  go_upto_region 5 with (first
    | (go_at_call 10
       refine (HV0.out _ _ w5 hbw5 hI5).mono ?_
       rintro e w6 ⟨Ap, np, cp, rfl, hP6, hb6⟩))
  have hb06 := hb05.trans (hb6.mono hb05.size)
  have hbw6 := hbW0.trans (hb06.mono hbW0.size)
  have hI6 := hI5.below hb6
  obtain ⟨kr6, kp6⟩ := HX.out _ hb06
  clear kr5 kp5 hI5 hb6 hb05 hbw5 HV0
  go_wp2
  have hb07 := hb06
  have hI7 := hI6
  have hP7 := hP6
  clear kr6 kp6 hI6 hb06 hbw6
  go_loopw [11] (fun v wr => ∃ i : Nat, i ≤ n3 ∧ v = .int .i64 (i : Int) ∧ IdxB wr B g (putsX X (m.take i)) ∧ NewP wr 0 Ap np cp [] ∧ Below W0.heap.size W0 wr) (fun v _ => n3 - (RowKit.intOf v).toNat)
  case atStart => exact ⟨0, Nat.zero_le _, rfl, hI7, hP7, hb07⟩
  case round =>
    obtain ⟨i, hi, rfl, hI, hPa, hb⟩ := hrel
    have hbs := hb.size
    clear hI7 hP7 hb07
    by_cases hlt : i < n3
    · obtain ⟨ad, y, A', n', c', rfl, hbl, hx, hss, d1, d2⟩ := PIn.at_ Hm.out hlt
      have hq := Hms.out y (List.mem_of_getElem? hx)
      have hst := putsX_take (l := X) hx
      have hr := Hr.out i
      have hYl := Hl.out i
      obtain ⟨x, bd⟩ := y
      simp only [] at d1 d2 hq hst
      have hrdw : Reads w w.heap.size 1 A' n' (bcs bd) := hss
      have Hrd := hide (fun (wx : World) (hbx : Below W0.heap.size W0 wx) => hrdw.below (hbW0.trans (hbx.mono hbW0.size)))
      have Hc := hide (fun (wx : World) (hby : Below W0.heap.size W0 wx) => (fun hbx : Below w.heap.size w wx => And.intro ((hbx.cell (p := ad.add (i * 2)) (by rw [block_of_add]; exact hbl)).trans d1) ((hbx.cell (p := ⟨(ad.add (i * 2)).block, (ad.add (i * 2)).off + 1, none⟩) (by simp only [block_of_add]; exact hbl)).trans d2)) (hbW0.trans (hby.mono hbW0.size)))
      have hx9 : x.size ≤ 1000000000 := by omega
      have hi1 : (0 : Int) ≤ (i : Int) := by omega
      have hi2 : (i : Int) < (n3 : Int) := by omega
      have Hst := hide hst
      generalize putsX X (m.take i) = Y at *
      have HPt := hide (fun (wx : World) (hI9 : IdxB wx B g Y) (hr9 : Reads wx B 1 A' n' (bcs bd)) => putW_any x bd A' n' c' hI9 hr (by omega) hr9 hx9)
      have hde := hI.below (drew_b wr)
      have hBle := hde.le
      have hrdd := (Hrd.out wr.drew hb.drew).more (Nat.le_trans hbW0.size hWB)
      have hcc := Hc.out wr.drew hb.drew
      have hPd := hPa.below (drew_b wr)
      generalize errX Y x bd = ec at *
      generalize putX Y x bd = Y2 at *
      clear hr hss hx d1 d2 hst hx9 hq hrdw Hms Hr Hl HX Hlen Hm HV1 HW hI hPa hYl
      go_upto_region 10 with fail
      go_region_held3 (fun w' => w'.cell? (ad.add (i * 2)) = some (.string x) ∧ w'.cell? ⟨(ad.add (i * 2)).block, (ad.add (i * 2)).off + 1, none⟩ = some (.slice A' n' c')) (first | exact Hc.out w9 hbk9 | exact hcc | go_keep)
        (first
          | (go_at_call 14
             refine (HPt.out _ hde hrdd).mono ?_
             rintro e w9 ⟨rfl, hI9, hW9⟩
             have hbk9 : Below W0.heap.size W0 w9 := hb.drew.trans ((hW9.below hBle).mono hWB)
             have hPa9 := newP_put hW9 hPd))
      go_wp2
      go_roundw
      case rel => exact ⟨i + 1, by omega, by go_num, by rw [Hst.out]; exact hI9, hPa9, hbk9⟩
      case measure => simp [RowKit.intOf]; omega
    · have hi2 : i = n3 := by omega
      rw [List.take_of_length_le (by rw [Hlen.out]; omega)] at hI
      have hbw := hbW0.trans (hb.mono hbW0.size)
      obtain ⟨kr8, kp8⟩ := HX.out _ hb
      clear Hms Hr Hl Hlen Hm
      subst hi2
      generalize putsX X m = Z at *
      go_upto_region 12 with (first
        | (go_at_call 10
           refine (HV1.out _ _ wr hbw hI).mono ?_
           rintro e V ⟨Aq, nq, cq, rfl, hQV, hbV⟩))
      have hb0V := hb.trans (hbV.mono hbs)
      have hbwV := hbW0.trans (hb0V.mono hbW0.size)
      have hIV := hI.below hbV
      have hPV := hPa.below hbV
      obtain ⟨krV, kpV⟩ := HX.out V hb0V
      clear kr8 kp8 hI hPa hb hbs hbw hbV HV1
      go_wp2_with (first
        | (go_at_call 8
           refine (HW.out _ hbwV).mono ?_
           rintro e w9 ⟨rfl, hb9⟩
           have hbz := hbwV.trans (hb9.mono hbwV.size)))
      go_ret
      exact ⟨rfl, hbz⟩
theorem pholds_walk (SV : SpecSolve) (SS : SpecSol) (h : EnOn w A0 n0 l) (hm : EnOn w A3 n3 m) (h' : NdOn w A1 n1 root) (h'' : PkOn w A2 n2 p) (hn : n0 ≤ 9223372036854775807) (hn' : n1 ≤ 9223372036854775807) (hn'' : n2 ≤ 9223372036854775807) (hn3 : n3 ≤ 9223372036854775807) (hc : n2 ≤ c2) (hT : Units w) :
    Calls Tryz.prog 3 #[.slice A0 n0 c0, .slice A3 n3 c3, .agg #[.slice A1 n1 c1, .slice A2 n2 c2]] w fun e w' => e = .returned (.bool true) ∧ Below w.heap.size w w' := by
  cases hsk : (largeE l || (largeE m || (large root || (!okS root || largeP p)))) with
  | true => exact pholds_skip l m root p A0 A1 A2 A3 n0 c0 n1 c1 n2 c2 n3 c3 w SV h hm h' h'' hn hn' hn'' hn3 hsk
  | false =>
    simp only [Bool.or_eq_false_iff, Bool.not_eq_false'] at hsk
    obtain ⟨g1, g2, g3, g4, g5⟩ := hsk
    cases hsv : solveX (putsX [] l) root 2000 with
    | found q => exact pholds_found l m root p A0 A1 A2 A3 n0 c0 n1 c1 n2 c2 n3 c3 w SV SS h hm h' h'' hc hT g1 g2 g3 g4 g5 q hsv
    | nothing => exact pholds_nothing l m root p A0 A1 A2 A3 n0 c0 n1 c1 n2 c2 n3 c3 w SV SS h hm h' h'' hc hT g1 g2 g3 g4 g5 hsv
    | lacks a =>
      rcases Classical.em (solveX (putsX (putsX [] l) m) root 2000 = .nothing) with hs2 | hs2
      · exact pholds_lacks1 l m root p A0 A1 A2 A3 n0 c0 n1 c1 n2 c2 n3 c3 w SV SS h hm h' h'' hc hT g1 g2 g3 g4 g5 a hsv hs2
      · exact pholds_lacks2 l m root p A0 A1 A2 A3 n0 c0 n1 c1 n2 c2 n3 c3 w SV SS h hm h' h'' hc hT g1 g2 g3 g4 g5 a hsv hs2
    | broken z =>
      rcases Classical.em (solveX (putsX (putsX [] l) m) root 2000 = .nothing) with hs2 | hs2
      · exact pholds_other1 l m root p A0 A1 A2 A3 n0 c0 n1 c1 n2 c2 n3 c3 w SV SS h hm h' h'' hc hT g1 g2 g3 g4 g5 _ hsv (.inl ⟨z, rfl⟩) hs2
      · exact pholds_other2 l m root p A0 A1 A2 A3 n0 c0 n1 c1 n2 c2 n3 c3 w SV SS h hm h' h'' hc hT g1 g2 g3 g4 g5 _ hsv (.inl ⟨z, rfl⟩) hs2
    | spent =>
      rcases Classical.em (solveX (putsX (putsX [] l) m) root 2000 = .nothing) with hs2 | hs2
      · exact pholds_other1 l m root p A0 A1 A2 A3 n0 c0 n1 c1 n2 c2 n3 c3 w SV SS h hm h' h'' hc hT g1 g2 g3 g4 g5 _ hsv (.inr rfl) hs2
      · exact pholds_other2 l m root p A0 A1 A2 A3 n0 c0 n1 c1 n2 c2 n3 c3 w SV SS h hm h' h'' hc hT g1 g2 g3 g4 g5 _ hsv (.inr rfl) hs2
end
end Go.Proofs.YtmoeilkaadnnoaaGreatDoor.Plain
