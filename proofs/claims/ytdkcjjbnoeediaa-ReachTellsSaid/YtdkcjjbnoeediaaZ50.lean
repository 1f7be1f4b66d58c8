/-
  Some texts of this claim, one behind the other: ReachTellsW. What each proves, and its condition, stands at its head.
-/
import Derived.Test.YtdkcjjbnoeediaaZ46
import Derived.Test.YtdkcjjbnoeediaaZ48
import Derived.Test.YtdkcjjbnoeediaaZ49
import Derived.Test.YtdkcjjbnoeediaaZ28
import Derived.Test.YtdkcjjbnoeediaaZ23
/-
  The walk of ReachTells. Condition: the slices read as entries and as needs; lengths as a row bounds them.
-/
namespace Go.Proofs.Ytdkcjjbnoeediaa.Reach
open Go Go.RowKit Go.Lib Go.Sort Go.Proofs.Ytdkcjjbnoeediaa.Span Go.Proofs.Ytdkcjjbnoeediaa.Need Go.Proofs.Ytdkcjjbnoeediaa.Mani Go.Proofs.Ytdkcjjbnoeediaa.Wire Go.Proofs.Ytdkcjjbnoeediaa.Depot Go.Proofs.Ytdkcjjbnoeediaa.Index
set_option linter.unusedVariables false
theorem names9 {l : List Nd} (h : Fine l) : Names9 l := fun q hq => by have := h.2 q hq; omega
set_option maxHeartbeats 4000000 in
set_option maxRecDepth 100000 in
/-- Where the law looks at its example alone. -/
theorem tells_skip (l : List En) (root : List Nd) (A0 A1 : Option Addr) (n0 c0 n1 c1 : Nat) (w : World) (h : EnOn w A0 n0 l) (h' : NdOn w A1 n1 root) (hn : n0 ≤ 9223372036854775807) (hn' : n1 ≤ 9223372036854775807) (hsk : largeE l = true ∨ large root = true ∨ okS root = false) :
    Calls Try.prog 3 #[.slice A0 n0 c0, .slice A1 n1 c1] w fun e w' => e = .returned (.bool true) ∧ Below w.heap.size w w' := by
  have HW := hide (fun wx => awakeR_any wx)
  unfold Tells at HW
  have HL := hide (largeE_any l A0 n0 c0 w h hn)
  have HM := hide (fun (wx : World) (hb : Below w.heap.size w wx) => large_any root A1 n1 c1 wx (h'.on hb) hn')
  unfold Tells at HL
  cases g1 : largeE l with
  | true =>
    rw [g1] at HL
    clear h h' hn hn' hsk HM
    go_enter Try.func3, Try.ntmps3
    go_wp2_with (first
      | (go_at_call 8
         refine (HW.out _).mono ?_
         rintro e w2 ⟨rfl, hb2⟩
         have hbw := hb1.trans (hb2.mono hb1.size))
      | (go_at_call 5
         refine HL.out.mono ?_
         rintro e w1 ⟨rfl, hb1⟩))
    go_ret
    exact ⟨rfl, hbw⟩
  | false =>
    rw [g1] at HL hsk
    cases g2 : large root with
    | true =>
      rw [g2] at HM
      clear h h' hn hn' hsk
      go_enter Try.func3, Try.ntmps3
      go_wp2_with (first
        | (go_at_call 8
           refine (HW.out _).mono ?_
           rintro e w2 ⟨rfl, hb2⟩
           have hbw := hb1.trans (hb2.mono hb1.size))
        | (go_at_call 6
           refine (HM.out _ hb0).mono ?_
           rintro e w1 ⟨rfl, hb1x⟩
           have hb1 := hb0.trans (hb1x.mono hb0.size))
        | (go_at_call 5
           refine HL.out.mono ?_
           rintro e w0 ⟨rfl, hb0⟩))
      go_ret
      exact ⟨rfl, hbw⟩
    | false =>
      rw [g2] at HM hsk
      have hok : okS root = false := by
        rcases hsk with e | e | e
        · cases e
        · cases e
        · exact e
      have hfn := fine_of g2
      have hn40 : n1 ≤ 40 := by rw [← h'.len]; exact hfn.1
      have HK := hide (fun (wx : World) (hb : Below w.heap.size w wx) => refCheckN_any root A1 n1 c1 wx (h'.on hb) (names9 hfn) (by omega))
      rw [hok] at HK
      clear h h' hn hn' hsk hfn hn40
      go_enter Try.func3, Try.ntmps3
      go_wp2_with (first
        | (go_at_call 8
           refine (HW.out _).mono ?_
           rintro e w3 ⟨rfl, hb3⟩
           have hbw := hb2.trans (hb3.mono hb2.size))
        | (go_at_call 7
           refine (HK.out _ hb1).mono ?_
           rintro e w2 ⟨rfl, hb2x⟩
           have hb2 := hb1.trans (hb2x.mono hb1.size))
        | (go_at_call 6
           refine (HM.out _ hb0).mono ?_
           rintro e w1 ⟨rfl, hb1x⟩
           have hb1 := hb0.trans (hb1x.mono hb0.size))
        | (go_at_call 5
           refine HL.out.mono ?_
           rintro e w0 ⟨rfl, hb0⟩))
      go_ret
      exact ⟨rfl, hbw⟩
theorem risesN_of {l : List Nd} (h : okS l = true) : RisesN (namesS l) := List.pairwise_map.2 (okS_parts h).2.2.1
set_option maxHeartbeats 16000000 in
set_option maxRecDepth 100000 in
theorem tells_main (l : List En) (root : List Nd) (A0 A1 : Option Addr) (n0 c0 n1 c1 : Nat) (w : World) (h : EnOn w A0 n0 l) (h' : NdOn w A1 n1 root) (g1 : largeE l = false) (g2 : large root = false) (g3 : okS root = true) :
    Calls Try.prog 3 #[.slice A0 n0 c0, .slice A1 n1 c1] w fun e w' => e = .returned (.bool true) ∧ Below w.heap.size w w' := by
  obtain ⟨h30, hs⟩ := fineE_of g1
  have hfn := fine_of g2
  have hn0 : n0 ≤ 30 := by rw [← h.len]; exact h30
  have hn1 : n1 ≤ 40 := by rw [← h'.len]; exact hfn.1
  have hr9 : ∀ q ∈ root, q.1.size ≤ 100 := fun q hq => (hfn.2 q hq).1
  have hrs := risesN_of g3
  have HW := hide (fun wx => awakeR_any wx)
  unfold Tells at HW
  have HL := hide (largeE_any l A0 n0 c0 w h (by omega))
  have HM := hide (fun (wx : World) (hb : Below w.heap.size w wx) => large_any root A1 n1 c1 wx (h'.on hb) (by omega))
  have HK := hide (fun (wx : World) (hb : Below w.heap.size w wx) => refCheckN_any root A1 n1 c1 wx (h'.on hb) (names9 hfn) (by omega))
  unfold Tells at HL
  rw [g1] at HL
  rw [g2] at HM
  rw [g3] at HK
  obtain ⟨hr, hf, hsh, hXl⟩ := take_bounds l l.length h30 hs
  rw [List.take_of_length_le (Nat.le_refl _)] at hr hf hsh hXl
  have HIO := hide (fun (wx : World) (hb : Below w.heap.size w wx) => indexOf_any l A0 n0 c0 wx (h.on hb) (by omega) fun e he => by have := hs e he; omega)
  have HO := hide (fun (wx : World) (hb : Below w.heap.size w wx) => refOfX_any l A0 n0 c0 wx (h.on hb) (by omega) fun e he => by have := hs e he; omega)
  generalize putsX [] l = X at *
  have HRM := hide (fun (A : Option Addr) (n c : Nat) (wx : World) (hb : Below w.heap.size w wx) (hK : InK wx A n X) => refMissing_any X root A n c A1 n1 c1 wx hK hf (by omega) (h'.on hb) hn1)
  unfold MakesT at HRM
  have Hlm := hide (miss_nil hrs)
  have Hlr := hide h'.len
  have Hx := hide (fun (wx : World) (hb : Below w.heap.size w wx) => h'.on hb)
  clear h30 hs hfn hrs g1 g2 g3 h h' hr hsh
  go_enter Try.func3, Try.ntmps3
  go_upto_region 5 with (first
    | (go_at_call 10
       refine (HO.out _ hbw3).mono ?_
       rintro e w4 ⟨Ay, ny, cy, rfl, hK4, hb4⟩
       have hbw4 := hbw3.trans (hb4.mono hbw3.size)
       have hI4 := hI3.below hb4)
    | (go_at_call 9
       refine (HIO.out _ hbw2).mono ?_
       rintro e w3 ⟨g, rfl, hI3, hb3⟩
       have hbw3 := hbw2.trans (hb3.mono hbw2.size))
    | (go_at_call 7
       refine (HK.out _ hbw1).mono ?_
       rintro e w2 ⟨rfl, hb2⟩
       have hbw2 := hbw1.trans (hb2.mono hbw1.size))
    | (go_at_call 6
       refine (HM.out _ hbw0).mono ?_
       rintro e w1 ⟨rfl, hb1⟩
       have hbw1 := hbw0.trans (hb1.mono hbw0.size))
    | (go_at_call 5
       refine HL.out.mono ?_
       rintro e w0 ⟨rfl, hbw0⟩))
  obtain ⟨W5, hW5⟩ : ∃ W, W = w4.alloc (.cells #[.slice Ay ny cy] 31) := ⟨_, rfl⟩
  have hby : Blk W5 w4.heap.size 31 #[.slice Ay ny cy] := by rw [hW5]; exact Blk.new _ _ _
  have hK5 : InK W5 Ay ny X := by rw [hW5]; exact hK4.below (alloc_b _)
  have hI5 : IdxB W5 w2.heap.size g X := by rw [hW5]; exact hI4.below (alloc_b _)
  have hbw5 : Below w.heap.size w W5 := by rw [hW5]; exact hbw4.alloc hbw4.size _
  have hk5 := (hby.cell 0).trans (show (#[Value.slice Ay ny cy] : Array Value)[0]? = some (.slice Ay ny cy) from rfl)
  rw [← hW5]
  clear hW5 hK4 hI4 hI3 hb3 hb4 hb2 hb1 hbw0 hbw1 hbw2 hbw3 hbw4 HL HM HK HIO HO
  generalize w4.heap.size = gy at *
  go_upto_region 7 with (first
    | (go_at_call 11
       refine (HRM.out _ _ _ _ hbw5 hK5).mono ?_
       rintro e V ⟨Am, nm, cm, rfl, hTm, hbV⟩))
  have hIV := hI5.below hbV
  have hKV := hK5.below hbV
  have hbyV := hby.below hbV hby.lt
  have hbwV := hbw5.trans (hbV.mono hbw5.size)
  have hkV := (hbyV.cell 0).trans (show (#[Value.slice Ay ny cy] : Array Value)[0]? = some (.slice Ay ny cy) from rfl)
  have hNV := Hx.out V hbwV
  have hlm := hTm.len
  have hRl := reachX_len (root := root) hf (by rw [Hlr.out]; exact hn1)
  have hml : (missX X root).length ≤ (reachX X root).length := missL_len X (reachX X root)
  have htx := tells_idx hIV hf
  have HN1 := hide (fun (wx : World) (hb : Below V.heap.size V wx) => reachNames_any X root (.pointer (some ⟨g, 0, none⟩)) A1 n1 c1 wx (htx.on hb) hf (by omega) (hNV.on hb) hn1 hr9)
  have HM1 := hide (fun (wx : World) (hb : Below V.heap.size V wx) => reachMissing_any X root (.pointer (some ⟨g, 0, none⟩)) A1 n1 c1 wx (htx.on hb) hf (by omega) (hNV.on hb) hn1 hr9)
  have HW1 := hide (fun (wx : World) (hb : Below V.heap.size V wx) => reachWhole_any X root (.pointer (some ⟨g, 0, none⟩)) A1 n1 c1 wx (htx.on hb) hf (by omega) (hNV.on hb) hn1 hr9)
  have HN2 := hide (fun (wx : World) (hb : Below V.heap.size V wx) => refReach_any X root Ay ny cy A1 n1 c1 wx (hKV.below hb) hf (by omega) (hNV.on hb) hn1)
  have HM0 := hide (fun (wx : World) (hb : Below V.heap.size V wx) => reachMissing_any [] root (.pointer none) A1 n1 c1 wx (tells_nil wx) FineX.nil (by simp) (hNV.on hb) hn1 hr9)
  have HS1 := hide (fun (A A' : Option Addr) (n c n' c' : Nat) (wx : World) (h : TxOn wx A n (reachX X root)) (h' : TxOn wx A' n' (reachX X root)) => names2_yes (reachX X root) A A' n c n' c' wx h h' (by rw [← h.len]; omega))
  have HS2 := hide (fun (A A' : Option Addr) (n c n' c' : Nat) (wx : World) (h : TxOn wx A n (missX X root)) (h' : TxOn wx A' n' (missX X root)) => names2_yes (missX X root) A A' n c n' c' wx h h' (by rw [← h.len]; omega))
  have He := hide (fun (wx : World) (hb : Below V.heap.size V wx) => (hb.cell (p := ⟨gy, 0, none⟩) hbyV.lt).trans hkV)
  unfold MakesT at HN1 HM1 HN2 HM0
  unfold Tells at HW1 HS1 HS2
  rw [hlm] at HW1
  have hdV : Below V.heap.size V V.drew := (Below.refl _ _).drew
  have hTm1 := hide (fun (wx : World) (hb : Below V.heap.size V wx) => hTm.on hb)
  have hww : (((nm : Int) == 0) == ((nm : Int) == 0)) = true := beq_self_eq_true _
  have hnn : ((n1 : Int) == (n1 : Int)) = true := beq_self_eq_true _
  have Hl0 := hide (fun (A : Option Addr) (n : Nat) (wx : World) (h : TxOn wx A n (missX [] root)) => show n = n1 by rw [← h.len, Hlm.out, Hlr.out])
  clear hIV hKV hbyV hkV hNV hlm hRl hml htx hTm hf hXl hr9 Hlm Hlr Hx HRM hI5 hK5 hby hk5 hbw5 hbV
  generalize reachX X root = R1 at *
  generalize missX X root = R2 at *
  generalize missX [] root = R3 at *
  go_region_held3 (fun w' => w'.cell? ⟨gy, 0, none⟩ = some (.slice Ay ny cy)) (first | exact He.out _ hbk9 | exact He.out _ hbk8 | exact He.out _ hbk7 | exact He.out _ hbk6 | exact He.out _ hbk5 | exact He.out _ hbk4 | exact He.out _ hbk3 | exact He.out _ hbk2 | exact He.out _ hdV | go_keep)
    (first
      | (go_at_call 8
         refine (HW.out _).mono ?_
         rintro e w9 ⟨rfl, hb9⟩
         have hbk9 := hbk8.trans (hb9.mono hbk8.size))
      | (go_at_call_of 15 (Value.pointer none)
         refine (HM0.out _ hbk7).mono ?_
         rintro e w8 ⟨A8, n8, c8, rfl, hT8, hb8⟩
         obtain rfl := Hl0.out _ _ _ hT8
         have hbk8 := hbk7.trans (hb8.mono hbk7.size))
      | (go_at_call 16
         refine (HW1.out _ hbk6).mono ?_
         rintro e w7 ⟨rfl, hb7⟩
         have hbk7 := hbk6.trans (hb7.mono hbk6.size))
      | (go_at_call 12
         refine (HS2.out _ _ _ _ _ _ _ hT5 (hTm1.out _ hbk5)).mono ?_
         rintro e w6 ⟨rfl, hb6⟩
         have hbk6 := hbk5.trans (hb6.mono hbk5.size))
      | (go_at_call 15
         refine (HM1.out _ hbk4).mono ?_
         rintro e w5 ⟨A5, n5, c5, rfl, hT5, hb5⟩
         have hbk5 := hbk4.trans (hb5.mono hbk4.size))
      | (go_at_call 12
         refine (HS1.out _ _ _ _ _ _ _ hT2' hT3).mono ?_
         rintro e w4 ⟨rfl, hb4⟩
         have hbk4 := hbk3.trans (hb4.mono hbk3.size))
      | (go_at_call 14
         refine (HN2.out _ hbk2).mono ?_
         rintro e w3 ⟨A3, n3, c3, rfl, hT3, hb3⟩
         have hT2' := hT2.on hb3
         have hbk3 := hbk2.trans (hb3.mono hbk2.size))
      | (go_at_call 13
         refine (HN1.out _ hdV).mono ?_
         rintro e w2' ⟨A2, n2, c2, rfl, hT2, hb2⟩
         have hbk2 := hdV.trans hb2))
  go_wp2
  go_ret
  exact ⟨rfl, hbwV.trans (hbk9.mono hbwV.size)⟩
theorem tells_walk (l : List En) (root : List Nd) (A0 A1 : Option Addr) (n0 c0 n1 c1 : Nat) (w : World) (h : EnOn w A0 n0 l) (h' : NdOn w A1 n1 root) (hn : n0 ≤ 9223372036854775807) (hn' : n1 ≤ 9223372036854775807) :
    Calls Try.prog 3 #[.slice A0 n0 c0, .slice A1 n1 c1] w fun e w' => e = .returned (.bool true) ∧ Below w.heap.size w w' := by
  by_cases hs : largeE l = true ∨ large root = true ∨ okS root = false
  · exact tells_skip l root A0 A1 n0 c0 n1 c1 w h h' hn hn' hs
  · have g1 : largeE l = false := by
      cases e : largeE l with
      | true => exact absurd (.inl e) hs
      | false => rfl
    have g2 : large root = false := by
      cases e : large root with
      | true => exact absurd (.inr (.inl e)) hs
      | false => rfl
    have g3 : okS root = true := by
      cases e : okS root with
      | true => rfl
      | false => exact absurd (.inr (.inr e)) hs
    exact tells_main l root A0 A1 n0 c0 n1 c1 w h h' g1 g2 g3
end Go.Proofs.Ytdkcjjbnoeediaa.Reach
