/-
  Some texts of this claim, one behind the other: FitTellsW. What each proves, and its condition, stands at its head.
-/
import Derived.Test.YtjbjdoioallpkaaGreatDoorZ48
import Derived.Test.YtjbjdoioallpkaaGreatDoorZ41
import Derived.Test.YtjbjdoioallpkaaGreatDoorZ38
import Derived.Test.YtjbjdoioallpkaaGreatDoorZ25
import Derived.Test.YtjbjdoioallpkaaGreatDoorZ30
import Derived.Test.YtjbjdoioallpkaaGreatDoorZ16
/-
  The walk of FitTells, if the program's Wrong, Solution and Needed tell what they have to. Condition: those three premises; the program's own table holds what its text lays in it.
-/
namespace Go.Proofs.YtjbjdoioallpkaaGreatDoor.Fit
open Go Go.RowKit Go.Lib Go.Sort Go.Proofs.YtjbjdoioallpkaaGreatDoor.Span Go.Proofs.YtjbjdoioallpkaaGreatDoor.Need Go.Proofs.YtjbjdoioallpkaaGreatDoor.Mani Go.Proofs.YtjbjdoioallpkaaGreatDoor.Wire Go.Proofs.YtjbjdoioallpkaaGreatDoor.Depot Go.Proofs.YtjbjdoioallpkaaGreatDoor.Index Go.Proofs.YtjbjdoioallpkaaGreatDoor.Reach Go.Proofs.YtjbjdoioallpkaaGreatDoor.Pick Go.Proofs.YtjbjdoioallpkaaGreatDoor.Grow
open Go.Proofs.YtjbjdoioallpkaaGreatDoor.Ver (Units)
set_option linter.unusedVariables false
theorem namesF9 {l : List Nd} (h : Fine l) : Names9 l := fun q hq => by have := h.2 q hq; omega
section
variable (l : List En) (root : List Nd) (p : List Pk) (A0 A1 A2 : Option Addr) (n0 c0 n1 c1 n2 c2 : Nat) (w : World)
set_option maxHeartbeats 8000000 in
set_option maxRecDepth 100000 in
/-- Where the law looks at its example alone. -/
theorem ftells_skip (SW : SpecWrong) (SS : SpecSol) (h : EnOn w A0 n0 l) (h' : NdOn w A1 n1 root) (h'' : PkOn w A2 n2 p) (hn : n0 ≤ 9223372036854775807) (hn' : n1 ≤ 9223372036854775807) (hn'' : n2 ≤ 9223372036854775807) (hT : Units w) (hsk : (largeE l || (large root || (!okS root || largeP p))) = true) :
    Calls Tryz.prog 3 #[.slice A0 n0 c0, .slice A1 n1 c1, .slice A2 n2 c2] w fun e w' => e = .returned (.bool true) ∧ Below w.heap.size w w' := by
  have HW := hide (fun wx (hx : Below w.heap.size w wx) => awakeF_any SW SS wx (hT.below hx))
  unfold Tells at HW
  have HL := hide (largeE_any l A0 n0 c0 w h hn)
  have HM := hide (fun (wx : World) (hb : Below w.heap.size w wx) => large_any root A1 n1 c1 wx (h'.on hb) hn')
  have HP := hide (fun (wx : World) (hb : Below w.heap.size w wx) => largeP_any p A2 n2 c2 wx (h''.on hb) hn'')
  unfold Tells at HL
  clear hT SW SS
  cases g1 : largeE l with
  | true =>
    rw [g1] at HL
    clear h h' h'' hn hn' hn'' hsk HM HP
    go_enter Tryz.func3, Tryz.ntmps3
    go_wp2_with (first
      | (go_at_call 4
         refine HL.out.mono ?_
         rintro e w1 ⟨rfl, hb1⟩)
      | (go_at_call 8
         refine (HW.out _ hb1).mono ?_
         rintro e w2 ⟨rfl, hb2⟩
         have hbw := hb1.trans (hb2.mono hb1.size)))
    go_ret
    exact ⟨rfl, hbw⟩
  | false =>
    rw [g1] at HL hsk
    cases g2 : large root with
    | true =>
      rw [g2] at HM
      clear h h' h'' hn hn' hn'' hsk HP
      go_enter Tryz.func3, Tryz.ntmps3
      go_wp2_with (first
        | (go_at_call 4
           refine HL.out.mono ?_
           rintro e w0 ⟨rfl, hb0⟩)
        | (go_at_call 5
           refine (HM.out _ hb0).mono ?_
           rintro e w1 ⟨rfl, hb1x⟩
           have hb1 := hb0.trans (hb1x.mono hb0.size))
        | (go_at_call 8
           refine (HW.out _ hb1).mono ?_
           rintro e w2 ⟨rfl, hb2⟩
           have hbw := hb1.trans (hb2.mono hb1.size)))
      go_ret
      exact ⟨rfl, hbw⟩
    | false =>
      rw [g2] at HM hsk
      have hfn := fine_of g2
      have hn40 : n1 ≤ 40 := by rw [← h'.len]; exact hfn.1
      have HK := hide (fun (wx : World) (hb : Below w.heap.size w wx) => refCheckN_any root A1 n1 c1 wx (h'.on hb) (namesF9 hfn) (by omega))
      cases g3 : okS root with
      | false =>
        rw [g3] at HK
        clear h h' h'' hn hn' hn'' hsk hfn hn40 HP
        go_enter Tryz.func3, Tryz.ntmps3
        go_wp2_with (first
          | (go_at_call 4
             refine HL.out.mono ?_
             rintro e w0 ⟨rfl, hb0⟩)
          | (go_at_call 5
             refine (HM.out _ hb0).mono ?_
             rintro e w1 ⟨rfl, hb1x⟩
             have hb1 := hb0.trans (hb1x.mono hb0.size))
          | (go_at_call 6
             refine (HK.out _ hb1).mono ?_
             rintro e w2 ⟨rfl, hb2x⟩
             have hb2 := hb1.trans (hb2x.mono hb1.size))
          | (go_at_call 8
             refine (HW.out _ hb2).mono ?_
             rintro e w3 ⟨rfl, hb3⟩
             have hbw := hb2.trans (hb3.mono hb2.size)))
        go_ret
        exact ⟨rfl, hbw⟩
      | true =>
        rw [g3] at HK hsk
        have g4 : largeP p = true := by simpa using hsk
        rw [g4] at HP
        clear h h' h'' hn hn' hn'' hsk hfn hn40
        go_enter Tryz.func3, Tryz.ntmps3
        go_wp2_with (first
          | (go_at_call 4
             refine HL.out.mono ?_
             rintro e w0 ⟨rfl, hb0⟩)
          | (go_at_call 5
             refine (HM.out _ hb0).mono ?_
             rintro e w1 ⟨rfl, hb1x⟩
             have hb1 := hb0.trans (hb1x.mono hb0.size))
          | (go_at_call 6
             refine (HK.out _ hb1).mono ?_
             rintro e w2 ⟨rfl, hb2x⟩
             have hb2 := hb1.trans (hb2x.mono hb1.size))
          | (go_at_call 7
             refine (HP.out _ hb2).mono ?_
             rintro e w2 ⟨rfl, rfl⟩)
          | (go_at_call 8
             refine (HW.out _ hb2).mono ?_
             rintro e w3 ⟨rfl, hb3⟩
             have hbw := hb2.trans (hb3.mono hb2.size)))
        go_ret
        exact ⟨rfl, hbw⟩
set_option maxHeartbeats 16000000 in
set_option maxRecDepth 100000 in
theorem ftells_main (SW : SpecWrong) (SS : SpecSol) (SN : SpecNeeded) (h : EnOn w A0 n0 l) (h' : NdOn w A1 n1 root) (h'' : PkOn w A2 n2 p) (hc : n2 ≤ c2) (hT : Units w) (g1 : largeE l = false) (g2 : large root = false) (g3 : okS root = true) (g4 : largeP p = false) :
    Calls Tryz.prog 3 #[.slice A0 n0 c0, .slice A1 n1 c1, .slice A2 n2 c2] w fun e w' => e = .returned (.bool true) ∧ Below w.heap.size w w' := by
  obtain ⟨h30, hs⟩ := fineE_of g1
  have hfn := fine_of g2
  obtain ⟨hp60, hp200⟩ := largeP_no g4
  have hn0 : n0 ≤ 30 := by rw [← h.len]; exact h30
  have hn1 : n1 ≤ 40 := by rw [← h'.len]; exact hfn.1
  have hn2 : n2 ≤ 60 := by rw [← h''.len]; exact hp60
  have hr9 : ∀ q ∈ root, q.1.size ≤ 100 := fun q hq => (hfn.2 q hq).1
  have hrs : ∀ q ∈ root, isSet (-1) q.2 = true ∧ q.2.length ≤ 1000000001 := fun q hq => by have := (okS_parts g3).2.2.2 q hq; exact ⟨this.1, by omega⟩
  have HW := hide (fun wx (hx : Below w.heap.size w wx) => awakeF_any SW SS wx (hT.below hx))
  unfold Tells at HW
  have HL := hide (largeE_any l A0 n0 c0 w h (by omega))
  have HM := hide (fun (wx : World) (hb : Below w.heap.size w wx) => large_any root A1 n1 c1 wx (h'.on hb) (by omega))
  have HK := hide (fun (wx : World) (hb : Below w.heap.size w wx) => refCheckN_any root A1 n1 c1 wx (h'.on hb) (namesF9 hfn) (by omega))
  have HP := hide (fun (wx : World) (hb : Below w.heap.size w wx) => largeP_any p A2 n2 c2 wx (h''.on hb) (by omega))
  have HPC := hide (fun (wx : World) (hb : Below w.heap.size w wx) => refCheckP_any p A2 n2 c2 wx (h''.on hb) (fun q hq => by have := hp200 q hq; omega) (by omega))
  unfold Tells at HL
  rw [g1] at HL
  rw [g2] at HM
  rw [g3] at HK
  rw [g4] at HP
  obtain ⟨hr, hf, hsh, hXl⟩ := take_bounds l l.length h30 hs
  rw [List.take_of_length_le (Nat.le_refl _)] at hr hf hsh hXl
  have hset : SetX (putsX [] l) := SetX.nil.puts l
  have HIO := hide (fun (wx : World) (hb : Below w.heap.size w wx) => indexOf_any l A0 n0 c0 wx (h.on hb) (by omega) fun e he => by have := hs e he; omega)
  have HO := hide (fun (wx : World) (hb : Below w.heap.size w wx) => refOfX_any l A0 n0 c0 wx (h.on hb) (by omega) fun e he => by have := hs e he; omega)
  generalize putsX [] l = X at *
  have HRW := hide (fun (A : Option Addr) (n c : Nat) (wx : World) (hb : Below w.heap.size w wx) (hK : InK wx A n X) => refWrong_any X root p A n c A1 n1 c1 A2 n2 c2 wx hK (by have := hK.len; omega) hf hset (h'.on hb) hn1 hrs (h''.on hb) hn2 (fun q hq => by have := hp200 q hq; omega))
  have HRN := hide (fun (A : Option Addr) (n c : Nat) (wx : World) (hb : Below w.heap.size w wx) (hK : InK wx A n X) => refNeeded_any X root p A n c A1 n1 c1 A2 n2 c2 wx hK hf hset (by have := hK.len; omega) (h'.on hb) hn1 (h''.on hb) hn2)
  unfold MakesT at HRN
  have HASK := hide (fun (pv : Value) (wx : World) (hb : Below w.heap.size w wx) (hTx : IsP pv ∧ TellsX wx pv X) => (show AskedF X root p pv A1 n1 A2 n2 c2 wx from ⟨hTx, hf, hset, by omega, h'.on hb, hn1, g3, hr9, h''.on hb, hc, hn2, hp200, hT.below hb⟩))
  have HSW := hide (fun (pv : Value) (wx : World) (ha : AskedF X root p pv A1 n1 A2 n2 c2 wx) => SW X root p pv A1 n1 c1 A2 n2 c2 wx ha)
  have HSS := hide (fun (pv : Value) (wx : World) (ha : AskedF X root p pv A1 n1 A2 n2 c2 wx) => SS X root p pv A1 n1 c1 A2 n2 c2 wx ha)
  have HSN := hide (fun (pv : Value) (wx : World) (ha : AskedF X root p pv A1 n1 A2 n2 c2 wx) (hok : okP p = true) => SN X root p pv A1 n1 c1 A2 n2 c2 wx ha hok)
  unfold MakesT at HSN
  have hTI := hide (fun (g B : Nat) (wx : World) (hI : IdxB wx B g X) => tells_idx hI hf)
  have hsx : solX X root p = decide ((wrongX X root p).1 = 0) := rfl
  rw [hsx] at HSS
  have HS1 := hide (fun (A A' : Option Addr) (n c n' c' : Nat) (wx : World) (h : TxOn wx A n (neededX X root p)) (h' : TxOn wx A' n' (neededX X root p)) (hn : n ≤ 140737488355328) => names2_yes (neededX X root p) A A' n c n' c' wx h h' hn)
  unfold Tells at HS1
  have hnr := needed_ok X root p
  have Hnl := hide (len_may (X := X) (root := root) (l := p) hset (by rw [h'.len]; exact hn1) hp60 hnr.1 fun z hz => (hnr.2 z).1 hz)
  clear h30 hs hfn hp60 hp200 hr9 hrs g1 g2 g3 g4 h h' h'' hr hsh hf hset hXl hT SW SS SN hsx hnr
  go_enter Tryz.func3, Tryz.ntmps3
  go_upto_region 4 with (first
    | (go_at_call 4
       refine HL.out.mono ?_
       rintro e w0 ⟨rfl, hbw0⟩)
    | (go_at_call 5
       refine (HM.out _ hbw0).mono ?_
       rintro e w1 ⟨rfl, hb1⟩
       have hbw1 := hbw0.trans (hb1.mono hbw0.size))
    | (go_at_call 6
       refine (HK.out _ hbw1).mono ?_
       rintro e w2 ⟨rfl, hb2⟩
       have hbw2 := hbw1.trans (hb2.mono hbw1.size))
    | (go_at_call 7
       refine (HP.out _ hbw2).mono ?_
       rintro e w2 ⟨rfl, rfl⟩)
    | (go_at_call 9
       refine (HIO.out _ hbw2).mono ?_
       rintro e w3 ⟨g, rfl, hI3, hb3⟩))
  have hbw3 := hbw2.trans (hb3.mono hbw2.size)
  clear HL HM HK HP HIO hbw0 hb1 hbw1 hb2 hb3
  go_upto_region 5 with (first
    | (go_at_call 10
       refine (HO.out _ hbw3).mono ?_
       rintro e w4 ⟨Ay, ny, cy, rfl, hK4, hb4⟩))
  have hbw4 := hbw3.trans (hb4.mono hbw3.size)
  have hI4 := hI3.below hb4
  obtain ⟨W5, hW5⟩ : ∃ W, W = w4.alloc (.cells #[.slice Ay ny cy] 33) := ⟨_, rfl⟩
  have hby : Blk W5 w4.heap.size 33 #[.slice Ay ny cy] := by rw [hW5]; exact Blk.new _ _ _
  have hK5 : InK W5 Ay ny X := by rw [hW5]; exact hK4.below (Span.alloc_b _)
  have hI5 : IdxB W5 w2.heap.size g X := by rw [hW5]; exact hI4.below (Span.alloc_b _)
  have hbw5 : Below w.heap.size w W5 := by rw [hW5]; exact hbw4.alloc hbw4.size _
  rw [← hW5]
  clear hW5 hK4 hI4 hI3 hb4 hbw2 hbw3 hbw4 HO
  generalize w4.heap.size = gy at *
  have hA5 := HASK.out _ W5 hbw5 ⟨⟨_, rfl⟩, hTI.out _ _ _ hI5⟩
  go_upto_region 6 with (first
    | (go_at_call 11
       refine (HSW.out _ W5 hA5).mono ?_
       rintro e w6 ⟨rfl, hb6⟩))
  have hbw6 := hbw5.trans (hb6.mono hbw5.size)
  have hby6 := hby.below hb6 hby.lt
  have hK6 := hK5.below hb6
  have hA6 := hA5.on hb6
  have k6 := (hby6.cell 0).trans (show (#[Value.slice Ay ny cy] : Array Value)[0]? = some (.slice Ay ny cy) from rfl)
  clear hby hK5 hA5 hb6 hI5 hbw5
  go_upto_region 7 with (first
    | (go_at_call 12
       refine (HRW.out _ _ _ w6 hbw6 hK6).mono ?_
       rintro e V ⟨rfl, hb7⟩))
  have hbwV := hbw6.trans (hb7.mono hbw6.size)
  have hbyV := hby6.below hb7 hby6.lt
  have hKV := hK6.below hb7
  have hAV := hA6.on hb7
  clear hby6 hK6 hA6 hb7 hbw6 k6 HSW HRW HASK hTI
  generalize (wrongX X root p).2 = ws at *
  generalize (wrongX X root p).1 = wk at *
  have hh1 : ((wk : Int) == wk) = true := by simp
  have hh2 : (ws.toList == ws.toList) = true := by simp
  obtain ⟨sx, hsx⟩ : ∃ sx, sx = decide (wk = 0) := ⟨_, rfl⟩
  rw [← hsx] at HSS
  have hh3 : ((wk : Int) == 0) = sx := by rw [hsx, Bool.eq_iff_iff]; simp
  clear hsx
  go_upto_region 9 with (first
    | (go_at_call 13
       refine (HSS.out _ V hAV).mono ?_
       rintro e U ⟨rfl, hbU⟩))
  have hbwU := hbwV.trans (hbU.mono hbwV.size)
  have hbyU := hbyV.below hbU hbyV.lt
  have hKU := hKV.below hbU
  have hAU := hAV.on hbU
  have kU := (hbyU.cell 0).trans (show (#[Value.slice Ay ny cy] : Array Value)[0]? = some (.slice Ay ny cy) from rfl)
  clear hbyV hKV hAV hbU hbwV HSS hh1 hh2 hh3
  have hdU : Below U.heap.size U U.drew := (Below.refl _ _).drew
  have He := hide (fun (wx : World) (hb : Below U.heap.size U wx) => (hb.cell (p := ⟨gy, 0, none⟩) hbyU.lt).trans kU)
  have HB := hide (fun (wx : World) (hb : Below U.heap.size U wx) => hbwU.trans (hb.mono hbwU.size))
  have HAU := hide (fun (wx : World) (hb : Below U.heap.size U wx) => hAU.on hb)
  have HKU := hide (fun (wx : World) (hb : Below U.heap.size U wx) => hKU.below hb)
  clear hAU hKU
  cases hok : okP p with
  | true =>
    rw [hok] at HPC
    have HSN1 := hide (fun (pv : Value) (wx : World) (ha : AskedF X root p pv A1 n1 A2 n2 c2 wx) => HSN.out pv wx ha hok)
    clear HSN hok
    go_region_held3 (fun w' => w'.cell? ⟨gy, 0, none⟩ = some (.slice Ay ny cy)) (first | exact He.out _ hbk9 | exact He.out _ hbk5 | exact He.out _ hbk4 | exact He.out _ hbk3 | exact He.out _ hbk2 | exact He.out _ hdU | go_keep)
      (first
        | (go_at_call 14
           refine (HPC.out _ (HB.out _ hdU)).mono ?_
           rintro e w2' ⟨rfl, hb2⟩
           have hbk2 := hdU.trans hb2)
        | (go_at_call 16
           refine (HSN1.out _ _ (HAU.out _ hbk2)).mono ?_
           rintro e w3 ⟨A3, n3, c3, rfl, hT3, hb3⟩
           have hbk3 := hbk2.trans (hb3.mono hbk2.size))
        | (go_at_call 17
           refine (HRN.out _ _ _ _ (HB.out _ hbk3) (HKU.out _ hbk3)).mono ?_
           rintro e w4' ⟨A4, n4, c4, rfl, hT4, hb4⟩
           have hT3' := hT3.on hb4
           have hn3 : n3 ≤ 140737488355328 := by have := hT3.len; have := Hnl.out; omega
           have hbk4 := hbk3.trans (hb4.mono hbk3.size))
        | (go_at_call 15
           refine (HS1.out _ _ _ _ _ _ _ hT3' hT4 hn3).mono ?_
           rintro e w5' ⟨rfl, hb5⟩
           have hbk5 := hbk4.trans (hb5.mono hbk4.size))
        | (go_at_call 8
           refine (HW.out _ (HB.out _ hbk5)).mono ?_
           rintro e w9 ⟨rfl, hb9⟩
           have hbk9 := hbk5.trans (hb9.mono hbk5.size)))
    go_wp2
    go_ret
    exact ⟨rfl, HB.out _ hbk9⟩
  | false =>
    rw [hok] at HPC
    clear hok
    refine wp_region_grow [(65, isC (.bool false)), (79, isC (.bool true))] [65, 79]
      (by kernel_rfl) (by kernel_rfl) rfl (by kernel_rfl) (by kernel_rfl) ⟨isC_stable _, isC_stable _, trivial⟩ ?_
    repeat (first
      | (refine lex_skip rfl ?_; simp only [Act.put, List.setIfInBounds_toArray, List.set_cons_zero, List.set_cons_succ])
      | (refine lex_quiet rfl rfl rfl (fun K hK => ?_); unfold Reg; go_big_quiet_op; refine hK _ ?_; clear hK K)
      | (refine lex_rel rfl rfl (fun w' hb9 hK => ?_) (fun v w' hb9 hv => ?_)
         · unfold grows
           go_simp
           first
             | (go_at_call 14
                exact call_isC (HPC.out w' (HB.out w' hb9)))
             | (go_at_call 8
                exact call_isC (HW.out w' (HB.out w' hb9)))
         obtain rfl := hv
         simp only [Act.put, List.setIfInBounds_toArray, List.set_cons_zero, List.set_cons_succ]))
    refine lex_nil (fun w10 hC9 _ => ?_)
    have hbe := reg_iff.1 hC9
    go_wp2
    go_ret
    exact ⟨rfl, HB.out _ hbe⟩
theorem ftells_walk (SW : SpecWrong) (SS : SpecSol) (SN : SpecNeeded) (h : EnOn w A0 n0 l) (h' : NdOn w A1 n1 root) (h'' : PkOn w A2 n2 p) (hn : n0 ≤ 9223372036854775807) (hn' : n1 ≤ 9223372036854775807) (hn'' : n2 ≤ 9223372036854775807) (hc : n2 ≤ c2) (hT : Units w) :
    Calls Tryz.prog 3 #[.slice A0 n0 c0, .slice A1 n1 c1, .slice A2 n2 c2] w fun e w' => e = .returned (.bool true) ∧ Below w.heap.size w w' := by
  cases hs : (largeE l || (large root || (!okS root || largeP p))) with
  | true => exact ftells_skip l root p A0 A1 A2 n0 c0 n1 c1 n2 c2 w SW SS h h' h'' hn hn' hn'' hT hs
  | false =>
    simp only [Bool.or_eq_false_iff, Bool.not_eq_false'] at hs
    obtain ⟨g1, g2, g3, g4⟩ := hs
    exact ftells_main l root p A0 A1 A2 n0 c0 n1 c1 n2 c2 w SW SS SN h h' h'' hc hT g1 g2 g3 g4
end
end Go.Proofs.YtjbjdoioallpkaaGreatDoor.Fit
