/-
  The walk of PickLists: the program's picks are the document's. Condition: the tables hold what the texts lay in them.
-/
import Derived.Test.YtnkcjemobljpdaaDoorPickAwake
import Derived.Test.YtnkcjemobljpdaaDoorPickGet
import Derived.Test.YtnkcjemobljpdaaDoorPickDrop
import Derived.Test.YtnkcjemobljpdaaDoorPickSame
import Derived.Test.YtnkcjemobljpdaaDoorPickRefCheck
import Derived.Test.YtnkcjemobljpdaaDoorPickRef
namespace Go.Proofs.YtnkcjemobljpdaaDoor.Pick
open Go Go.RowKit Go.Lib Go.Proofs.YtnkcjemobljpdaaDoor.Need Go.Proofs.YtnkcjemobljpdaaDoor.Grow
open Go.Proofs.YtnkcjemobljpdaaDoor.Label (runes fitL refFit_any)
set_option linter.unusedVariables false
set_option maxHeartbeats 16000000 in
set_option maxRecDepth 100000 in
theorem listsW_skip (l m : List Pk) (pn : ByteArray) (pv : Int) (A0 A1 : Option Addr) (n0 c0 n1 c1 : Nat) (w : World) (h : PkOn w A0 n0 l) (h' : PkOn w A1 n1 m) (hn : n0 ≤ 9223372036854775807) (hn' : n1 ≤ 9223372036854775807) (hpn : pn.size ≤ 9223372036854775807) (hT : TabsP w) (hs : (largeP l || (largeP m || decide (200 < pn.size))) = true) :
    Calls Tryd.prog 3 #[.slice A0 n0 c0, .slice A1 n1 c1, .agg #[.string pn, .int .i64 pv]] w fun e w' => e = .returned (.bool true) ∧ Below w.heap.size w w' := by
  obtain ⟨W0, hW0⟩ : ∃ W0, W0 = w.alloc (.cells #[.string pn, .int .i64 pv] 24) := ⟨_, rfl⟩
  have hb0 : Below w.heap.size w W0 := by rw [hW0]; exact alloc_b w _
  have hBp : Blk W0 w.heap.size 24 #[.string pn, .int .i64 pv] := by rw [hW0]; exact Blk.new w _ _
  have HX := hide (fun wx (hx : Below W0.heap.size W0 wx) => (⟨((hBp.below hx hBp.lt).cell 0).trans rfl, ((hBp.below hx hBp.lt).cell 1).trans rfl⟩ :
    wx.cell? ⟨w.heap.size, 0, none⟩ = some (Value.string pn) ∧ wx.cell? ⟨w.heap.size, 1, none⟩ = some (Value.int .i64 pv)))
  have hg5 := hBp.lt
  have HL := hide (fun wx (hx : Below w.heap.size w wx) => largeP_any l A0 n0 c0 wx (h.on hx) (by omega))
  have HM := hide (fun wx (hx : Below w.heap.size w wx) => largeP_any m A1 n1 c1 wx (h'.on hx) (by omega))
  have HA := hide (fun wx (hx : Below w.heap.size w wx) => awakeP_any wx (hT.below hx))
  cases g1 : largeP l with
  | true =>
    rw [g1] at HL
    clear h h' hT hs HM
    go_enter Tryd.func3, Tryd.ntmps3
    go_upto_region 1 with fail
    rw [← hW0]
    obtain ⟨kp0, kv0⟩ := HX.out W0 (Below.refl _ _)
    clear hW0 hBp
    go_wp2_with (first
      | (go_at_call_of 5 (Value.slice A0 n0 c0)
         refine (HL.out _ hb0).mono ?_
         rintro e W0 ⟨rfl, rfl⟩)
      | (go_at_call 6
         refine (HA.out _ hb0).mono ?_
         rintro e w18 ⟨rfl, hb18⟩
         have hb018 := hb0.trans (hb18.mono hb0.size)))
    go_ret
    exact ⟨rfl, hb018⟩
  | false =>
    rw [g1] at HL
    cases g2 : largeP m with
    | true =>
      rw [g2] at HM
      clear h h' hT hs
      go_enter Tryd.func3, Tryd.ntmps3
      go_upto_region 1 with fail
      rw [← hW0]
      obtain ⟨kp0, kv0⟩ := HX.out W0 (Below.refl _ _)
      clear hW0 hBp
      go_wp2_with (first
        | (go_at_call_of 5 (Value.slice A0 n0 c0)
           refine (HL.out _ hb0).mono ?_
           rintro e W0 ⟨rfl, rfl⟩)
        | (go_at_call_of 5 (Value.slice A1 n1 c1)
           refine (HM.out _ hb0).mono ?_
           rintro e W0 ⟨rfl, rfl⟩)
        | (go_at_call 6
           refine (HA.out _ hb0).mono ?_
           rintro e w18 ⟨rfl, hb18⟩
           have hb018 := hb0.trans (hb18.mono hb0.size)))
      go_ret
      exact ⟨rfl, hb018⟩
    | false =>
      rw [g2] at HM
      have h3 : 200 < pn.size := by
        rw [g1, g2] at hs
        simpa using hs
      have h3z : (200 : Int) < (pn.size : Int) := by omega
      clear h h' hT hs h3
      go_enter Tryd.func3, Tryd.ntmps3
      go_upto_region 1 with fail
      rw [← hW0]
      obtain ⟨kp0, kv0⟩ := HX.out W0 (Below.refl _ _)
      clear hW0 hBp
      go_wp2_with (first
        | (go_at_call_of 5 (Value.slice A0 n0 c0)
           refine (HL.out _ hb0).mono ?_
           rintro e W0 ⟨rfl, rfl⟩)
        | (go_at_call_of 5 (Value.slice A1 n1 c1)
           refine (HM.out _ hb0).mono ?_
           rintro e W0 ⟨rfl, rfl⟩)
        | (go_at_call 6
           refine (HA.out _ hb0).mono ?_
           rintro e w18 ⟨rfl, hb18⟩
           have hb018 := hb0.trans (hb18.mono hb0.size)))
      go_ret
      exact ⟨rfl, hb018⟩
set_option maxHeartbeats 16000000 in
set_option maxRecDepth 100000 in
theorem listsW_bad (l m : List Pk) (pn : ByteArray) (pv : Int) (A0 A1 : Option Addr) (n0 c0 n1 c1 : Nat) (w : World) (h : PkOn w A0 n0 l) (h' : PkOn w A1 n1 m) (hT : TabsP w) (hn : n0 ≤ 9223372036854775807) (hn' : n1 ≤ 9223372036854775807) (g1 : largeP l = false) (g2 : largeP m = false) (h3 : ¬ 200 < pn.size) (g4 : okP l = false) :
    Calls Tryd.prog 3 #[.slice A0 n0 c0, .slice A1 n1 c1, .agg #[.string pn, .int .i64 pv]] w fun e w' => e = .returned (.bool true) ∧ Below w.heap.size w w' := by
  obtain ⟨W0, hW0⟩ : ∃ W0, W0 = w.alloc (.cells #[.string pn, .int .i64 pv] 24) := ⟨_, rfl⟩
  have hb0 : Below w.heap.size w W0 := by rw [hW0]; exact alloc_b w _
  have hBp : Blk W0 w.heap.size 24 #[.string pn, .int .i64 pv] := by rw [hW0]; exact Blk.new w _ _
  have HX := hide (fun wx (hx : Below W0.heap.size W0 wx) => (⟨((hBp.below hx hBp.lt).cell 0).trans rfl, ((hBp.below hx hBp.lt).cell 1).trans rfl⟩ :
    wx.cell? ⟨w.heap.size, 0, none⟩ = some (Value.string pn) ∧ wx.cell? ⟨w.heap.size, 1, none⟩ = some (Value.int .i64 pv)))
  have hg5 := hBp.lt
  have HL := hide (fun wx (hx : Below w.heap.size w wx) => largeP_any l A0 n0 c0 wx (h.on hx) (by omega))
  have HM := hide (fun wx (hx : Below w.heap.size w wx) => largeP_any m A1 n1 c1 wx (h'.on hx) (by omega))
  have HA := hide (fun wx (hx : Below w.heap.size w wx) => awakeP_any wx (hT.below hx))
  have hl60 := (largeP_no g1).1
  have hl200 := (largeP_no g1).2
  have hm60 := (largeP_no g2).1
  have hlen := h.len
  have hlen' := h'.len
  have HC := hide (fun wx (hx : Below w.heap.size w wx) => checkP_any l A0 n0 c0 wx (h.on hx) (fun q hq => by have := hl200 q hq; omega) (by omega) (hT.below hx).1)
  have HRC := hide (fun wx (hx : Below w.heap.size w wx) => refCheckP_any l A0 n0 c0 wx (h.on hx) (fun q hq => by have := hl200 q hq; omega) (by omega))
  have HS := hide (fun wx (hx : Below w.heap.size w wx) => sameP_any (c := c0) (c' := c1) wx (h.on hx) (h'.on hx) (by omega) (by omega))
  have HRS := hide (fun wx (hx : Below w.heap.size w wx) => refSameP_any (c := c0) (c' := c1) wx (h.on hx) (h'.on hx) (by omega) (by omega))
  have h3z : ¬ (200 : Int) < (pn.size : Int) := by omega
  rw [g1] at HL
  rw [g2] at HM
  rw [g4] at HC HRC
  clear h h' hT g1 g2 h3 g4 hl60 hl200 hm60 hlen hlen'
  generalize decide (l = m) = lm at *
  go_enter Tryd.func3, Tryd.ntmps3
  go_upto_region 1 with fail
  rw [← hW0]
  obtain ⟨kp0, kv0⟩ := HX.out W0 (Below.refl _ _)
  clear hW0 hBp
  go_upto_region 3 with (first
    | (go_at_call_of 5 (Value.slice A0 n0 c0)
       refine (HL.out _ hb0).mono ?_
       rintro e W0 ⟨rfl, rfl⟩)
    | (go_at_call_of 5 (Value.slice A1 n1 c1)
       refine (HM.out _ hb0).mono ?_
       rintro e W0 ⟨rfl, rfl⟩))
  go_upto_region 5 with (first
    | (go_at_call 7
       refine (HC.out _ hb0).mono ?_
       rintro e w1 ⟨rfl, hb1⟩
       have hb01 := hb0.trans (hb1.mono hb0.size))
    | (go_at_call 8
       have hdone := hsame
       refine (HRC.out _ hdone).mono ?_
       rintro e w5 ⟨rfl, hb5⟩
       have hb05 := hdone.trans (hb5.mono hdone.size))
    | (go_at_call 8
       refine (HRC.out _ hb01).mono ?_
       rintro e w2 ⟨rfl, hb2⟩
       have hb02 := hb01.trans (hb2.mono hb01.size))
    | (go_at_call 9
       refine (HS.out _ hb02).mono ?_
       rintro e w3 ⟨rfl, k3, rfl⟩
       have hb03 := below_drewN hb02 k3)
    | (go_at_call 10
       refine (HRS.out _ hb03).mono ?_
       rintro e w4 ⟨rfl, k4, rfl⟩
       have hsame := below_drewN hb03 k4
       rw [World.drewN_drewN] at hsame))
  have hb04 := hsame
  clear hsame
  go_wp2_with (first
    | (go_at_call 8
       refine (HRC.out _ hb04).mono ?_
       rintro e w5 ⟨rfl, hb5⟩
       have hb05 := hb04.trans (hb5.mono hb04.size))
    | (go_at_call 6
       refine (HA.out _ hb05).mono ?_
       rintro e w18 ⟨rfl, hb18⟩
       have hb018 := hb05.trans (hb18.mono hb05.size)))
  go_ret
  exact ⟨rfl, hb018⟩
set_option maxHeartbeats 16000000 in
set_option maxRecDepth 100000 in
theorem listsW_full (l m : List Pk) (pn : ByteArray) (pv : Int) (A0 A1 : Option Addr) (n0 c0 n1 c1 : Nat) (w : World) (h : PkOn w A0 n0 l) (h' : PkOn w A1 n1 m) (hc : n0 ≤ c0) (hcm : c0 ≤ 9223372036854775807) (hn' : n1 ≤ 9223372036854775807) (hT : TabsP w) (g1 : largeP l = false) (g2 : largeP m = false) (h3 : ¬ 200 < pn.size) (g4 : okP l = true) :
    Calls Tryd.prog 3 #[.slice A0 n0 c0, .slice A1 n1 c1, .agg #[.string pn, .int .i64 pv]] w fun e w' => e = .returned (.bool true) ∧ Below w.heap.size w w' := by
  obtain ⟨W0, hW0⟩ : ∃ W0, W0 = w.alloc (.cells #[.string pn, .int .i64 pv] 24) := ⟨_, rfl⟩
  have hb0 : Below w.heap.size w W0 := by rw [hW0]; exact alloc_b w _
  have hBp : Blk W0 w.heap.size 24 #[.string pn, .int .i64 pv] := by rw [hW0]; exact Blk.new w _ _
  have HX := hide (fun wx (hx : Below W0.heap.size W0 wx) => (⟨((hBp.below hx hBp.lt).cell 0).trans rfl, ((hBp.below hx hBp.lt).cell 1).trans rfl⟩ :
    wx.cell? ⟨w.heap.size, 0, none⟩ = some (Value.string pn) ∧ wx.cell? ⟨w.heap.size, 1, none⟩ = some (Value.int .i64 pv)))
  have hg5 := hBp.lt
  have HL := hide (fun wx (hx : Below w.heap.size w wx) => largeP_any l A0 n0 c0 wx (h.on hx) (by omega))
  have HM := hide (fun wx (hx : Below w.heap.size w wx) => largeP_any m A1 n1 c1 wx (h'.on hx) (by omega))
  have HA := hide (fun wx (hx : Below w.heap.size w wx) => awakeP_any wx (hT.below hx))
  have hl60 := (largeP_no g1).1
  have hl200 := (largeP_no g1).2
  have hm60 := (largeP_no g2).1
  have hlen := h.len
  have hlen' := h'.len
  have HC := hide (fun wx (hx : Below w.heap.size w wx) => checkP_any l A0 n0 c0 wx (h.on hx) (fun q hq => by have := hl200 q hq; omega) (by omega) (hT.below hx).1)
  have HRC := hide (fun wx (hx : Below w.heap.size w wx) => refCheckP_any l A0 n0 c0 wx (h.on hx) (fun q hq => by have := hl200 q hq; omega) (by omega))
  have HS := hide (fun wx (hx : Below w.heap.size w wx) => sameP_any (c := c0) (c' := c1) wx (h.on hx) (h'.on hx) (by omega) (by omega))
  have HRS := hide (fun wx (hx : Below w.heap.size w wx) => refSameP_any (c := c0) (c' := c1) wx (h.on hx) (h'.on hx) (by omega) (by omega))
  have h3z : ¬ (200 : Int) < (pn.size : Int) := by omega
  rw [g1] at HL
  rw [g2] at HM
  have hri := (okP_iff.1 g4).1
  have hln : ∀ q ∈ l, q.1.size ≤ 1000000000 := fun q hq => by have := hl200 q hq; omega
  have hdl : (dropP l pn).length ≤ 60 := Nat.le_trans (List.length_filter_le _ _) (by omega)
  have hpl : (putP l (pn, pv)).length ≤ 61 := Nat.le_trans (putP_len _ _) (by omega)
  have HG := hide (fun wx (hx : Below w.heap.size w wx) => get_any l pn A0 n0 c0 wx (h.on hx) hri (by omega))
  have HRG := hide (fun wx (hx : Below w.heap.size w wx) => refGetP_any l pn A0 n0 c0 wx (h.on hx) (by omega))
  have HD := hide (fun wx (hx : Below w.heap.size w wx) => dropPk_any l pn A0 n0 c0 wx (h.on hx) hri hc hcm hln (by omega))
  have HRD := hide (fun wx (hx : Below w.heap.size w wx) => refDropP_any l pn A0 n0 c0 wx (h.on hx) (by omega))
  have HP := hide (fun wx (hx : Below w.heap.size w wx) => putPk_any l pn pv A0 n0 c0 wx (h.on hx) hri hc hcm hln (by omega) (by omega))
  have HRP := hide (fun wx (hx : Below w.heap.size w wx) => refPutP_any l pn pv A0 n0 c0 wx (h.on hx) (by omega))
  have HF := hide (fun wx => refFit_any pn wx (by omega))
  have HV := hide (fun wx => refVFit_any pv wx)
  rw [g4] at HC HRC
  generalize dropP l pn = D at *
  generalize putP l (pn, pv) = M at *
  have HSd := hide (fun Ax nx cx Ay ny cy wx (hx : PkOn wx Ax nx D) (hy : PkOn wx Ay ny D) => refSameP_any (c := cx) (c' := cy) wx hx hy (by have := hx.len; omega) (by have := hy.len; omega))
  rw [decide_eq_true rfl] at HSd
  have HSm := hide (fun Ax nx cx Ay ny cy wx (hx : PkOn wx Ax nx M) (hy : PkOn wx Ay ny M) => refSameP_any (c := cx) (c' := cy) wx hx hy (by have := hx.len; omega) (by have := hy.len; omega))
  rw [decide_eq_true rfl] at HSm
  generalize getP l pn = go at *
  generalize decide (l = m) = lm at *
  clear h h' hT g1 g2 g4 hl60 hl200 hm60 hlen hlen' hri hln hdl hpl
  go_enter Tryd.func3, Tryd.ntmps3
  go_upto_region 1 with fail
  rw [← hW0]
  obtain ⟨kp0, kv0⟩ := HX.out W0 (Below.refl _ _)
  clear hW0 hBp
  go_upto_region 3 with (first
    | (go_at_call_of 5 (Value.slice A0 n0 c0)
       refine (HL.out _ hb0).mono ?_
       rintro e W0 ⟨rfl, rfl⟩)
    | (go_at_call_of 5 (Value.slice A1 n1 c1)
       refine (HM.out _ hb0).mono ?_
       rintro e W0 ⟨rfl, rfl⟩))
  go_upto_region 5 with (first
    | (go_at_call 7
       refine (HC.out _ hb0).mono ?_
       rintro e w1 ⟨rfl, hb1⟩
       have hb01 := hb0.trans (hb1.mono hb0.size))
    | (go_at_call 8
       have hdone := hsame
       refine (HRC.out _ hdone).mono ?_
       rintro e w5 ⟨rfl, hb5⟩
       have hb05 := hdone.trans (hb5.mono hdone.size))
    | (go_at_call 8
       refine (HRC.out _ hb01).mono ?_
       rintro e w2 ⟨rfl, hb2⟩
       have hb02 := hb01.trans (hb2.mono hb01.size))
    | (go_at_call 9
       refine (HS.out _ hb02).mono ?_
       rintro e w3 ⟨rfl, k3, rfl⟩
       have hb03 := below_drewN hb02 k3)
    | (go_at_call 10
       refine (HRS.out _ hb03).mono ?_
       rintro e w4 ⟨rfl, k4, rfl⟩
       have hsame := below_drewN hb03 k4
       rw [World.drewN_drewN] at hsame))
  have hb04 := hsame
  have hb14 := below_drewN (below_drewN (hb1.trans (hb2.mono hb1.size)) k3) k4
  rw [World.drewN_drewN] at hb14
  obtain ⟨W4, hW4⟩ : ∃ W4, W4 = w2.drewN (k3 + k4) := ⟨_, rfl⟩
  rw [← hW4] at hb04 hb14
  rw [← hW4]
  clear hW4 hsame hb03 hb02 hb2 hb01 hb1 HC HS HRS HL HM
  go_upto_region 7 with (first
    | (go_at_call 8
       refine (HRC.out _ hb04).mono ?_
       rintro e w5 ⟨rfl, hb5⟩))
  have hb05 := hb04.trans (hb5.mono hb04.size)
  have hb15 := hb14.trans (hb5.mono hb14.size)
  obtain ⟨kp5, kv5⟩ := HX.out w5 hb15
  clear hb04 hb14 hb5 HRC
  go_upto_region 8 with (first
    | (go_at_call 11
       refine (HG.out _ hb05).mono ?_
       rintro e w6 ⟨rfl, k6, rfl⟩))
  have hb06 := below_drewN hb05 k6
  have hb16 := below_drewN hb15 k6
  clear hb05 hb15 kp5 kv5
  generalize w5.drewN k6 = w6 at *
  obtain ⟨kp6, kv6⟩ := HX.out w6 hb16
  go_upto_region 9 with (first
    | (go_at_call 12
       refine (HRG.out _ hb06).mono ?_
       rintro e w6 ⟨rfl, rfl⟩))
  clear HG HRG
  have hd6 : Below w6.heap.size w6 w6.drew := (Below.refl _ w6).drew
  have HX6 := hide (fun wx (hx : Below w6.heap.size w6 wx) => HX.out wx (hb16.trans (hx.mono hb16.size)))
  have HB6 := hide (fun wx (hx : Below w6.heap.size w6 wx) => hb06.trans (hx.mono hb06.size))
  have hh1 : (((go.getD 0 : Int) == go.getD 0)) = true := by simp
  have hh2 : (go.isSome == go.isSome) = true := by simp
  have hg6 : w.heap.size < w6.heap.size := Nat.lt_of_lt_of_le hg5 hb16.size
  clear HX hg5
  generalize w.heap.size = g5 at HX6 kp6 kv6 hg6 ⊢
  go_region_held3 (fun w' => w'.cell? ⟨g5, 0, none⟩ = some (.string pn)) (first | exact e9 | exact e8 | exact e7 | exact kp6 | go_keep)
    (first
      | (go_at_call 13
         refine (HD.out _ (HB6.out _ hd6)).mono ?_
         rintro e w7 ⟨A7, n7, c7, rfl, hN7, hb7⟩
         have hbk7 : Below w6.heap.size w6 w7 := hd6.trans hb7
         have e7 := (HX6.out w7 hbk7).1)
      | (go_at_call 14
         refine (HRD.out _ (HB6.out _ hbk7)).mono ?_
         rintro e w8 ⟨A8, n8, c8, rfl, hN8, hb8⟩
         have hbk8 : Below w6.heap.size w6 w8 := hbk7.trans (hb8.mono hbk7.size)
         have e8 := (HX6.out w8 hbk8).1
         have hr7 := hN7.2.2.2.on hb8)
      | (go_at_call 10
         refine (HSd.out A7 n7 c7 A8 n8 c8 _ hr7 hN8.2.2.2).mono ?_
         rintro e w9 ⟨rfl, k9, rfl⟩
         have hbk9 : Below w6.heap.size w6 (w8.drewN k9) := below_drewN hbk8 k9
         have e9 := (HX6.out _ hbk9).1))
  go_upto_region 11 with fail
  have hb09 := HB6.out _ hbk9
  have hx9 := HX6.out _ hbk9
  have hgW : g5 < (w8.drewN k9).heap.size := Nat.lt_of_lt_of_le hg6 hbk9.size
  have HX9 := hide (fun wx (hx : Below (w8.drewN k9).heap.size (w8.drewN k9) wx) => HX6.out wx (hbk9.trans (hx.mono hbk9.size)))
  have HB9 := hide (fun wx (hx : Below (w8.drewN k9).heap.size (w8.drewN k9) wx) => hb09.trans (hx.mono hb09.size))
  clear HX6 HB6 hbk9 hbk8 hbk7 e9 e8 e7 hr7 hN8 hN7 hb8 hb7 HD HRD HSd
  generalize w8.drewN k9 = W at *
  obtain ⟨kp9, kv9⟩ := hx9
  have hdW : Below W.heap.size W W.drew := (Below.refl _ W).drew
  cases g6 : fitL (runes pn 0) with
  | false =>
    rw [g6] at HF
    clear g6
    have q1 := cell_in kp9 hgW
    have q2 := cell_in kv9 hgW
    refine wp_region_grow [(78, isC (.bool false)), (96, isC (.bool true))] [78, 96]
      (by kernel_rfl) (by kernel_rfl) rfl (by kernel_rfl) (by kernel_rfl) ⟨isC_stable _, isC_stable _, trivial⟩ ?_
    repeat (first
      | (refine lex_skip rfl ?_; simp only [Act.put, List.setIfInBounds_toArray, List.set_cons_zero, List.set_cons_succ])
      | (refine lex_quiet rfl rfl rfl (fun K hK => ?_); unfold Reg; go_big_quiet_op; refine hK _ ?_; clear hK K)
      | (refine lex_rel rfl rfl (fun w' hb9 hK => ?_) (fun v w' hb9 hv => ?_)
         · unfold grows
           go_simp
           first
             | (go_at_call 15
                exact call_isC (HF.out w'))
             | (go_at_call 16
                exact call_same (HV.out w'))
             | (go_at_call 6
                exact call_isC (HA.out w' (HB9.out w' hb9)))
         obtain rfl := hv
         simp only [Act.put, List.setIfInBounds_toArray, List.set_cons_zero, List.set_cons_succ]))
    refine lex_nil (fun w10 hC9 _ => ?_)
    have hbe := reg_iff.1 hC9
    clear q1 q2
    go_wp2
    go_ret
    exact ⟨rfl, HB9.out _ hbe⟩
  | true =>
    rw [g6] at HF
    clear g6
    cases g7 : verOk pv with
    | false =>
      rw [g7] at HV
      clear g7
      have q1 := cell_in kp9 hgW
      have q2 := cell_in kv9 hgW
      refine wp_region_grow [(78, isC (.bool true)), (83, isC (.bool false)), (96, isC (.bool true))] [78, 83, 96]
        (by kernel_rfl) (by kernel_rfl) rfl (by kernel_rfl) (by kernel_rfl) ⟨isC_stable _, isC_stable _, isC_stable _, trivial⟩ ?_
      repeat (first
        | (refine lex_skip rfl ?_; simp only [Act.put, List.setIfInBounds_toArray, List.set_cons_zero, List.set_cons_succ])
        | (refine lex_quiet rfl rfl rfl (fun K hK => ?_); unfold Reg; go_big_quiet_op; refine hK _ ?_; clear hK K)
        | (refine lex_rel rfl rfl (fun w' hb9 hK => ?_) (fun v w' hb9 hv => ?_)
           · unfold grows
             go_simp
             first
               | (go_at_call 15
                  exact call_isC (HF.out w'))
               | (go_at_call 16
                  exact call_same (HV.out w'))
               | (go_at_call 6
                  exact call_isC (HA.out w' (HB9.out w' hb9)))
           obtain rfl := hv
           simp only [Act.put, List.setIfInBounds_toArray, List.set_cons_zero, List.set_cons_succ]))
      refine lex_nil (fun w10 hC9 _ => ?_)
      have hbe := reg_iff.1 hC9
      clear q1 q2
      go_wp2
      go_ret
      exact ⟨rfl, HB9.out _ hbe⟩
    | true =>
      rw [g7] at HV
      clear g7
      go_region_held3 (fun w' => w'.cell? ⟨g5, 0, none⟩ = some (.string pn) ∧ w'.cell? ⟨g5, 1, none⟩ = some (.int .i64 pv)) (first | exact ea | exact e13 | exact e12 | exact e11 | exact e10 | exact ⟨kp9, kv9⟩ | go_keep)
        (first
          | (go_at_call 15
             refine (HF.out _).mono ?_
             rintro e w10 ⟨rfl, hb10⟩
             have hbk10 : Below W.heap.size W w10 := hdW.trans hb10
             have e10 := HX9.out w10 hbk10)
          | (go_at_call 16
             refine (HV.out _).mono ?_
             rintro e w99 ⟨rfl, rfl⟩)
          | (go_at_call 17
             refine (HP.out _ (HB9.out _ hbk10)).mono ?_
             rintro e w11 ⟨A7, n7, c7, rfl, hN7, hb11⟩
             have hbk11 : Below W.heap.size W w11 := hbk10.trans (hb11.mono hbk10.size)
             have e11 := HX9.out w11 hbk11)
          | (go_at_call 18
             refine (HRP.out _ (HB9.out _ hbk11)).mono ?_
             rintro e w12 ⟨A8, n8, c8, rfl, hN8, hb12⟩
             have hbk12 : Below W.heap.size W w12 := hbk11.trans (hb12.mono hbk11.size)
             have e12 := HX9.out w12 hbk12
             have hr7 := hN7.2.2.2.on hb12)
          | (go_at_call 10
             refine (HSm.out A7 n7 c7 A8 n8 c8 _ hr7 hN8.2.2.2).mono ?_
             rintro e w13 ⟨rfl, k13, rfl⟩
             have hbk13 : Below W.heap.size W (w12.drewN k13) := below_drewN hbk12 k13
             have e13 := HX9.out _ hbk13)
          | (go_at_call 6
             refine (HA.out _ (HB9.out _ hbk13)).mono ?_
             rintro e w14 ⟨rfl, hb14⟩
             have hbk14 : Below W.heap.size W w14 := hbk13.trans (hb14.mono hbk13.size)
             have ea := HX9.out w14 hbk14))
      go_wp2
      go_ret
      exact ⟨rfl, HB9.out _ hbk14⟩
theorem lists_walk (l m : List Pk) (pn : ByteArray) (pv : Int) (A0 A1 : Option Addr) (n0 c0 n1 c1 : Nat) (w : World) (h : PkOn w A0 n0 l) (h' : PkOn w A1 n1 m) (hc : n0 ≤ c0) (hcm : c0 ≤ 9223372036854775807) (hn' : n1 ≤ 9223372036854775807) (hpn : pn.size ≤ 9223372036854775807) (hT : TabsP w) :
    Calls Tryd.prog 3 #[.slice A0 n0 c0, .slice A1 n1 c1, .agg #[.string pn, .int .i64 pv]] w fun e w' => e = .returned (.bool true) ∧ Below w.heap.size w w' := by
  cases hs : (largeP l || (largeP m || decide (200 < pn.size))) with
  | true => exact listsW_skip l m pn pv A0 A1 n0 c0 n1 c1 w h h' (by omega) hn' hpn hT hs
  | false =>
    simp only [Bool.or_eq_false_iff, decide_eq_false_iff_not] at hs
    obtain ⟨h1, h2, h3⟩ := hs
    cases h4 : okP l with
    | true => exact listsW_full l m pn pv A0 A1 n0 c0 n1 c1 w h h' hc hcm hn' hT h1 h2 h3 h4
    | false => exact listsW_bad l m pn pv A0 A1 n0 c0 n1 c1 w h h' hT (by omega) hn' h1 h2 h3 h4
end Go.Proofs.YtnkcjemobljpdaaDoor.Pick
