/-
  The walk of PickPuts: what was put is there, what was dropped is not, nothing else is another one, and what is shown is read. Condition: the tables hold what the texts lay in them.
-/
import Derived.Test.YtnkcjemobljpdaaDoorPickAwake
import Derived.Test.YtnkcjemobljpdaaDoorPickLarge
import Derived.Test.YtnkcjemobljpdaaDoorPickGet
import Derived.Test.YtnkcjemobljpdaaDoorPickDrop
import Derived.Test.YtnkcjemobljpdaaDoorPickSame
import Derived.Test.YtnkcjemobljpdaaDoorPickRefCheck
namespace Go.Proofs.YtnkcjemobljpdaaDoor.Pick
open Go Go.RowKit Go.Lib Go.Proofs.YtnkcjemobljpdaaDoor.Need
open Go.Proofs.YtnkcjemobljpdaaDoor.Label (runes fitL refFit_any)
set_option linter.unusedVariables false
/-- Is nothing looked at? -/
def skipP (l : List Pk) (pn : ByteArray) (pv : Int) (qn : ByteArray) : Bool := largeP l || (!okP l || (!fitL (runes pn 0) || (!verOk pv || decide (200 < qn.size))))
set_option maxHeartbeats 16000000 in
set_option maxRecDepth 100000 in
theorem putsW_skip (l : List Pk) (pn qn : ByteArray) (pv qv : Int) (A : Option Addr) (n c : Nat) (w : World) (h : PkOn w A n l) (hn : n ≤ 9223372036854775807) (hpn : pn.size ≤ 9223372036854775807) (hqn : qn.size ≤ 9223372036854775807) (hT : TabsP w) (hs : skipP l pn pv qn = true) :
    Calls Tryd.prog 4 #[.slice A n c, .agg #[.string pn, .int .i64 pv], .agg #[.string qn, .int .i64 qv]] w fun e w' => e = .returned (.bool true) ∧ Below w.heap.size w w' := by
  obtain ⟨W0, hW0⟩ : ∃ W0, W0 = (w.alloc (.cells #[.string pn, .int .i64 pv] 24)).alloc (.cells #[.string qn, .int .i64 qv] 24) := ⟨_, rfl⟩
  have hb0 : Below w.heap.size w W0 := by rw [hW0]; exact (alloc_b w _).alloc (by simp) _
  have hBp : Blk W0 w.heap.size 24 #[.string pn, .int .i64 pv] := by rw [hW0]; exact (Blk.new w _ _).alloc _
  have hBq : Blk W0 (w.heap.size + 1) 24 #[.string qn, .int .i64 qv] := by
    rw [hW0]
    have := Blk.new (w.alloc (.cells #[.string pn, .int .i64 pv] 24)) 24 #[.string qn, .int .i64 qv]
    rwa [World.size_alloc] at this
  have HX := hide (fun wx (hx : Below W0.heap.size W0 wx) => (⟨((hBp.below hx hBp.lt).cell 0).trans rfl, ((hBp.below hx hBp.lt).cell 1).trans rfl, ((hBq.below hx hBq.lt).cell 0).trans rfl⟩ :
    wx.cell? ⟨w.heap.size, 0, none⟩ = some (Value.string pn) ∧ wx.cell? ⟨w.heap.size, 1, none⟩ = some (Value.int .i64 pv) ∧ wx.cell? ⟨w.heap.size + 1, 0, none⟩ = some (Value.string qn)))
  have HL := hide (fun wx (hx : Below w.heap.size w wx) => largeP_any l A n c wx (h.on hx) hn)
  have HA := hide (fun wx (hx : Below w.heap.size w wx) => awakeP_any wx (hT.below hx))
  cases g1 : largeP l with
  | true =>
    rw [g1] at HL
    clear h hT g1 hs
    go_enter Tryd.func4, Tryd.ntmps4
    go_upto_region 1 with fail
    rw [← hW0]
    obtain ⟨kp0, kv0, kq0⟩ := HX.out W0 (Below.refl _ _)
    clear hW0 hBp hBq
    generalize w.heap.size + 1 = g5 at *
    go_wp2_with (first
      | (go_at_call 5
         refine (HL.out _ hb0).mono ?_
         rintro e W0 ⟨rfl, rfl⟩)
      | (go_at_call 6
         refine (HA.out _ hb0).mono ?_
         rintro e w18 ⟨rfl, hb18⟩
         have hb018 := hb0.trans (hb18.mono hb0.size)))
    go_ret
    exact ⟨rfl, hb018⟩
  | false =>
    obtain ⟨hl60, hl200⟩ := largeP_no g1
    have hlen := h.len
    have HC := hide (fun wx (hx : Below w.heap.size w wx) => checkP_any l A n c wx (h.on hx) (fun q hq => by have := hl200 q hq; omega) (by omega) (hT.below hx).1)
    rw [g1] at HL
    cases g2 : okP l with
    | false =>
      rw [g2] at HC
      clear h hT g1 g2 hs hl60 hl200 hlen
      go_enter Tryd.func4, Tryd.ntmps4
      go_upto_region 1 with fail
      rw [← hW0]
      obtain ⟨kp0, kv0, kq0⟩ := HX.out W0 (Below.refl _ _)
      clear hW0 hBp hBq
      generalize w.heap.size + 1 = g5 at *
      go_wp2_with (first
        | (go_at_call 5
           refine (HL.out _ hb0).mono ?_
           rintro e W0 ⟨rfl, rfl⟩)
        | (go_at_call 7
           refine (HC.out _ hb0).mono ?_
           rintro e w1 ⟨rfl, hb1⟩
           have hb01 := hb0.trans (hb1.mono hb0.size)
           obtain ⟨kp1, kv1, kq1⟩ := HX.out w1 hb1)
        | (go_at_call 6
           refine (HA.out _ hb01).mono ?_
           rintro e w18 ⟨rfl, hb18⟩
           have hb018 := hb01.trans (hb18.mono hb01.size)))
      go_ret
      exact ⟨rfl, hb018⟩
    | true =>
      rw [g2] at HC
      have HV := hide (fun wx => refVFit_any pv wx)
      cases g3 : fitL (runes pn 0) with
      | false =>
        by_cases hp9 : pn.size ≤ 1000000000
        · have HF := hide (fun wx => refFit_any pn wx hp9)
          rw [g3] at HF
          clear h hT g1 g2 g3 hs hl60 hl200 hlen HV
          go_enter Tryd.func4, Tryd.ntmps4
          go_upto_region 1 with fail
          rw [← hW0]
          obtain ⟨kp0, kv0, kq0⟩ := HX.out W0 (Below.refl _ _)
          clear hW0 hBp hBq
          generalize w.heap.size + 1 = g5 at *
          go_wp2_with (first
            | (go_at_call 5
               refine (HL.out _ hb0).mono ?_
               rintro e W0 ⟨rfl, rfl⟩)
            | (go_at_call 7
               refine (HC.out _ hb0).mono ?_
               rintro e w1 ⟨rfl, hb1⟩
               have hb01 := hb0.trans (hb1.mono hb0.size)
               obtain ⟨kp1, kv1, kq1⟩ := HX.out w1 hb1)
            | (go_at_call 15
               refine (HF.out _).mono ?_
               rintro e w2 ⟨rfl, hb2⟩
               have hb12 := hb1.trans (hb2.mono hb1.size)
               have hb02 := hb01.trans (hb2.mono hb01.size)
               obtain ⟨kp2, kv2, kq2⟩ := HX.out w2 hb12)
            | (go_at_call 6
               refine (HA.out _ hb02).mono ?_
               rintro e w18 ⟨rfl, hb18⟩
               have hb018 := hb02.trans (hb18.mono hb02.size)))
          go_ret
          exact ⟨rfl, hb018⟩
        · have HF := hide (fun wx => refFit_far pn wx (by omega) hpn)
          clear h hT g1 g2 g3 hs hl60 hl200 hlen HV
          go_enter Tryd.func4, Tryd.ntmps4
          go_upto_region 1 with fail
          rw [← hW0]
          obtain ⟨kp0, kv0, kq0⟩ := HX.out W0 (Below.refl _ _)
          clear hW0 hBp hBq
          generalize w.heap.size + 1 = g5 at *
          go_wp2_with (first
            | (go_at_call 5
               refine (HL.out _ hb0).mono ?_
               rintro e W0 ⟨rfl, rfl⟩)
            | (go_at_call 7
               refine (HC.out _ hb0).mono ?_
               rintro e w1 ⟨rfl, hb1⟩
               have hb01 := hb0.trans (hb1.mono hb0.size)
               obtain ⟨kp1, kv1, kq1⟩ := HX.out w1 hb1)
            | (go_at_call 15
               refine (HF.out _).mono ?_
               rintro e w2 ⟨rfl, hb2⟩
               have hb12 := hb1.trans (hb2.mono hb1.size)
               have hb02 := hb01.trans (hb2.mono hb01.size)
               obtain ⟨kp2, kv2, kq2⟩ := HX.out w2 hb12)
            | (go_at_call 6
               refine (HA.out _ hb02).mono ?_
               rintro e w18 ⟨rfl, hb18⟩
               have hb018 := hb02.trans (hb18.mono hb02.size)))
          go_ret
          exact ⟨rfl, hb018⟩
        | true =>
        have hpn24 : pn.size ≤ 24 := (name_plain g3).1
        have HF := hide (fun wx => refFit_any pn wx (by omega))
        rw [g3] at HF
        cases g4 : verOk pv with
        | false =>
          rw [g4] at HV
          clear h hT g1 g2 g3 g4 hs hl60 hl200 hlen
          go_enter Tryd.func4, Tryd.ntmps4
          go_upto_region 1 with fail
          rw [← hW0]
          obtain ⟨kp0, kv0, kq0⟩ := HX.out W0 (Below.refl _ _)
          clear hW0 hBp hBq
          generalize w.heap.size + 1 = g5 at *
          go_wp2_with (first
            | (go_at_call 5
               refine (HL.out _ hb0).mono ?_
               rintro e W0 ⟨rfl, rfl⟩)
            | (go_at_call 7
               refine (HC.out _ hb0).mono ?_
               rintro e w1 ⟨rfl, hb1⟩
               have hb01 := hb0.trans (hb1.mono hb0.size)
               obtain ⟨kp1, kv1, kq1⟩ := HX.out w1 hb1)
            | (go_at_call 15
               refine (HF.out _).mono ?_
               rintro e w2 ⟨rfl, hb2⟩
               have hb12 := hb1.trans (hb2.mono hb1.size)
               have hb02 := hb01.trans (hb2.mono hb01.size)
               obtain ⟨kp2, kv2, kq2⟩ := HX.out w2 hb12)
            | (go_at_call 16
               refine (HV.out _).mono ?_
               rintro e w3 ⟨rfl, rfl⟩)
            | (go_at_call 6
               refine (HA.out _ hb02).mono ?_
               rintro e w18 ⟨rfl, hb18⟩
               have hb018 := hb02.trans (hb18.mono hb02.size)))
          go_ret
          exact ⟨rfl, hb018⟩
        | true =>
          rw [g4] at HV
          have h5 : 200 < qn.size := by
            unfold skipP at hs
            rw [g1, g2, g3, g4] at hs
            simpa using hs
          have h5z : (200 : Int) < (qn.size : Int) := by omega
          clear h hT g1 g2 g3 g4 hs hl60 hl200 hlen h5
          go_enter Tryd.func4, Tryd.ntmps4
          go_upto_region 1 with fail
          rw [← hW0]
          obtain ⟨kp0, kv0, kq0⟩ := HX.out W0 (Below.refl _ _)
          clear hW0 hBp hBq
          generalize w.heap.size + 1 = g5 at *
          go_wp2_with (first
            | (go_at_call 5
               refine (HL.out _ hb0).mono ?_
               rintro e W0 ⟨rfl, rfl⟩)
            | (go_at_call 7
               refine (HC.out _ hb0).mono ?_
               rintro e w1 ⟨rfl, hb1⟩
               have hb01 := hb0.trans (hb1.mono hb0.size)
               obtain ⟨kp1, kv1, kq1⟩ := HX.out w1 hb1)
            | (go_at_call 15
               refine (HF.out _).mono ?_
               rintro e w2 ⟨rfl, hb2⟩
               have hb12 := hb1.trans (hb2.mono hb1.size)
               have hb02 := hb01.trans (hb2.mono hb01.size)
               obtain ⟨kp2, kv2, kq2⟩ := HX.out w2 hb12)
            | (go_at_call 16
               refine (HV.out _).mono ?_
               rintro e w3 ⟨rfl, rfl⟩)
            | (go_at_call 6
               refine (HA.out _ hb02).mono ?_
               rintro e w18 ⟨rfl, hb18⟩
               have hb018 := hb02.trans (hb18.mono hb02.size)))
          go_ret
          exact ⟨rfl, hb018⟩
set_option maxHeartbeats 16000000 in
set_option maxRecDepth 100000 in
theorem putsW_full (l : List Pk) (pn qn : ByteArray) (pv qv : Int) (A : Option Addr) (n c : Nat) (w : World) (h : PkOn w A n l) (hc : n ≤ c) (hcm : c ≤ 9223372036854775807) (hT : TabsP w) (h1 : largeP l = false) (h2 : okP l = true) (h3 : fitL (runes pn 0) = true) (h4 : verOk pv = true) (h5 : ¬ 200 < qn.size) :
    Calls Tryd.prog 4 #[.slice A n c, .agg #[.string pn, .int .i64 pv], .agg #[.string qn, .int .i64 qv]] w fun e w' => e = .returned (.bool true) ∧ Below w.heap.size w w' := by
  obtain ⟨hl60, hl200⟩ := largeP_no h1
  have hlen := h.len
  have hn60 : n ≤ 60 := by omega
  have hpn : pn.size ≤ 24 := (name_plain h3).1
  have hok2 := putP_ok (p := (pn, pv)) h2 h3 h4
  have hri := (okP_iff.1 h2).1
  have hri2 := (okP_iff.1 hok2).1
  have hml : (putP l (pn, pv)).length ≤ 61 := Nat.le_trans (putP_len _ _) (by omega)
  have hmn : ∀ q ∈ putP l (pn, pv), q.1.size ≤ 1000000000 := fun q hq => by have := (name_plain ((okP_iff.1 hok2).2 q hq).1).1; have : q.1.size = q.1.data.toList.length := rfl; omega
  have hpd : dropP (putP l (pn, pv)) pn = dropP l pn := put_drop hri (pn, pv)
  have hokd : okP (dropP l pn) = true := dropP_ok h2 pn
  have hrid := (okP_iff.1 hokd).1
  have hg1 : getP (putP l (pn, pv)) pn = some pv := by rw [putP_get, if_pos rfl]
  have hg2 : getP (dropP l pn) pn = none := by rw [dropP_get, if_pos rfl]
  have hg3 : getP (putP l (pn, pv)) qn = if pn = qn then some pv else getP l qn := putP_get _ _
  have hdl : (dropP l pn).length ≤ 60 := Nat.le_trans (List.length_filter_le _ _) (by omega)
  have hdn : ∀ q ∈ dropP l pn, q.1.size ≤ 1000000000 := fun q hq => by have := hl200 q (dropP_mem.1 hq).1; omega
  have hln : ∀ q ∈ l, q.1.size ≤ 1000000000 := fun q hq => by have := hl200 q hq; omega
  -- the contracts, at any later world
  have HL := hide (fun wx (hx : Below w.heap.size w wx) => largeP_any l A n c wx (h.on hx) (by omega))
  have HC := hide (fun wx (hx : Below w.heap.size w wx) => checkP_any l A n c wx (h.on hx) (fun q hq => by have := hl200 q hq; omega) (by omega) (hT.below hx).1)
  have HF := hide (fun wx => refFit_any pn wx (by omega))
  have HV := hide (fun wx => refVFit_any pv wx)
  have HP := hide (fun wx (hx : Below w.heap.size w wx) => putPk_any l pn pv A n c wx (h.on hx) hri hc hcm hln (by omega) (by omega))
  have HD0 := hide (fun wx (hx : Below w.heap.size w wx) => dropPk_any l pn A n c wx (h.on hx) hri hc hcm hln (by omega))
  have HG0 := hide (fun wx (hx : Below w.heap.size w wx) => get_any l qn A n c wx (h.on hx) hri (by omega))
  rw [h1] at HL
  rw [h2] at HC
  rw [h3] at HF
  rw [h4] at HV
  obtain ⟨M, hM⟩ : ∃ M, M = putP l (pn, pv) := ⟨_, rfl⟩
  obtain ⟨D, hD⟩ : ∃ D, D = dropP l pn := ⟨_, rfl⟩
  rw [← hM] at hok2 hri2 hml hmn hpd hg1 hg3 HP
  rw [← hD] at hpd hokd hrid hg2 hdl hdn HD0
  have HDm := hide (fun Ax nx cx wx (hx : PkOn wx Ax nx M) (hc : nx ≤ cx) (hcm : cx ≤ 9223372036854775807) => dropPk_any M pn Ax nx cx wx hx hri2 hc hcm hmn (by have := hx.len; omega))
  rw [hpd] at HDm
  have HGm := hide (fun Ax nx cx wx (hx : PkOn wx Ax nx M) => get_any M pn Ax nx cx wx hx hri2 (by have := hx.len; omega))
  rw [hg1] at HGm
  have HGd := hide (fun Ax nx cx wx (hx : PkOn wx Ax nx D) => get_any D pn Ax nx cx wx hx hrid (by have := hx.len; omega))
  rw [hg2] at HGd
  have HGq := hide (fun Ax nx cx wx (hx : PkOn wx Ax nx M) => get_any M qn Ax nx cx wx hx hri2 (by have := hx.len; omega))
  rw [hg3] at HGq
  have HS := hide (fun Ax nx cx wx (hx : PkOn wx Ax nx M) (ht : TabsP wx) => showP_any M Ax nx cx wx hx hok2 (by have := hx.len; omega) ht)
  have HR := hide (fun wx (ht : TabsP wx) => readP_any M wx hok2 (by omega) ht)
  have HCm := hide (fun Ax nx cx wx (hx : PkOn wx Ax nx M) (ht : TabsP wx) => checkP_any M Ax nx cx wx hx (fun q hq => by have := hmn q hq; omega) (by have := hx.len; omega) ht.1)
  rw [hok2] at HCm
  have HCd := hide (fun Ax nx cx wx (hx : PkOn wx Ax nx D) (ht : TabsP wx) => checkP_any D Ax nx cx wx hx (fun q hq => by have := hdn q hq; omega) (by have := hx.len; omega) ht.1)
  rw [hokd] at HCd
  have HSm := hide (fun Ax nx cx Ay ny cy wx (hx : PkOn wx Ax nx M) (hy : PkOn wx Ay ny M) => sameP_any (c := cx) (c' := cy) wx hx hy (by have := hx.len; omega) (by have := hy.len; omega))
  rw [decide_eq_true rfl] at HSm
  have HSd := hide (fun Ax nx cx Ay ny cy wx (hx : PkOn wx Ax nx D) (hy : PkOn wx Ay ny D) => sameP_any (c := cx) (c' := cy) wx hx hy (by have := hx.len; omega) (by have := hy.len; omega))
  rw [decide_eq_true rfl] at HSd
  have HA := hide (fun wx (hx : Below w.heap.size w wx) => awakeP_any wx (hT.below hx))
  have HT := hide (fun wx (hx : Below w.heap.size w wx) => hT.below hx)
  have h5z : ¬ (200 : Int) < (qn.size : Int) := by omega
  have Hml := hide hml
  have Hdl := hide hdl
  have hqp := eq_names qn pn
  generalize str (showB M) = sm at *
  clear hT h hri hri2 hml hmn hpd hokd hrid hg1 hg2 hg3 hdl hdn hln hok2 h1 h2 h3 h4 hl60 hl200 hlen hM hD h5
  -- the boxes
  obtain ⟨W0, hW0⟩ : ∃ W0, W0 = (w.alloc (.cells #[.string pn, .int .i64 pv] 24)).alloc (.cells #[.string qn, .int .i64 qv] 24) := ⟨_, rfl⟩
  have hb0 : Below w.heap.size w W0 := by rw [hW0]; exact (alloc_b w _).alloc (by simp) _
  have hBp : Blk W0 w.heap.size 24 #[.string pn, .int .i64 pv] := by rw [hW0]; exact (Blk.new w _ _).alloc _
  have hBq : Blk W0 (w.heap.size + 1) 24 #[.string qn, .int .i64 qv] := by
    rw [hW0]
    have := Blk.new (w.alloc (.cells #[.string pn, .int .i64 pv] 24)) 24 #[.string qn, .int .i64 qv]
    rwa [World.size_alloc] at this
  have HX := hide (fun wx (hx : Below W0.heap.size W0 wx) => (⟨((hBp.below hx hBp.lt).cell 0).trans rfl, ((hBp.below hx hBp.lt).cell 1).trans rfl, ((hBq.below hx hBq.lt).cell 0).trans rfl⟩ :
    wx.cell? ⟨w.heap.size, 0, none⟩ = some (Value.string pn) ∧ wx.cell? ⟨w.heap.size, 1, none⟩ = some (Value.int .i64 pv) ∧ wx.cell? ⟨w.heap.size + 1, 0, none⟩ = some (Value.string qn)))
  go_enter Tryd.func4, Tryd.ntmps4
  go_upto_region 1 with fail
  rw [← hW0]
  have hx0 := HX.out W0 (Below.refl _ _)
  obtain ⟨kp0, kv0, kq0⟩ := hx0
  clear hW0 hBp hBq
  generalize w.heap.size + 1 = g5 at *
  have hbz := hb0
  go_upto_region 4 with (first
    | (go_at_call 5
       refine (HL.out _ hb0).mono ?_
       rintro e W0 ⟨rfl, rfl⟩)
    | (go_at_call 7
       refine (HC.out _ hb0).mono ?_
       rintro e w1 ⟨rfl, hb1⟩
       obtain ⟨kp1, kv1, kq1⟩ := HX.out w1 hb1)
    | (go_at_call 15
       refine (HF.out _).mono ?_
       rintro e w2 ⟨rfl, hb2⟩
       have hb12 := hb1.trans (hb2.mono hb1.size)
       obtain ⟨kp2, kv2, kq2⟩ := HX.out w2 hb12)
    | (go_at_call 16
       refine (HV.out _).mono ?_
       rintro e w3 ⟨rfl, rfl⟩)
    | (go_at_call 17
       refine (HP.out _ (hb0.trans (hb12.mono hb0.size))).mono ?_
       rintro e w4 ⟨Am, nm, cm, rfl, hNm, hb4⟩
       have hb14 := hb12.trans (hb4.mono hb12.size)
       obtain ⟨kp4, kv4, kq4⟩ := HX.out w4 hb14))
  have hm1 := hNm.2.1
  have hm2 := hNm.2.2.2
  have hml2 : nm ≤ 61 := by have := hm2.len; have := Hml.out; omega
  have hcm2 : cm ≤ 9223372036854775807 := by
    obtain ⟨A9, c9, e9, _, h9, _⟩ := own_form hNm.2.2.1
    injection e9 with _ _ e9
    rw [e9]; unfold maxLen at h9; exact h9
  clear HL HF HV HP kp1 kv1 kq1 kp2 kv2 kq2 kp0 kv0 kq0 HC hNm
  have hb04 := hb0.trans (hb14.mono hb0.size)
  go_upto_region 5 with (first
    | (go_at_call 13
       refine (HDm.out Am nm cm w4 hm2 hm1 hcm2).mono ?_
       rintro e w5 ⟨Ad, nd, cd, rfl, hNd, hb5⟩))
  have hb15 := hb14.trans (hb5.mono hb14.size)
  obtain ⟨kp5, kv5, kq5⟩ := HX.out w5 hb15
  have hd2 := hNd.2.2.2
  have hm5 := hm2.on hb5
  have hb05 := hb0.trans (hb15.mono hb0.size)
  have hndl : nd ≤ 60 := by have := hd2.len; have := Hdl.out; omega
  clear hNd kp4 kv4 kq4
  go_upto_region 6 with (first
    | (go_at_call 11
       refine (HGm.out Am nm cm w5 hm5).mono ?_
       rintro e w6 ⟨rfl, k1, rfl⟩))
  have hm6 : PkOn (w5.drewN k1) Am nm M := hm5
  have hd6 : PkOn (w5.drewN k1) Ad nd D := hd2
  have hb06 : Below w.heap.size w (w5.drewN k1) := below_drewN hb05 k1
  have hb16 : Below W0.heap.size W0 (w5.drewN k1) := below_drewN hb15 k1
  obtain ⟨kp6, kv6, kq6⟩ := HX.out _ hb16
  clear hm5 hd2 kp5 kv5 kq5 hb05 hb15 hb5
  generalize w5.drewN k1 = w6 at *
  go_upto_region 7 with (first
    | (go_at_call 11
       refine (HGd.out Ad nd cd w6 hd6).mono ?_
       rintro e w7 ⟨rfl, k2, rfl⟩))
  have hm7 : PkOn (w6.drewN k2) Am nm M := hm6
  have hd7 : PkOn (w6.drewN k2) Ad nd D := hd6
  have hb07 : Below w.heap.size w (w6.drewN k2) := below_drewN hb06 k2
  have hb17 : Below W0.heap.size W0 (w6.drewN k2) := below_drewN hb16 k2
  obtain ⟨kp7, kv7, kq7⟩ := HX.out _ hb17
  clear hm6 hd6 kp6 kv6 kq6 hb06 hb16
  generalize w6.drewN k2 = w7 at *
  go_upto_region 8 with (first
    | (go_at_call 11
       refine (HG0.out w7 hb07).mono ?_
       rintro e w8 ⟨rfl, k3, rfl⟩))
  have hm8 : PkOn (w7.drewN k3) Am nm M := hm7
  have hd8 : PkOn (w7.drewN k3) Ad nd D := hd7
  have hb08 : Below w.heap.size w (w7.drewN k3) := below_drewN hb07 k3
  have hb18 : Below W0.heap.size W0 (w7.drewN k3) := below_drewN hb17 k3
  obtain ⟨kp8, kv8, kq8⟩ := HX.out _ hb18
  clear hm7 hd7 kp7 kv7 kq7 hb07 hb17
  generalize w7.drewN k3 = w8 at *
  go_upto_region 9 with (first
    | (go_at_call 11
       refine (HGq.out Am nm cm w8 hm8).mono ?_
       rintro e w9 ⟨rfl, k4, rfl⟩))
  have hm9 : PkOn (w8.drewN k4) Am nm M := hm8
  have hd9 : PkOn (w8.drewN k4) Ad nd D := hd8
  have hb09 : Below w.heap.size w (w8.drewN k4) := below_drewN hb08 k4
  have hb19 : Below W0.heap.size W0 (w8.drewN k4) := below_drewN hb18 k4
  obtain ⟨kp9, kv9, kq9⟩ := HX.out _ hb19
  clear hm8 hd8 kp8 kv8 kq8 hb08 hb18
  generalize w8.drewN k4 = w9 at *
  go_upto_region 10 with (first
    | (go_at_call 20
       refine (HS.out Am nm cm w9 hm9 (HT.out _ hb09)).mono ?_
       rintro e w11 ⟨rfl, hb11⟩
       have hb011 := hb09.trans (hb11.mono hb09.size))
    | (go_at_call 19
       refine (HR.out w11 (HT.out _ hb011)).mono ?_
       rintro e w12 ⟨At, nt, ct, rfl, hNt, hb12⟩))
  have hb012 := hb011.trans (hb12.mono hb011.size)
  have hb112 := (hb19.trans (hb11.mono hb19.size)).trans (hb12.mono (hb19.trans (hb11.mono hb19.size)).size)
  obtain ⟨kp12, kv12, kq12⟩ := HX.out w12 hb112
  have hm12 := (hm9.on hb11).on hb12
  have hd12 := (hd9.on hb11).on hb12
  have ht12 := hNt.2.2.2
  have hntl : nt ≤ 61 := by have := ht12.len; have := Hml.out; omega
  clear hNt hm9 hd9 kp9 kv9 kq9 hb09 hb19 hb011 hb11 hb12 HS HR HGq HG0 HGd HGm HDm
  generalize getP l qn = go at *
  by_cases hpq : pn = qn
  · rw [if_pos hpq]
    rw [decide_eq_true hpq.symm] at hqp
    clear hpq
    go_wp2_with (first
      | (go_at_call 9
         have hdone := hDr
         refine (HSd.out Ad nd cd Ae ne ce _ hd16 he16).mono ?_
         rintro e w17 ⟨rfl, k6, rfl⟩
         have hawk := hb016)
      | (go_at_call 9
         refine (HSm.out At nt ct Am nm cm _ ht14 hm14).mono ?_
         rintro e w15 ⟨rfl, k5, rfl⟩)
      | (go_at_call 7
         have hdone := hck
         refine (HCd.out Ad nd cd w13 hd13 (HT.out _ hb013)).mono ?_
         rintro e w14 ⟨rfl, hb14⟩
         have hb014 := hb013.trans (hb14.mono hb013.size)
         have hb114 := hb113.trans (hb14.mono hb113.size)
         obtain ⟨kp14, kv14, kq14⟩ := HX.out w14 hb114
         have hm14 := hm13.on hb14
         have hd14 := hd13.on hb14
         have ht14 := ht13.on hb14)
      | (go_at_call 7
         refine (HCm.out Am nm cm w12 hm12 (HT.out _ hb012)).mono ?_
         rintro e w13 ⟨rfl, hb13⟩
         have hb013 := hb012.trans (hb13.mono hb012.size)
         have hb113 := hb112.trans (hb13.mono hb112.size)
         obtain ⟨kp13, kv13, kq13⟩ := HX.out w13 hb113
         have hm13 := hm12.on hb13
         have hd13 := hd12.on hb13
         have ht13 := ht12.on hb13
         have hck := hb13)
      | (go_at_call 13
         refine (HD0.out _ (below_drewN hb014 k5)).mono ?_
         rintro e w16 ⟨Ae, ne, ce, rfl, hNe, hb16⟩
         have hb016 := (below_drewN hb014 k5).trans (hb16.mono hb014.size)
         have hd16 : PkOn w16 Ad nd D := PkOn.on (w := w14.drewN k5) hd14 hb16
         have he16 := hNe.2.2.2
         have hDr := hb16)
      | (go_at_call 6
         refine (HA.out _ (below_drewN hb016 k6)).mono ?_
         rintro e w18 ⟨rfl, hb18⟩
         have hb018 := (below_drewN hb016 k6).trans (hb18.mono hb016.size)))
    go_ret
    exact ⟨rfl, hb018⟩
  · rw [if_neg hpq]
    have hqp2 : (qn.toList == pn.toList) = false := by rw [hqp]; exact decide_eq_false fun e => hpq e.symm
    clear hqp hpq
    go_wp2_with (first
      | (go_at_call 9
         have hdone := hDr
         refine (HSd.out Ad nd cd Ae ne ce _ hd16 he16).mono ?_
         rintro e w17 ⟨rfl, k6, rfl⟩
         have hawk := hb016)
      | (go_at_call 9
         refine (HSm.out At nt ct Am nm cm _ ht14 hm14).mono ?_
         rintro e w15 ⟨rfl, k5, rfl⟩)
      | (go_at_call 7
         have hdone := hck
         refine (HCd.out Ad nd cd w13 hd13 (HT.out _ hb013)).mono ?_
         rintro e w14 ⟨rfl, hb14⟩
         have hb014 := hb013.trans (hb14.mono hb013.size)
         have hb114 := hb113.trans (hb14.mono hb113.size)
         obtain ⟨kp14, kv14, kq14⟩ := HX.out w14 hb114
         have hm14 := hm13.on hb14
         have hd14 := hd13.on hb14
         have ht14 := ht13.on hb14)
      | (go_at_call 7
         refine (HCm.out Am nm cm w12 hm12 (HT.out _ hb012)).mono ?_
         rintro e w13 ⟨rfl, hb13⟩
         have hb013 := hb012.trans (hb13.mono hb012.size)
         have hb113 := hb112.trans (hb13.mono hb112.size)
         obtain ⟨kp13, kv13, kq13⟩ := HX.out w13 hb113
         have hm13 := hm12.on hb13
         have hd13 := hd12.on hb13
         have ht13 := ht12.on hb13
         have hck := hb13)
      | (go_at_call 13
         refine (HD0.out _ (below_drewN hb014 k5)).mono ?_
         rintro e w16 ⟨Ae, ne, ce, rfl, hNe, hb16⟩
         have hb016 := (below_drewN hb014 k5).trans (hb16.mono hb014.size)
         have hd16 : PkOn w16 Ad nd D := PkOn.on (w := w14.drewN k5) hd14 hb16
         have he16 := hNe.2.2.2
         have hDr := hb16)
      | (go_at_call 6
         refine (HA.out _ (below_drewN hb016 k6)).mono ?_
         rintro e w18 ⟨rfl, hb18⟩
         have hb018 := (below_drewN hb016 k6).trans (hb18.mono hb016.size)))
    go_ret
    exact ⟨rfl, hb018⟩
theorem puts_walk (l : List Pk) (pn qn : ByteArray) (pv qv : Int) (A : Option Addr) (n c : Nat) (w : World) (h : PkOn w A n l) (hc : n ≤ c) (hcm : c ≤ 9223372036854775807) (hpn : pn.size ≤ 9223372036854775807) (hqn : qn.size ≤ 9223372036854775807) (hT : TabsP w) :
    Calls Tryd.prog 4 #[.slice A n c, .agg #[.string pn, .int .i64 pv], .agg #[.string qn, .int .i64 qv]] w fun e w' => e = .returned (.bool true) ∧ Below w.heap.size w w' := by
  cases hs : skipP l pn pv qn with
  | true => exact putsW_skip l pn qn pv qv A n c w h (by omega) hpn hqn hT hs
  | false =>
    unfold skipP at hs
    simp only [Bool.or_eq_false_iff, Bool.not_eq_false', decide_eq_false_iff_not] at hs
    obtain ⟨h1, h2, h3, h4, h5⟩ := hs
    exact putsW_full l pn qn pv qv A n c w h hc hcm hT h1 h2 h3 h4 h5
end Go.Proofs.YtnkcjemobljpdaaDoor.Pick

