/-
  Some texts of this claim, one behind the other: PlainRefOn, PlainRefSolve. Contracts of the functions that the names say, and their mathematics. Conditions: each theorem's premises.
-/
import Derived.Test.YtmoeilkaadnnoaaGreatZ41
import Derived.Test.YtmoeilkaadnnoaaGreatZ40
import Derived.Test.YtmoeilkaadnnoaaGreatZ25
import Derived.Test.YtmoeilkaadnnoaaGreatZ39
import Derived.Test.YtmoeilkaadnnoaaGreatZ46
import Derived.Test.YtmoeilkaadnnoaaGreatZ19
import Derived.Test.YtmoeilkaadnnoaaGreatZ35
import Derived.Deep.RegionHeld3
namespace Go.Proofs.YtmoeilkaadnnoaaGreat.Plain
open Go Go.RowKit Go.Lib Go.Sort Go.Proofs.YtmoeilkaadnnoaaGreat.Span Go.Proofs.YtmoeilkaadnnoaaGreat.Need Go.Proofs.YtmoeilkaadnnoaaGreat.Mani Go.Proofs.YtmoeilkaadnnoaaGreat.Wire Go.Proofs.YtmoeilkaadnnoaaGreat.Depot Go.Proofs.YtmoeilkaadnnoaaGreat.Index Go.Proofs.YtmoeilkaadnnoaaGreat.Pick Go.Proofs.YtmoeilkaadnnoaaGreat.Fit
set_option linter.unusedVariables false
section
variable (X : List Kn) (root : List Nd) (Ay : Option Addr) (ny cy : Nat) (Ar : Option Addr) (nr cr : Nat) (b : Nat) (w0 : World)
def OnPost (Ay : Option Addr) (ny cy : Nat) (Ar : Option Addr) (nr cr : Nat) (b : Nat) (w : World) (z : Int) (t : Plain.Told) (f' : Nat) (e : Ending) (w' : World) : Prop :=
  ∃ A n c z', e = .returned (.tuple #[.slice A n c, .int .i64 (kindT t), .string (nameT t)]) ∧ NewP w' 0 A n c (picksT t) ∧ Int.toNat z' = f' ∧ z' ≤ z ∧ Blk w' b 82 #[.slice Ay ny cy, .slice Ar nr cr, .int .i64 z'] ∧ w.grownBy w' (some b)
def OnC (X : List Kn) (root : List Nd) (Ay : Option Addr) (ny cy : Nat) (Ar : Option Addr) (nr cr : Nat) (b : Nat) (w0 : World) (g : Nat) : Prop := ∀ (z : Int) (l : List Pk) (Al : Option Addr) (nl cl : Nat) (w : World), Below w0.heap.size w0 w → Blk w b 82 #[.slice Ay ny cy, .slice Ar nr cr, .int .i64 z] → NewP w 0 Al nl cl l → Way X root l → z.toNat < g → z ≤ 2000 →
  Calls Tryz.prog 30 #[.pointer (some ⟨b, 0, none⟩), .slice Al nl cl] w (OnPost Ay ny cy Ar nr cr b w z (onX X root g z.toNat l).1 (onX X root g z.toNat l).2)
theorem newP_far {w w' : World} {n c b : Nat} {A : Option Addr} {l : List Pk} {cs : Array Value} (hB : Blk w b 82 cs) (hg : w.grownBy w' (some b)) (hN : NewP w 0 A n c l) : NewP w' 0 A n c l := by
  obtain ⟨e1, e2, ho, hp⟩ := hN
  have ho' := own_far ho (farT_blk hB (by decide)) hg
  obtain ⟨A', c', e, hN'⟩ := newP_of_own ho'
  injection e with ea en ec
  subst ea ec
  exact ⟨e1, e2, ho', hN'.2.2.2⟩
set_option maxHeartbeats 16000000 in
set_option maxRecDepth 100000 in
theorem on_step (hK : InK w0 Ay ny X) (hny : ny ≤ 1000000) (hf : FineX X) (hs : SetX X) (hv : VerX X) (hr : RisesK X) (hXl : X.length ≤ 60) (hr0 : NdOn w0 Ar nr root) (hok : okS root = true) (hr9 : ∀ q ∈ root, q.1.size ≤ 100) (hbB : w0.heap.size ≤ b) (g : Nat) (IH : OnC X root Ay ny cy Ar nr cr b w0 g) :
    OnC X root Ay ny cy Ar nr cr b w0 (g + 1) := by
  intro z l Al nl cl w hw hB hN hW hz h2
  have HQ := hide (fun (wx : World) (hx : Below w.heap.size w wx) => (⟨((hB.below hx hB.lt).cell 0).trans rfl, ((hB.below hx hB.lt).cell 1).trans rfl, ((hB.below hx hB.lt).cell 2).trans rfl⟩ : wx.cell? ⟨b, 0, none⟩ = some (.slice Ay ny cy) ∧ wx.cell? ⟨b, 1, none⟩ = some (.slice Ar nr cr) ∧ wx.cell? ⟨b, 2, none⟩ = some (.int .i64 z)))
  have hnl : nl ≤ 60 := by have h1 := way_len hW hr; rw [hN.1]; omega
  have HD := hide (fun (wx : World) (hx : Below w.heap.size w wx) => refDeadX_any X root l Ay ny cy Ar nr cr Al nl cl wx (hK.below (hw.trans (hx.mono hw.size))) hny hf hs (hr0.on (hw.trans (hx.mono hw.size))) hok (hN.2.2.2.on hx) hnl)
  have HX := hide (fun (wx : World) (hx : Below w.heap.size w wx) => refNextX_any X root l Ay ny cy Ar nr cr Al nl cl wx (hK.below (hw.trans (hx.mono hw.size))) hny hf hs (hr0.on (hw.trans (hx.mono hw.size))) hok (hN.2.2.2.on hx) hnl)
  have HH := hide (fun (a : ByteArray) (wx : World) (hx : Below w.heap.size w wx) => Index.refHas_any X a Ay ny cy wx (hK.below (hw.trans (hx.mono hw.size))) hny)
  have HG := hide (fun (a : ByteArray) (wx : World) (hx : Below w.heap.size w wx) => refGetX_any X a Ay ny cy wx (hK.below (hw.trans (hx.mono hw.size))) hny)
  have HA := hide (fun (a : ByteArray) (wx : World) (hx : Below w.heap.size w wx) => refAskedX_any X root l a Ay ny cy Ar nr cr Al nl cl wx (hK.below (hw.trans (hx.mono hw.size))) hny hf hs (hr0.on (hw.trans (hx.mono hw.size))) hok (hN.2.2.2.on hx) hnl)
  have hbR : Below w.heap.size w w := Below.refl _ _
  have q0 := HQ.out w hbR
  have hdw : Below w.heap.size w w.drew := (Below.refl _ _).drew
  have q0d := HQ.out _ hdw
  unfold Tells at HD HH
  unfold Gots at HG
  unfold Makes at HA
  unfold OnPost
  cases hd : deadX X root l with
  | true =>
    rw [on_dead hd]
    rw [hd] at HD
    have hB1 := hide (fun (wx : World) (hx : Below w.heap.size w wx) => hB.below hx hB.lt)
    clear hK hf hs hv hr hr0 hok hr9 IH HX HH HG HA hN hW hd hB
    go_enter Tryz.func30, Tryz.ntmps30
    go_upto_region 1 with fail
    go_region_held3 (fun w' => w'.cell? ⟨b, 0, none⟩ = some (.slice Ay ny cy) ∧ w'.cell? ⟨b, 1, none⟩ = some (.slice Ar nr cr) ∧ w'.cell? ⟨b, 2, none⟩ = some (.int .i64 z)) (first | exact q1 | exact q0d | exact q0 | go_keep)
      (first
        | (go_at_call 55
           refine (HD.out _ hdw).mono ?_
           rintro e w1 ⟨rfl, hb1x⟩
           have hb1 : Below w.heap.size w w1 := hdw.trans hb1x
           have q1 := HQ.out _ hb1))
    go_wp2
    go_ret3
    exact ⟨none, 0, 0, z, rfl, NewP.nil_ _ _, rfl, by omega, hB1.out _ hb1, only_of_below hb1 _⟩
  | false =>
    rw [hd] at HD
    cases hx : nextX X root l with
    | none =>
      rw [on_done hd hx]
      rw [hx] at HX
      have hB1 := hide (fun (wx : World) (hx : Below w.heap.size w wx) => hB.below hx hB.lt)
      have hN1 := hide (fun (wx : World) (hx : Below w.heap.size w wx) => hN.below hx)
      clear hK hf hs hv hr hr0 hok hr9 IH HH HG HA hN hW hd hB hx
      go_enter Tryz.func30, Tryz.ntmps30
      go_upto_region 1 with fail
      go_region_held3 (fun w' => w'.cell? ⟨b, 0, none⟩ = some (.slice Ay ny cy) ∧ w'.cell? ⟨b, 1, none⟩ = some (.slice Ar nr cr) ∧ w'.cell? ⟨b, 2, none⟩ = some (.int .i64 z)) (first | exact q1 | exact q0d | exact q0 | go_keep)
        (first
          | (go_at_call 55
             refine (HD.out _ hdw).mono ?_
             rintro e w1 ⟨rfl, hb1x⟩
             have hb1 : Below w.heap.size w w1 := hdw.trans hb1x
             have q1 := HQ.out _ hb1))
      have hd1 : Below w.heap.size w w1.drew := hb1.drew
      have q1d := HQ.out _ hd1
      clear hb1x HD q0 q0d hdw
      go_upto_region 3 with fail
      go_region_held3 (fun w' => w'.cell? ⟨b, 0, none⟩ = some (.slice Ay ny cy) ∧ w'.cell? ⟨b, 1, none⟩ = some (.slice Ar nr cr) ∧ w'.cell? ⟨b, 2, none⟩ = some (.int .i64 z)) (first | exact q2 | exact q1d | exact q1 | go_keep)
        (first
          | (go_at_call 17
             refine (HX.out _ hd1).mono ?_
             rintro e w2 ⟨rfl, hb2x⟩
             have hb2 : Below w.heap.size w w2 := hd1.trans (hb2x.mono hd1.size)
             have q2 := HQ.out _ hb2))
      go_wp2
      go_ret3
      exact ⟨Al, nl, cl, z, rfl, hN1.out _ hb2, rfl, by omega, hB1.out _ hb2, only_of_below hb2 _⟩
    | some a =>
      rw [hx] at HX
      have HHa := hide (fun wx hx => HH.out a wx hx)
      cases hk : atX X a with
      | none =>
        rw [on_new hd hx hk]
        rw [hk] at HHa
        have hB1 := hide (fun (wx : World) (hx : Below w.heap.size w wx) => hB.below hx hB.lt)
        clear hK hf hs hv hr hr0 hok hr9 IH HH HG HA hN hW hd hB hx hk
        go_enter Tryz.func30, Tryz.ntmps30
        go_upto_region 1 with fail
        go_region_held3 (fun w' => w'.cell? ⟨b, 0, none⟩ = some (.slice Ay ny cy) ∧ w'.cell? ⟨b, 1, none⟩ = some (.slice Ar nr cr) ∧ w'.cell? ⟨b, 2, none⟩ = some (.int .i64 z)) (first | exact q1 | exact q0d | exact q0 | go_keep)
          (first
            | (go_at_call 55
               refine (HD.out _ hdw).mono ?_
               rintro e w1 ⟨rfl, hb1x⟩
               have hb1 : Below w.heap.size w w1 := hdw.trans hb1x
               have q1 := HQ.out _ hb1))
        have hd1 : Below w.heap.size w w1.drew := hb1.drew
        have q1d := HQ.out _ hd1
        clear hb1x HD q0 q0d hdw
        go_upto_region 3 with fail
        go_region_held3 (fun w' => w'.cell? ⟨b, 0, none⟩ = some (.slice Ay ny cy) ∧ w'.cell? ⟨b, 1, none⟩ = some (.slice Ar nr cr) ∧ w'.cell? ⟨b, 2, none⟩ = some (.int .i64 z)) (first | exact q2 | exact q1d | exact q1 | go_keep)
          (first
            | (go_at_call 17
               refine (HX.out _ hd1).mono ?_
               rintro e w2 ⟨rfl, hb2x⟩
               have hb2 : Below w.heap.size w w2 := hd1.trans (hb2x.mono hd1.size)
               have q2 := HQ.out _ hb2))
        go_wp2_with (first
          | (go_at_call 28
             refine (HHa.out _ hb2).mono ?_
             rintro e w3 ⟨rfl, hb3x⟩
             have hb3 : Below w.heap.size w w3 := hb2.trans (hb3x.mono hb2.size)))
        go_ret3
        exact ⟨none, 0, 0, z, rfl, NewP.nil_ _ _, rfl, by omega, hB1.out _ hb3, only_of_below hb3 _⟩
      | some k =>
        rw [on_old hd hx hk]
        rw [hk] at HHa
        have HGa := hide (fun wx hx => HG.out a wx hx)
        have HAa := hide (fun wx hx => HA.out a wx hx)
        have eg : getX X a = k := by unfold getX; rw [hk]; rfl
        rw [eg] at HGa
        obtain ⟨hset, hln⟩ := asked_ok (X := X) (root := root) hs hok l a
        have hk30 : k.1.length ≤ 30 := by have := (hf.get a).1; rw [eg] at this; exact this
        have HDn := hide (fun (Ax : Option Addr) (nx cx : Nat) (Az : Option Addr) (nz cz : Nat) (wx : World) (h1 : RlOn wx Ax nx k.1) (h2 : nx ≤ 30) (h3 : SpOn wx Az nz (askedX X root l a)) => refDownO_any a k.1 Ax nx cx Az nz cz (askedX X root l a) wx h1 h2 h3 hset)
        unfold MakesO at HDn
        have hwv := hide (fun (v : Int) (hv' : v ∈ downS k.1 (askedX X root l a)) => hW.put hs hv hok hx hk hv')
        have hdl : (downS k.1 (askedX X root l a)).length ≤ 30 := by have := downS_length k.1 (askedX X root l a); omega
        generalize downS k.1 (askedX X root l a) = V at *
        generalize k.2 = k2 at *
        generalize k.1 = k1 at *
        have HPt := hide (fun (v : Int) (wx : World) (hN9 : NewP wx 0 Al nl cl l) => refPutP_any l a v Al nl cl wx hN9.2.2.2 (by omega))
        unfold MakesP at HPt
        have Hon := hide (IH)
        unfold OnC OnPost at Hon
        obtain ⟨RT, hRT⟩ : ∃ RT, RT = triesX (onX X root g) (fun v => putP l (a, v)) V z.toNat := ⟨_, rfl⟩
        rw [← hRT]
        have HRT : Hid (RT = triesX (onX X root g) (fun v => putP l (a, v)) (V.drop 0) z.toNat) := hide hRT
        clear hRT
        clear hK hf hs hv hr hr0 hok hr9 IH HH HG HA hW hd hx hk eg hset
        go_enter Tryz.func30, Tryz.ntmps30
        go_upto_region 1 with fail
        go_region_held3 (fun w' => w'.cell? ⟨b, 0, none⟩ = some (.slice Ay ny cy) ∧ w'.cell? ⟨b, 1, none⟩ = some (.slice Ar nr cr) ∧ w'.cell? ⟨b, 2, none⟩ = some (.int .i64 z)) (first | exact q1 | exact q0d | exact q0 | go_keep)
          (first
            | (go_at_call 55
               refine (HD.out _ hdw).mono ?_
               rintro e w1 ⟨rfl, hb1x⟩
               have hb1 : Below w.heap.size w w1 := hdw.trans hb1x
               have q1 := HQ.out _ hb1))
        have hd1 : Below w.heap.size w w1.drew := hb1.drew
        have q1d := HQ.out _ hd1
        clear hb1x HD q0 q0d hdw
        go_upto_region 3 with fail
        go_region_held3 (fun w' => w'.cell? ⟨b, 0, none⟩ = some (.slice Ay ny cy) ∧ w'.cell? ⟨b, 1, none⟩ = some (.slice Ar nr cr) ∧ w'.cell? ⟨b, 2, none⟩ = some (.int .i64 z)) (first | exact q2 | exact q1d | exact q1 | go_keep)
          (first
            | (go_at_call 17
               refine (HX.out _ hd1).mono ?_
               rintro e w2 ⟨rfl, hb2x⟩
               have hb2 : Below w.heap.size w w2 := hd1.trans (hb2x.mono hd1.size)
               have q2 := HQ.out _ hb2))
        go_upto_region 9 with (first
          | (go_at_call 28
             refine (HHa.out _ hb2).mono ?_
             rintro e w3 ⟨rfl, hb3x⟩
             have hb3 : Below w.heap.size w w3 := hb2.trans (hb3x.mono hb2.size)
             have q3 := HQ.out _ hb3)
          | (go_at_call 29
             refine (HGa.out _ hb3).mono ?_
             rintro e w4 ⟨A4, n4, c4, B4, rs4, rfl, hR4, hb4x⟩))
        have hb4 := hb3.trans (hb4x.mono hb3.size)
        obtain ⟨W5, hW5⟩ : ∃ W, W = w4.alloc (.cells #[.string a, .slice A4 n4 c4] 77) := ⟨_, rfl⟩
        have hM5 : Blk W5 w4.heap.size 77 #[.string a, .slice A4 n4 c4] := by rw [hW5]; exact Blk.new _ _ _
        have hR5 : RlOn W5 A4 n4 k1 := by rw [hW5]; exact (hR4.below (Span.alloc_b _)).on
        have hb5 : Below w.heap.size w W5 := by rw [hW5]; exact hb4.alloc hb4.size _
        rw [← hW5]
        have hn4 : n4 ≤ 30 := by rw [← hR5.len]; exact hk30
        have HE := hide (fun (wx : World) (hx : Below W5.heap.size W5 wx) => (⟨(HQ.out wx (hb5.trans (hx.mono hb5.size))).1, (HQ.out wx (hb5.trans (hx.mono hb5.size))).2.1, ((hM5.below hx hM5.lt).cell 0).trans rfl, ((hM5.below hx hM5.lt).cell 1).trans rfl⟩ :
          wx.cell? ⟨b, 0, none⟩ = some (.slice Ay ny cy) ∧ wx.cell? ⟨b, 1, none⟩ = some (.slice Ar nr cr) ∧ wx.cell? ⟨w4.heap.size, 0, none⟩ = some (.string a) ∧ wx.cell? ⟨w4.heap.size, 1, none⟩ = some (.slice A4 n4 c4)))
        clear hW5 hR4 hb4x hb4 hb3 hb3x q3 q2 hb2 hb2x hb1 hd1 q1 q1d hbR HX HHa HGa hM5
        generalize w4.heap.size = gm at *
        have h5d : Below W5.heap.size W5 W5.drew := (Below.refl _ _).drew
        have e0 := HE.out _ (Below.refl _ _)
        have e0d := HE.out _ h5d
        go_region_held3 (fun w' => w'.cell? ⟨b, 0, none⟩ = some (.slice Ay ny cy) ∧ w'.cell? ⟨b, 1, none⟩ = some (.slice Ar nr cr) ∧ w'.cell? ⟨gm, 0, none⟩ = some (.string a) ∧ w'.cell? ⟨gm, 1, none⟩ = some (.slice A4 n4 c4)) (first | exact e7 | exact e6 | exact e0d | exact e0 | go_keep)
          (first
            | (go_at_call 20
               refine (HAa.out _ (hb5.trans (h5d.mono hb5.size))).mono ?_
               rintro e w6 ⟨A6, n6, c6, rfl, hS6, hb6x⟩
               have hb6 : Below W5.heap.size W5 w6 := h5d.trans hb6x
               have hR6 := hR5.on hb6
               have e6 := HE.out _ hb6)
            | (go_at_call 56
               refine (HDn.out _ _ _ _ _ _ _ hR6 hn4 hS6).mono ?_
               rintro e w7 ⟨A7, n7, c7, rfl, hV7, hb7x⟩
               have hb7 : Below W5.heap.size W5 w7 := hb6.trans (hb7x.mono hb6.size)
               have e7 := HE.out _ hb7))
        have hbw7 := hb5.trans (hb7.mono hb5.size)
        have hB7 := hB.below hbw7 hB.lt
        have hN7 := hN.below hbw7
        have hVl : V.length = n7 := by
          obtain ⟨A', c', _, _, hI⟩ := own_ints hV7
          exact hI.len
        clear e0 e0d e6 e7 h5d hb6x hR6 hb7x hb7 hb6 hS6 HE hR5 hb5 HAa HDn hB hN HQ
        go_wp2
        go_loopw [12] (fun v wr => ∃ (i : Nat) (y : Int), i ≤ n7 ∧ v = .int .i64 (i : Int) ∧ Hid (RT = triesX (onX X root g) (fun v => putP l (a, v)) (V.drop i) y.toNat) ∧ y ≤ z ∧ y.toNat < g + 1 ∧ Blk wr b 82 #[.slice Ay ny cy, .slice Ar nr cr, .int .i64 y] ∧ NewP wr 0 Al nl cl l ∧ wr.ownsRow 0 3 1 (.slice A7 n7 c7) n7 (ics V) ∧ w.grownBy wr (some b)) (fun v _ => n7 - (RowKit.intOf v).toNat)
        case atStart => exact ⟨0, z, by omega, rfl, HRT, by omega, hz, hB7, hN7, hV7, only_of_below hbw7 _⟩
        case round =>
          obtain ⟨i, y, hi, rfl, hrt, hyz, hyg, hB, hN, hV, hg⟩ := hrel
          have hgs := hg.size
          have hwr : Below w0.heap.size w0 wr := hw.grown hg hw.size (fun k hk => by injection hk with hk; omega)
          have m0 := hB.cell 0
          have m2 := hB.cell 2
          have fz := hB.frozen 2
          clear hB7 hN7 hV7 hbw7 HRT
          by_cases hlt : i < n7
          · obtain ⟨A', c', e', _, hI⟩ := own_ints hV
            injection e' with ea en ec
            subst ea ec
            obtain ⟨ad, u, rfl, had, hu, hc⟩ := Reads.at_ hI hlt
            obtain ⟨v, hv, rfl⟩ : ∃ v, V[i]? = some v ∧ Value.int .i64 v = u := by
              unfold ics at hu
              rw [List.getElem?_map] at hu
              obtain ⟨v, h1, h2⟩ := Option.map_eq_some_iff.1 hu
              exact ⟨v, h1, h2⟩
            have hvV := List.mem_of_getElem? hv
            have hu9 : (ics V)[i]? = some (.int .i64 v) := hu
            have i1 : (0 : Int) ≤ (i : Int) := by omega
            have i2 : (i : Int) < (n7 : Int) := by omega
            by_cases hy : y ≤ 0
            · have e : Hid (RT = (.spent, 0)) := hide (by rw [hrt.out, show y.toNat = 0 by omega]; exact tries_spent hv)
              clear hu hc hv hrt hI hV hN Hon hwv HPt
              go_wp2
              go_ret3
              have e2 : RT.2 = y.toNat := by rw [e.out]; show 0 = y.toNat; omega
              first | exact ⟨none, 0, 0, y, by rw [e.out]; rfl, by rw [e.out]; exact NewP.nil_ _ _, e2.symm, hyz, hB, hg⟩ | exact ⟨none, 0, 0, by rw [e.out]; rfl, by rw [e.out]; exact NewP.nil_ _ _, y, e2.symm, hyz, hB, hg⟩
            · have hy0 : 0 < y := by omega
              have hsub : IntKind.i64.wrap (y - 1) = y - 1 := by rw [IntKind.wrap_i64]; omega
              have hf1 : (y - 1).toNat = y.toNat - 1 := by omega
              obtain ⟨r1, hr1⟩ : ∃ r1, r1 = onX X root g (y - 1).toNat (putP l (a, v)) := ⟨_, rfl⟩
              have hgx : (y - 1).toNat < g := by omega
              have hHo := hide (fun (A9 : Option Addr) (n9 c9 : Nat) (wx : World) (h1 : Below w0.heap.size w0 wx) (h2' : Blk wx b 82 #[.slice Ay ny cy, .slice Ar nr cr, .int .i64 (y - 1)]) (h3 : NewP wx 0 A9 n9 c9 (putP l (a, v))) => Hon.out (y - 1) (putP l (a, v)) A9 n9 c9 wx h1 h2' h3 (hwv.out v hvV) hgx (by omega))
              rw [← hr1] at hHo
              have hHp := hide (fun (wx : World) (hN9 : NewP wx 0 Al nl cl l) => HPt.out v wx hN9)
              obtain ⟨t1, f1⟩ := r1
              rw [hf1] at hr1
              have hnx : t1 = .nothing → RT = triesX (onX X root g) (fun v => putP l (a, v)) (V.drop (i + 1)) f1 := fun ht => by
                subst ht
                rw [hrt.out]
                exact tries_next hv (by omega) hr1.symm
              have hst : t1 ≠ .nothing → RT = (t1, f1) := fun ht => by
                rw [hrt.out]
                exact tries_stop hv (by omega) hr1.symm ht
              have Hnx := hide hnx
              have Hst := hide hst
              clear hnx hst hr1 hv hu hrt Hon hwv HPt hvV hI
              go_upto_region 16 with fail
              obtain ⟨W8, hW8⟩ : ∃ W, W = wr.setCell ⟨b, 2, none⟩ (.int .i64 (y - 1)) := ⟨_, rfl⟩
              rw [← hW8]
              have hg8 : wr.grownBy W8 (some b) := by rw [hW8]; exact only_setCell (p := ⟨b, 2, none⟩) (only_self wr b) (.inl rfl) _
              have hB8 : Blk W8 b 82 #[.slice Ay ny cy, .slice Ar nr cr, .int .i64 (y - 1)] := by rw [hW8]; exact hB.set_ 2 (.int .i64 (y - 1))
              have hN8 := newP_far hB hg8 hN
              have hV8 := own_far hV (farT_blk hB (by decide)) hg8
              have hc8 : W8.cell? (ad.add i) = some (.int .i64 v) := by
                obtain ⟨A', c', e', _, hI8⟩ := own_ints hV8
                injection e' with ea en ec
                subst ea ec
                obtain ⟨ad', u', ea', _, hu', hc'⟩ := Reads.at_ hI8 hlt
                injection ea' with ea'
                subst ea'
                rw [hc']
                exact hu'.symm.trans (hu9.trans rfl)
              have hw8 : Below w0.heap.size w0 W8 := hwr.grown hg8 hwr.size (fun k hk => by injection hk with hk; omega)
              have hgw8 := hg.trans hg8
              clear hW8 hg8 hB hN hV hc m0 m2 fz hwr hg
              cases ht : t1 with
              | nothing =>
                have e : Hid (RT = triesX (onX X root g) (fun v => putP l (a, v)) (V.drop (i + 1)) f1) := hide (Hnx.out ht)
                rw [ht] at hHo
                simp only [kindT, nameT, picksT] at hHo
                clear Hnx Hst
                go_wp2_with (first
                  | (go_at_call 57
                     refine (hHp.out _ hN8).mono ?_
                     rintro e w9 ⟨A9, n9, c9, rfl, hN9, hb9⟩
                     have hw9 : Below w0.heap.size w0 w9 := hw8.trans (hb9.mono hw8.size)
                     have hB9 := hB8.below hb9 hB8.lt
                     have hNl9 := hN8.below hb9
                     have hV9 := own_below hV8 hb9
                     have hgw9 := hgw8.trans (only_of_below hb9 _))
                  | (go_at_call 30
                     refine (hHo.out _ _ _ _ hw9 hB9 hN9).mono ?_
                     rintro e w10 ⟨A10, n10, c10, y2, rfl, hP10, hf10, hy10, hB10, hg10⟩
                     have hN10 := newP_far hB9 hg10 hNl9
                     have hV10 := own_far hV9 (farT_blk hB9 (by decide)) hg10
                     have hgw10 := hgw9.trans hg10))
                go_roundw
                case rel => exact ⟨i + 1, y2, by omega, by go_num, by rw [hf10]; exact e, by omega, by omega, hB10, hN10, hV10, hgw10⟩
                case measure => simp [RowKit.intOf]; omega
              | _ =>
                have hne : t1 ≠ .nothing := by rw [ht]; intro h; cases h
                have e : Hid (RT = (t1, f1)) := hide (Hst.out hne)
                have hk2 : (kindT t1 != 2) = true := by rw [ht]; rfl
                clear Hnx Hst ht hne
                have e1 : RT.1 = t1 := by rw [e.out]
                have e2 : RT.2 = f1 := by rw [e.out]
                rw [← e1] at hHo hk2
                clear e e1
                go_wp2_with (first
                  | (go_at_call 57
                     refine (hHp.out _ hN8).mono ?_
                     rintro e w9 ⟨A9, n9, c9, rfl, hN9, hb9⟩
                     have hw9 : Below w0.heap.size w0 w9 := hw8.trans (hb9.mono hw8.size)
                     have hB9 := hB8.below hb9 hB8.lt
                     have hNl9 := hN8.below hb9
                     have hV9 := own_below hV8 hb9
                     have hgw9 := hgw8.trans (only_of_below hb9 _))
                  | (go_at_call 30
                     refine (hHo.out _ _ _ _ hw9 hB9 hN9).mono ?_
                     rintro e w10 ⟨A10, n10, c10, y2, rfl, hP10, hf10, hy10, hB10, hg10⟩
                     have hN10 := newP_far hB9 hg10 hNl9
                     have hV10 := own_far hV9 (farT_blk hB9 (by decide)) hg10
                     have hgw10 := hgw9.trans hg10))
                go_ret3
                exact ⟨A10, n10, c10, y2, rfl, hP10, by rw [hf10, e2], by omega, hB10, hgw10⟩
          · have hi2 : i = n7 := by omega
            have e : Hid (RT = (.nothing, y.toNat)) := hide (by rw [hrt.out, List.drop_of_length_le (by omega)]; rfl)
            clear hrt hV hN Hon hwv HPt m0 m2 fz
            go_wp2
            go_ret3
            have e2 : RT.2 = y.toNat := by rw [e.out]
            first | exact ⟨none, 0, 0, y, by rw [e.out]; rfl, by rw [e.out]; exact NewP.nil_ _ _, e2.symm, hyz, hB, hg⟩ | exact ⟨none, 0, 0, by rw [e.out]; rfl, by rw [e.out]; exact NewP.nil_ _ _, y, e2.symm, hyz, hB, hg⟩
end
end Go.Proofs.YtmoeilkaadnnoaaGreat.Plain
namespace Go.Proofs.YtmoeilkaadnnoaaGreat.Plain
open Go Go.RowKit Go.Lib Go.Sort Go.Proofs.YtmoeilkaadnnoaaGreat.Span Go.Proofs.YtmoeilkaadnnoaaGreat.Need Go.Proofs.YtmoeilkaadnnoaaGreat.Mani Go.Proofs.YtmoeilkaadnnoaaGreat.Wire Go.Proofs.YtmoeilkaadnnoaaGreat.Depot Go.Proofs.YtmoeilkaadnnoaaGreat.Index Go.Proofs.YtmoeilkaadnnoaaGreat.Pick Go.Proofs.YtmoeilkaadnnoaaGreat.Fit
set_option linter.unusedVariables false
theorem two_off {w : World} {g : Nat} {u v : Value} {p : Addr} (h : p.block ≠ g) : ((w.setCell ⟨g, 0, none⟩ u).setCell ⟨g, 1, none⟩ v).cell? p = w.cell? p := by
  have h1 := only_setCell (p := ⟨g, 1, none⟩) (only_setCell (p := ⟨g, 0, none⟩) (only_self w g) (.inl rfl) u) (.inl rfl) v
  rcases Nat.lt_or_ge p.block w.heap.size with hlt | hge
  · exact World.cell?_of_block (h1.block _ hlt (fun e => h (by injection e)))
  · have e1 : ((w.setCell ⟨g, 0, none⟩ u).setCell ⟨g, 1, none⟩ v).heap.size = w.heap.size := by simp
    have a1 : w.heap[p.block]? = none := by simp; omega
    have a2 : ((w.setCell ⟨g, 0, none⟩ u).setCell ⟨g, 1, none⟩ v).heap[p.block]? = none := by simp; omega
    simp only [World.cell?, a1, a2]
theorem need_next {L : List Nd} {f : Nd → Bool} {i : Nat} {q : Nd} (h : L[i]? = some q) : (L.drop i).find? f = if f q = true then some q else (L.drop (i + 1)).find? f := by
  obtain ⟨hi, e⟩ := List.getElem?_eq_some_iff.1 h
  rw [List.drop_eq_getElem_cons hi, e, List.find?_cons]
  cases g : f q <;> simp
theorem solve_lack {X : List Kn} {root : List Nd} {fuel : Nat} {q : Nd} (h : (root.find? fun q : Nd => (atX X q.1).isNone) = some q) : solveX X root fuel = .lacks q.1 := by unfold solveX; rw [h]
theorem solve_bad {X : List Kn} {root : List Nd} {fuel : Nat} {q : Nd} (h1 : (root.find? fun q : Nd => (atX X q.1).isNone) = none) (h : (root.find? fun q : Nd => !(getX X q.1).2) = some q) : solveX X root fuel = .broken q.1 := by unfold solveX; rw [h1, h]
theorem solve_go {X : List Kn} {root : List Nd} {fuel : Nat} (h1 : (root.find? fun q : Nd => (atX X q.1).isNone) = none) (h : (root.find? fun q : Nd => !(getX X q.1).2) = none) : solveX X root fuel = (onX X root (fuel + 1) fuel []).1 := by unfold solveX; rw [h1, h]
section
variable (X : List Kn) (root : List Nd) (Ay : Option Addr) (ny cy : Nat) (Ar : Option Addr) (nr cr : Nat) (b : Nat) (w : World)
theorem refOn_any (hK : InK w Ay ny X) (hny : ny ≤ 1000000) (hf : FineX X) (hs : SetX X) (hv : VerX X) (hr : RisesK X) (hXl : X.length ≤ 60) (hr0 : NdOn w Ar nr root) (hok : okS root = true) (hr9 : ∀ q ∈ root, q.1.size ≤ 100) (hbB : w.heap.size ≤ b) : ∀ g, OnC X root Ay ny cy Ar nr cr b w g
  | 0 => fun z l Al nl cl w' hw hB hN hW hz h2 => by omega
  | g + 1 => on_step X root Ay ny cy Ar nr cr b w hK hny hf hs hv hr hXl hr0 hok hr9 hbB g (refOn_any hK hny hf hs hv hr hXl hr0 hok hr9 hbB g)
set_option maxHeartbeats 16000000 in
set_option maxRecDepth 100000 in
theorem refSolveX_any (fuel : Int) (hK : InK w Ay ny X) (hny : ny ≤ 1000000) (hf : FineX X) (hs : SetX X) (hv : VerX X) (hr : RisesK X) (hXl : X.length ≤ 60) (hr0 : NdOn w Ar nr root) (hok : okS root = true) (hr9 : ∀ q ∈ root, q.1.size ≤ 100) (h2 : fuel ≤ 2000) :
    Calls Tryz.prog 11 #[.agg #[.slice Ay ny cy], .slice Ar nr cr, .int .i64 fuel] w (Solves w (solveX X root fuel.toNat)) := by
  unfold Solves
  have hrl := hr0.len
  have hnr : nr ≤ 6 := by rw [← hrl]; exact (okS_parts hok).2.1
  have Hrl := hide hrl
  have HH := hide (fun (a : ByteArray) (wx : World) (hx : Below w.heap.size w wx) => Index.refHas_any X a Ay ny cy wx (hK.below hx) hny)
  have HG := hide (fun (a : ByteArray) (wx : World) (hx : Below w.heap.size w wx) => refGetX_any X a Ay ny cy wx (hK.below hx) hny)
  unfold Tells at HH
  unfold Gots at HG
  have HO := hide (fun (b : Nat) (hbB : w.heap.size ≤ b) => refOn_any X root Ay ny cy Ar nr cr b w hK hny hf hs hv hr hXl hr0 hok hr9 hbB (fuel.toNat + 1))
  unfold OnC OnPost at HO
  have Hd1 := hide (fun (i : Nat) (q : Nd) (h : root[i]? = some q) => need_next (f := fun q : Nd => (atX X q.1).isNone) h)
  have Hd2 := hide (fun (i : Nat) (q : Nd) (h : root[i]? = some q) => need_next (f := fun q : Nd => !(getX X q.1).2) h)
  obtain ⟨RT, hRT⟩ : ∃ RT, RT = solveX X root fuel.toNat := ⟨_, rfl⟩
  rw [← hRT]
  obtain ⟨R1, hR1⟩ : ∃ R1, R1 = root.find? fun q : Nd => (atX X q.1).isNone := ⟨_, rfl⟩
  obtain ⟨R2, hR2⟩ : ∃ R2, R2 = root.find? fun q : Nd => !(getX X q.1).2 := ⟨_, rfl⟩
  have Sl := hide (fun (q : Nd) (h : R1 = some q) => (show RT = .lacks q.1 by rw [hRT]; exact solve_lack (hR1.symm.trans h)))
  have Sb := hide (fun (q : Nd) (h1 : R1 = none) (h : R2 = some q) => (show RT = .broken q.1 by rw [hRT]; exact solve_bad (hR1.symm.trans h1) (hR2.symm.trans h)))
  have So := hide (fun (h1 : R1 = none) (h : R2 = none) => (show RT = (onX X root (fuel.toNat + 1) fuel.toNat []).1 by rw [hRT]; exact solve_go (hR1.symm.trans h1) (hR2.symm.trans h)))
  have H1 : Hid (R1 = (root.drop 0).find? fun q : Nd => (atX X q.1).isNone) := hide hR1
  have H2 : Hid (R2 = (root.drop 0).find? fun q : Nd => !(getX X q.1).2) := hide hR2
  have b0 := Blk.new w 35 #[.slice Ay ny cy]
  have hb0 := alloc_b w (.cells #[.slice Ay ny cy] 35)
  have hWn := Way.nil X root
  clear hK hny hf hs hv hr hXl hok hrl hRT hR1 hR2 hr9
  go_enter Tryz.func11, Tryz.ntmps11
  go_wp2
  go_loopw [9] (fun t wr => ∃ (i : Nat), i ≤ nr ∧ t = .int .i64 (i : Int) ∧ Hid (R1 = (root.drop i).find? fun q : Nd => (atX X q.1).isNone) ∧ Blk wr w.heap.size 35 #[.slice Ay ny cy] ∧ Below w.heap.size w wr) (fun t _ => nr - (RowKit.intOf t).toNat)
  case atStart => exact ⟨0, by omega, rfl, H1, b0, hb0⟩
  case round =>
    obtain ⟨i, hi, rfl, hff, hB, hb⟩ := hrel
    have hbs := hb.size
    clear b0 hb0 H1
    by_cases hlt : i < nr
    · obtain ⟨ad, q, A', n', c', rfl, hbl, hx, hss, c1, c2⟩ := NdIn.at_ (NdIn.below hr0 hb) hlt
      have hbl2 : ad.block < wr.heap.size := by omega
      have hd := hff.out.trans (Hd1.out i q hx)
      obtain ⟨x, s⟩ := q
      simp only [] at c1 c2 hd
      have HHx := hide (fun (wx : World) (hb8 : Below wr.heap.size wr wx) => HH.out x wx (hb.trans (hb8.mono hbs)))
      have kX := (hB.cell 0).trans (show (#[Value.slice Ay ny cy] : Array Value)[0]? = some (.slice Ay ny cy) from rfl)
      have hXlt := hB.lt
      have i1 : (0 : Int) ≤ (i : Int) := by omega
      have i2 : (i : Int) < (nr : Int) := by omega
      clear hx hff HH HG HO hss Sb So hWn c2 Hd2 H2
      have hdr : Below wr.heap.size wr wr.drew := (Below.refl _ _).drew
      cases g : atX X x with
      | none =>
        rw [g] at HHx
        have e : Hid (RT = .lacks x) := hide (Sl.out (x, s) (by rw [hd, g]; rfl))
        clear hd Hd1 Sl g
        go_upto_region 4 with fail
        have kc : wr.cell? ⟨w.heap.size, 0, none⟩ = some (.slice Ay ny cy) ∧ wr.cell? (ad.add (i * 2)) = some (.string x) := ⟨kX, c1⟩
        go_region_held3 (fun w' => w'.cell? ⟨w.heap.size, 0, none⟩ = some (.slice Ay ny cy) ∧ w'.cell? (ad.add (i * 2)) = some (.string x)) (first | exact kc8 | exact kc | go_keep)
          (first
            | (go_at_call 28
               refine (HHx.out _ hdr).mono ?_
               rintro e w8 ⟨rfl, hb8⟩
               have hb8k : Below wr.heap.size wr w8 := hdr.trans hb8
               have kc8 : w8.cell? ⟨w.heap.size, 0, none⟩ = some (.slice Ay ny cy) ∧ w8.cell? (ad.add (i * 2)) = some (.string x) :=
                 ⟨(hb8k.cell (p := ⟨w.heap.size, 0, none⟩) hXlt).trans kX, (hb8k.cell (p := ad.add (i * 2)) (by rw [block_of_add]; exact hbl2)).trans c1⟩))
        have c3 := kc8.2
        have hb10 := hb.trans (hb8k.mono hbs)
        clear kc kc8 c1 kX
        go_upto_region 5 with fail
        go_quiet (fail)
        go_wp2
        go_ret3
        exact ⟨none, 0, 0, by rw [e.out]; rfl, by rw [e.out]; exact NewP.nil_ _ _, below_drewN hb10 _⟩
      | some k =>
        rw [g] at HHx
        have e : Hid (R1 = (root.drop (i + 1)).find? fun q : Nd => (atX X q.1).isNone) := hide (by rw [hd, g]; rfl)
        clear hd Hd1 Sl g
        go_upto_region 4 with fail
        have kc : wr.cell? ⟨w.heap.size, 0, none⟩ = some (.slice Ay ny cy) ∧ wr.cell? (ad.add (i * 2)) = some (.string x) := ⟨kX, c1⟩
        go_region_held3 (fun w' => w'.cell? ⟨w.heap.size, 0, none⟩ = some (.slice Ay ny cy) ∧ w'.cell? (ad.add (i * 2)) = some (.string x)) (first | exact kc8 | exact kc | go_keep)
          (first
            | (go_at_call 28
               refine (HHx.out _ hdr).mono ?_
               rintro e w8 ⟨rfl, hb8⟩
               have hb8k : Below wr.heap.size wr w8 := hdr.trans hb8
               have kc8 : w8.cell? ⟨w.heap.size, 0, none⟩ = some (.slice Ay ny cy) ∧ w8.cell? (ad.add (i * 2)) = some (.string x) :=
                 ⟨(hb8k.cell (p := ⟨w.heap.size, 0, none⟩) hXlt).trans kX, (hb8k.cell (p := ad.add (i * 2)) (by rw [block_of_add]; exact hbl2)).trans c1⟩))
        have hb10 := hb.trans (hb8k.mono hbs)
        have hB10 := hB.below hb8k hB.lt
        clear kc kc8 c1 kX
        go_wp2
        go_roundw
        case rel => exact ⟨i + 1, by omega, by go_num, e, hB10, hb10⟩
        case measure => simp [RowKit.intOf]; omega
    · have hi2 : i = nr := by omega
      have e1 : R1 = none := by rw [hff.out, hi2, List.drop_of_length_le (by have := Hrl.out; omega)]; rfl
      clear hff Hd1 Sl HH hi2
      go_wp2
      go_loopw [10] (fun t wz => ∃ (i : Nat), i ≤ nr ∧ t = .int .i64 (i : Int) ∧ Hid (R2 = (root.drop i).find? fun q : Nd => !(getX X q.1).2) ∧ Blk wz w.heap.size 35 #[.slice Ay ny cy] ∧ Below w.heap.size w wz) (fun t _ => nr - (RowKit.intOf t).toNat)
      case atStart => exact ⟨0, by omega, rfl, H2, hB, hb⟩
      case round =>
        obtain ⟨i, hi, rfl, hff, hB, hb⟩ := hrel
        have hbs := hb.size
        clear H2
        by_cases hlt2 : i < nr
        · obtain ⟨ad, q, A', n', c', rfl, hbl, hx, hss, c1, c2⟩ := NdIn.at_ (NdIn.below hr0 hb) hlt2
          have hbl2 : ad.block < wr.heap.size := by omega
          have hd := hff.out.trans (Hd2.out i q hx)
          obtain ⟨x, s⟩ := q
          simp only [] at c1 c2 hd
          have HGx := hide (fun (wx : World) (hb8 : Below wr.heap.size wr wx) => HG.out x wx (hb.trans (hb8.mono hbs)))
          have kX := (hB.cell 0).trans (show (#[Value.slice Ay ny cy] : Array Value)[0]? = some (.slice Ay ny cy) from rfl)
          have hXlt := hB.lt
          have i1 : (0 : Int) ≤ (i : Int) := by omega
          have i2 : (i : Int) < (nr : Int) := by omega
          clear hx hff HG HO hss So hWn c2
          go_upto_region 9 with fail
          go_cut [12] (fun u wx => u = .bool (getX X x).2 ∧ Below wr.heap.size wr wx)
          case first =>
            clear Sb Hd2 hd
            generalize (getX X x).2 = g2 at *
            generalize (getX X x).1 = g1 at *
            go_region_held3 (fun w' => w'.cell? ⟨w.heap.size, 0, none⟩ = some (.slice Ay ny cy) ∧ w'.cell? (ad.add (i * 2)) = some (.string x)) (first | exact ⟨kX4 _ _, hc4 _ _⟩ | exact ⟨kX3, hc3⟩ | exact ⟨kX, c1⟩ | go_keep)
              (first
                | (go_at_call 29
                   refine (HGx.out _ ?_).mono ?_
                   · first | exact (Below.refl _ _).drew | exact ((Below.refl _ _).alloc (Nat.le_refl _) _).drew
                   rintro e w3 ⟨A3, n3, c3, B3, rs3, rfl, hR3, hb3⟩
                   have hb3' : Below wr.heap.size wr w3 := by first | exact ((Below.refl _ _).drew).trans hb3 | exact ((alloc_b _ _).drew).trans (hb3.mono (by simp))
                   have kX3 := (hb3'.cell (p := ⟨w.heap.size, 0, none⟩) hXlt).trans kX
                   have hc3 := (hb3'.cell (p := ad.add (i * 2)) (by rw [block_of_add]; exact hbl2)).trans c1
                   try
                     have hM3 : Blk w3 wr.heap.size 77 #[.string ⟨#[]⟩, .slice none 0 0] := ((Blk.new wr 77 #[.string ⟨#[]⟩, .slice none 0 0]).drew).below hb3 (by simp)
                     have fz0 := hM3.frozen 0
                     have fz1 := hM3.frozen 1
                     have kM0 := (hM3.cell 0).trans (show (#[Value.string ⟨#[]⟩, .slice none 0 0] : Array Value)[0]? = some (.string ⟨#[]⟩) from rfl)
                     have kM1 := (hM3.cell 1).trans (show (#[Value.string ⟨#[]⟩, .slice none 0 0] : Array Value)[1]? = some (.slice none 0 0) from rfl)
                     have kX4 := fun u v => (two_off (w := w3) (g := wr.heap.size) (u := u) (v := v) (p := ⟨w.heap.size, 0, none⟩) (Nat.ne_of_lt hXlt)).trans kX3
                     have hc4 := fun u v => (two_off (w := w3) (g := wr.heap.size) (u := u) (v := v) (p := ad.add (i * 2)) (by rw [block_of_add]; exact Nat.ne_of_lt hbl2)).trans hc3))
            all_goals (try go_wp2_with fail)
            all_goals (go_meet; first
              | exact ⟨rfl, hb3'.alloc hb3'.size _⟩
              | exact ⟨rfl, (hb3'.setCell (p := ⟨wr.heap.size, 0, none⟩) (Nat.le_refl _) _).setCell (p := ⟨wr.heap.size, 1, none⟩) (Nat.le_refl _) _⟩)
          case rest =>
            obtain ⟨rfl, hbk⟩ := hcut
            have hb10 := hb.trans (hbk.mono hbs)
            have hB10 := hB.below hbk hB.lt
            have c3 := (hbk.cell (p := ad.add (i * 2)) (by rw [block_of_add]; exact hbl2)).trans c1
            clear c1 kX
            cases g : (getX X x).2 with
            | false =>
              have e : Hid (RT = .broken x) := hide (Sb.out (x, s) e1 (by rw [hd, g]; rfl))
              clear hd Hd2 Sb g
              go_upto_region 11 with fail
              go_quiet (fail)
              go_wp2
              go_ret3
              exact ⟨none, 0, 0, by rw [e.out]; rfl, by rw [e.out]; exact NewP.nil_ _ _, below_drewN hb10 _⟩
            | true =>
              have e : Hid (R2 = (root.drop (i + 1)).find? fun q : Nd => !(getX X q.1).2) := hide (by rw [hd, g]; rfl)
              clear hd Hd2 Sb g
              go_wp2
              go_roundw
              case rel => exact ⟨i + 1, by omega, by go_num, e, hB10, hb10⟩
              case measure => simp [RowKit.intOf]; omega
        · have hi2 : i = nr := by omega
          have e2 : R2 = none := by rw [hff.out, hi2, List.drop_of_length_le (by have := Hrl.out; omega)]; rfl
          have e := hide (So.out e1 e2)
          clear hff Hd2 Sb HG hi2 So
          have kX := (hB.cell 0).trans (show (#[Value.slice Ay ny cy] : Array Value)[0]? = some (.slice Ay ny cy) from rfl)
          have hbB := hb.size
          have hbA := hb.alloc hb.size (.cells #[.slice Ay ny cy, .slice Ar nr cr, .int .i64 fuel] 82)
          have hBs := Blk.new wr 82 #[.slice Ay ny cy, .slice Ar nr cr, .int .i64 fuel]
          have HOx := hide (HO.out wr.heap.size hbB fuel [] none 0 0 _ hbA hBs (NewP.nil_ _ _) hWn (by omega) h2)
          rw [← e.out] at HOx
          clear HO hWn e hBs
          go_wp2_with (first
            | (go_at_call 30
               refine HOx.out.mono ?_
               rintro e w10 ⟨A10, n10, c10, y2, rfl, hP10, hf10, hy10, hB10, hg10⟩
               have hbz : Below w.heap.size w w10 := hbA.grown hg10 hbA.size (fun k hk => by injection hk with hk; omega)))
          go_ret3
          exact ⟨A10, n10, c10, rfl, hP10, hbz⟩
end
end Go.Proofs.YtmoeilkaadnnoaaGreat.Plain
