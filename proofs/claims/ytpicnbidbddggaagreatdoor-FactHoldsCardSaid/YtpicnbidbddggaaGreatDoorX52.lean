/-
  Some texts of this claim, one behind the other: FactProg. What each proves, and its condition, stands at its head.
-/
import Derived.Test.YtpicnbidbddggaaGreatDoorX49
import Derived.Test.YtpicnbidbddggaaGreatDoorX50
import Derived.Test.YtpicnbidbddggaaGreatDoorX25
/-
  The contracts of the program's Asked, Released, Root and All of facts. Condition: needs that may be; what an index holds that was put together.
-/
namespace Go.Proofs.YtpicnbidbddggaaGreatDoor.Fact
open Go Go.RowKit Go.Lib Go.Sort Go.Proofs.YtpicnbidbddggaaGreatDoor.Span Go.Proofs.YtpicnbidbddggaaGreatDoor.Need Go.Proofs.YtpicnbidbddggaaGreatDoor.Mani Go.Proofs.YtpicnbidbddggaaGreatDoor.Index Go.Proofs.YtpicnbidbddggaaGreatDoor.Reach Go.Proofs.YtpicnbidbddggaaGreatDoor.Grow Go.Proofs.YtpicnbidbddggaaGreatDoor.Term Go.Proofs.YtpicnbidbddggaaGreatDoor.Clash Go.Proofs.YtpicnbidbddggaaGreatDoor.Fit
open Go.Proofs.YtpicnbidbddggaaGreatDoor.Label (runes fitL)
set_option linter.unusedVariables false
theorem short_needs {l : List Nd} (hok : okS l = true) : ∀ q ∈ l, q.1.size ≤ 1000000000 ∧ q.2.length ≤ 1000000001 := fun q hq => by
  obtain ⟨ho, _, _, hsets⟩ := okS_parts hok
  have h1 := Label.fit_small q.1 (ok_all ho _ hq).2.1
  have h2 : isSet (-1) q.2 = true ∧ q.2.length ≤ 6 := hsets _ hq
  omega
set_option maxHeartbeats 2000000 in
set_option maxRecDepth 100000 in
theorem specAskedF : SpecAskedF := by
  intro root nm A n c w h hn hok hnm
  have HF := hide (findN_any root nm A n c w h (short_needs hok) (by omega))
  unfold Finds at HF
  unfold MakesC
  cases f : findS root nm with
  | none =>
    have e : askedC root nm = none := by unfold askedC; rw [f]
    rw [e]
    rw [f] at HF
    clear e f hok h hn hnm
    go_enter Tryz.func22, Tryz.ntmps22
    go_wp2_with (first
      | (go_at_call 38
         refine HF.out.mono ?_
         rintro e w1 ⟨A1, n1, c1, rfl, h1, hb1⟩))
    go_ret2
    exact ⟨none, 0, 0, rfl, (TmR.nil _ _ _).in_, hb1⟩
  | some s =>
    have e : askedC root nm = makeC [unmetT nm s] := by unfold askedC; rw [f]
    rw [e]
    rw [f] at HF
    have hq : (nm, s) ∈ root := find_in f
    obtain ⟨ho, _, _, hsets⟩ := okS_parts hok
    have hfit := (ok_all ho _ hq).2.1
    have hset : isSet (-1) s = true ∧ s.length ≤ 6 := hsets _ hq
    have hl7 := unmet_len (n := nm) hset.1 hset.2
    have hut := unmet_ok (n := nm) s hfit
    have HM := hide (fun (wx : World) (Aq : Option Addr) (cq : Nat) (hq : TmR wx wx.heap.size Aq 1 [unmetT nm s]) => makeR_any [unmetT nm s] Aq 1 cq wx hq.in_ (fine_one1 hut (by omega)) (fun t ht => by rw [List.mem_singleton.1 ht]; exact hut))
    unfold MakesR at HM
    have HU := hide (fun (wx : World) (A1 : Option Addr) (n1 c1 : Nat) (hx : SpOn wx A1 n1 s) => unmetF_any nm s A1 n1 c1 wx hx hnm hset.1)
    unfold Term.MakesT at HU
    generalize makeC [unmetT nm s] = R at *
    generalize unmetT nm s = U at *
    clear e f hok hq ho hsets hfit hset hl7 hut h hn hnm
    go_enter Tryz.func22, Tryz.ntmps22
    go_wp2_with (first
      | (go_at_call 38
         refine HF.out.mono ?_
         rintro e w1 ⟨A1, n1, c1, rfl, h1, hb1⟩)
      | (go_at_call 40
         refine (HU.out _ _ _ _ h1).mono ?_
         rintro e w2 ⟨A2, n2, c2, rfl, hN2, hb2⟩
         have hR2 := one_tmR w2 U.name A2 n2 c2 U.none (InS.of_new hN2) _ rfl
         have hb3 := hb1.trans (hb2.mono hb1.size)
         have hb4 := hb3.alloc hb3.size (.cells #[.string U.name, .slice A2 n2 c2, .bool U.none] 63))
      | (go_at_call 39
         refine (HM.out _ _ _ hR2).mono ?_
         rintro e w4 ⟨A4, n4, c4, rfl, h4, hb4x⟩
         have hb5 := hb4.trans (hb4x.mono hb4.size)))
    go_ret2
    exact ⟨A4, n4, c4, rfl, h4.in_, hb5⟩
set_option maxHeartbeats 2000000 in
set_option maxRecDepth 100000 in
theorem specReleasedF : SpecReleasedF := by
  intro X nm pv w hA hnm
  obtain ⟨⟨o, rfl⟩, hT, hX⟩ := hA
  have HH := hide (hT nm w (Below.refl _ _) hnm).2
  have HG := hide (hT nm w (Below.refl _ _) hnm).1
  unfold Gots at HG
  unfold MakesC
  clear hT
  cases hk : atX X nm with
  | none =>
    rw [at_nil hk]
    rw [hk] at HH
    clear hk HG hX hnm
    go_enter Tryz.func23, Tryz.ntmps23
    go_wp2_with (first
      | (go_at_call 16
         refine HH.out.mono ?_
         rintro e w1 ⟨rfl, rfl⟩))
    go_ret2
    exact ⟨none, 0, 0, rfl, (TmR.nil _ _ _).in_, Below.refl _ _⟩
  | some k =>
    obtain ⟨hok, hl31, hk30, hfine⟩ := released_ok hX hk
    have hver := hX.vers _ (atX_in hk)
    have e : releasedC X nm = makeC [⟨nm, notS (versS k.1), false⟩] := by unfold releasedC; rw [hk]
    rw [e]
    rw [hk] at HH
    rw [at_get hk] at HG
    have HM := hide (fun (wx : World) (Aq : Option Addr) (cq : Nat) (hq : TmR wx wx.heap.size Aq 1 [⟨nm, notS (versS k.1), false⟩]) => makeR_any [⟨nm, notS (versS k.1), false⟩] Aq 1 cq wx hq.in_ (fine_one1 hok (by show (notS (versS k.1)).length ≤ 100; omega)) (fun t ht => by rw [List.mem_singleton.1 ht]; exact hok))
    unfold MakesR at HM
    have HU := hide (fun (wx : World) (A1 : Option Addr) (n1 c1 : Nat) (hx : RlOn wx A1 n1 k.1) => unrelF_any nm k.1 A1 n1 c1 wx hx (by have := hx.len; omega) hver)
    unfold Term.MakesT at HU
    generalize makeC [⟨nm, notS (versS k.1), false⟩] = R at *
    generalize notS (versS k.1) = U at *
    clear e hk hX hok hl31 hk30 hfine hver hnm
    go_enter Tryz.func23, Tryz.ntmps23
    go_wp2_with (first
      | (go_at_call 16
         refine HH.out.mono ?_
         rintro e w1 ⟨rfl, rfl⟩)
      | (go_at_call 31
         refine HG.out.mono ?_
         rintro e w2 ⟨A2, n2, c2, B2, r2, rfl, hR2, hb2⟩
         have hb2a := hb2.alloc hb2.size (.cells #[.string nm, .slice A2 n2 c2] 85)
         have hR2a := hR2.below (alloc_b (.cells #[.string nm, .slice A2 n2 c2] 85))
         have hT2 := rls_on hR2a)
      | (go_at_call 41
         refine (HU.out _ _ _ _ hT2).mono ?_
         rintro e w4 ⟨A4, n4, c4, rfl, hN4, hb4x⟩
         have hb4 := hb2a.trans (hb4x.mono hb2a.size)
         have hR4 := one_tmR w4 nm A4 n4 c4 false (InS.of_new hN4) _ rfl
         have hb5 := hb4.alloc hb4.size (.cells #[.string nm, .slice A4 n4 c4, .bool false] 63))
      | (go_at_call 39
         refine (HM.out _ _ _ hR4).mono ?_
         rintro e w6 ⟨A6, n6, c6, rfl, h6, hb6x⟩
         have hb6 := hb5.trans (hb6x.mono hb5.size)))
    go_ret2
    exact ⟨A6, n6, c6, rfl, h6.in_, hb6⟩
set_option maxHeartbeats 2000000 in
set_option maxRecDepth 100000 in
theorem specRootF : SpecRootF := by
  intro root A n c w h hn hok
  have hlen : (rootP root).length = n := by rw [root_len, h.len]
  have HO := hide (ofRootF_any A n c w)
  have hbA := alloc_b (w := w) (.cells #[.slice A n c] 23)
  have HC := hide (collectF_any (rootP root) 49 #[.pointer (some ⟨w.heap.size, 0, none⟩)] (w.alloc (.cells #[.slice A n c] 23)) (by omega) (enters_of Tryz.func49 (by kernel_rfl) rfl)
    (fun W0 h0 => by
      rw [hlen]
      exact root_rounds root A n c _ W0 8 (by omega) w.heap.size h0 (h.on hbA) hn hok (Boxed.new w 23 (.slice A n c))))
  unfold FactsC at HC ⊢
  clear h hn hok hlen
  generalize rootP root = L at *
  go_enter Tryz.func12, Tryz.ntmps12
  go_wp2_with (first
    | (go_at_call 28
       refine HO.out.mono ?_
       rintro e w1 ⟨rfl, rfl⟩)
    | (go_at_call 27
       refine HC.out.mono ?_
       rintro e w2 ⟨A2, n2, c2, A3, n3, c3, rfl, h2, h3, hb2⟩
       have hb3 := hbA.trans (hb2.mono hbA.size)))
  go_ret2
  exact ⟨A2, n2, c2, A3, n3, c3, rfl, h2, h3, hb3⟩
set_option maxHeartbeats 2000000 in
set_option maxRecDepth 100000 in
theorem specAllF : SpecAllF := by
  intro X nm pv w hA hnm
  obtain ⟨⟨o, rfl⟩, hT, hX⟩ := hA
  have HH := hide (hT nm w (Below.refl _ _) hnm).2
  have HG := hide (hT nm w (Below.refl _ _) hnm).1
  unfold Gots at HG
  clear hT
  cases hk : atX X nm with
  | none =>
    have e : allP X nm = [] := by unfold allP; rw [at_nil hk]
    rw [e]
    rw [hk] at HH
    unfold FactsC
    clear hk HG hX hnm e
    go_enter Tryz.func15, Tryz.ntmps15
    go_wp2_with (first
      | (go_at_call 16
         refine HH.out.mono ?_
         rintro e w1 ⟨rfl, rfl⟩))
    go_ret2
    exact ⟨none, 0, 0, none, 0, 0, rfl, FcIn.nil _ _ _, SsIn.nil _ _ _, Below.refl _ _⟩
  | some k =>
    rw [hk] at HH
    rw [at_get hk] at HG
    have hal := all_len hX nm
    have HO := hide (fun (A1 : Option Addr) (n1 c1 : Nat) (wx : World) => ofPackF_any nm A1 n1 c1 wx)
    have HC := hide (fun (A1 : Option Addr) (n1 c1 : Nat) (wx : World) (hx : RlOn wx A1 n1 k.1) (g : Nat) (hg : g = wx.heap.size) => collectF_any (allP X nm) 56 #[.pointer (some ⟨g, 0, none⟩)] (wx.alloc (.cells #[.string nm, .slice A1 n1 c1] 85)) (by omega) (enters_of Tryz.func56 (by kernel_rfl) rfl)
      (fun W0 h0 => pack_rounds X nm k A1 n1 c1 _ W0 8 (by omega) g h0 hX hk (hx.on (alloc_b _)) (by rw [hg]; exact Blk.new wx 85 #[.string nm, .slice A1 n1 c1])))
    unfold FactsC at HC ⊢
    generalize allP X nm = L at *
    clear hk hX hnm hal
    go_enter Tryz.func15, Tryz.ntmps15
    go_wp2_with (first
      | (go_at_call 16
         refine HH.out.mono ?_
         rintro e w1 ⟨rfl, rfl⟩)
      | (go_at_call 31
         refine HG.out.mono ?_
         rintro e w2 ⟨A2, n2, c2, B2, r2, rfl, hR2, hb2⟩
         have hb2a := hb2.alloc hb2.size (.cells #[.string nm, .slice A2 n2 c2] 85)
         have hR2a := hR2.below (alloc_b (.cells #[.string nm, .slice A2 n2 c2] 85))
         have hT2 := rls_on hR2a)
      | (go_at_call 32
         refine (HO.out _ _ _ _).mono ?_
         rintro e w3 ⟨rfl, rfl⟩
         have hb3 := hb2a.alloc hb2a.size (.cells #[.string nm, .slice A2 n2 c2] 85))
      | (go_at_call 27
         refine (HC.out A2 n2 c2 _ hT2 (w2.heap.size + 1) (by simp)).mono ?_
         rintro e w4 ⟨A4, n4, c4, A5, n5, c5, rfl, h4, h5, hb4x⟩
         have hb4 := hb3.trans (hb4x.mono hb3.size)))
    go_ret2
    exact ⟨A4, n4, c4, A5, n5, c5, rfl, h4, h5, hb4⟩
end Go.Proofs.YtpicnbidbddggaaGreatDoor.Fact
