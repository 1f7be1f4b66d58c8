/-
  Some texts of this claim, one behind the other: FactCollect, FactSeq, FactProg, FactTyped. What each proves, and its condition, stands at its head.
-/
import Derived.RangeFuncNested
import Derived.RangeFuncBound
import Derived.RangeFuncCalls
import Derived.RangeFuncLeaves
import Derived.RangeFuncBox
import Derived.Test.YtdmejcfnolhplaaGreatZA39
import Derived.Shelf.Abstract
import Derived.Shelf.RegionOpen
import Derived.OwnWalkIn
import Derived.TacticsInMore
import Derived.LoopNIn
import Derived.LoopIn
import Derived.Maps.AppendAt
import Derived.Laws.EntriesVeiled
import Derived.RangeFuncWrites
import Derived.Deep.RegionHeld3
import Derived.Test.YtdmejcfnolhplaaGreatZA50
import Derived.Test.YtdmejcfnolhplaaGreatZA44
import Derived.Test.YtdmejcfnolhplaaGreatZA49
import Derived.Test.YtdmejcfnolhplaaGreatZA51
import Derived.Test.YtdmejcfnolhplaaGreatZA26
/-
  The contract of the program's collect: facts and steps that an iterator tells, two by two, as two lists. Condition: an iterator that gives so many rounds, the k-th one with the k-th fact; at most 5,000.
-/
namespace Go.Proofs.YtdmejcfnolhplaaGreat.Fact
open Go Go.RowKit Go.Lib Go.Sort Go.Proofs.YtdmejcfnolhplaaGreat.Span Go.Proofs.YtdmejcfnolhplaaGreat.Need Go.Proofs.YtdmejcfnolhplaaGreat.Mani Go.Proofs.YtdmejcfnolhplaaGreat.Grow Go.Proofs.YtdmejcfnolhplaaGreat.Term Go.Proofs.YtdmejcfnolhplaaGreat.Clash
set_option linter.unusedVariables false
attribute [local go_sem] Oper.semAt_some
def KpF (n0 : Nat) (A B : World) : Prop := Below n0 A B ∧ ∀ g cs, Blk A g 136 cs → Blk B g 136 cs
theorem KpF.trans {n0 : Nat} {A B C : World} (h : KpF n0 A B) (k : KpF n0 B C) : KpF n0 A C := ⟨h.1.trans k.1, fun g cs hg => k.2 g cs (h.2 g cs hg)⟩
end Go.Proofs.YtdmejcfnolhplaaGreat.Fact
/-
  The contracts of the program's iterators over facts: root's, and a package's. Condition: needs that may be; what an index holds that was put together.
-/
namespace Go.Proofs.YtdmejcfnolhplaaGreat.Fact
open Go Go.RowKit Go.Lib Go.Sort Go.Proofs.YtdmejcfnolhplaaGreat.Span Go.Proofs.YtdmejcfnolhplaaGreat.Need Go.Proofs.YtdmejcfnolhplaaGreat.Mani Go.Proofs.YtdmejcfnolhplaaGreat.Index Go.Proofs.YtdmejcfnolhplaaGreat.Grow Go.Proofs.YtdmejcfnolhplaaGreat.Term Go.Proofs.YtdmejcfnolhplaaGreat.Clash Go.Proofs.YtdmejcfnolhplaaGreat.Fit
open Go.Proofs.YtdmejcfnolhplaaGreat.Label (runes fitL)
set_option linter.unusedVariables false
attribute [local go_sem] Oper.semAt_some
/-! Which fact stands where. -/
theorem fine_two {a b : Tm} (ha : okT a = true) (hb : okT b = true) (h1 : a.set.length ≤ 10) (h2 : b.set.length ≤ 10) : FineC [a, b] := by
  refine ⟨by simp, ?_, fun t ht => ?_⟩
  · rw [sumC_cons, sumC_cons]
    show _ + (_ + 0) ≤ _
    omega
  · rcases List.mem_cons.1 ht with rfl | ht
    · have := Label.fit_small t.name (okT_fit ha); omega
    · rw [List.mem_singleton.1 ht]
      have := Label.fit_small b.name (okT_fit hb); omega
theorem fine_one1 {a : Tm} (ha : okT a = true) (h1 : a.set.length ≤ 100) : FineC [a] := by
  refine ⟨by simp, ?_, fun t ht => ?_⟩
  · rw [sumC_cons]
    show _ + 0 ≤ _
    omega
  · rw [List.mem_singleton.1 ht]
    have := Label.fit_small a.name (okT_fit ha); omega
/-! A package's rounds. -/
end Go.Proofs.YtdmejcfnolhplaaGreat.Fact
/-
  The contracts of the program's Asked, Released, Root and All of facts. Condition: needs that may be; what an index holds that was put together.
-/
namespace Go.Proofs.YtdmejcfnolhplaaGreat.Fact
open Go Go.RowKit Go.Lib Go.Sort Go.Proofs.YtdmejcfnolhplaaGreat.Span Go.Proofs.YtdmejcfnolhplaaGreat.Need Go.Proofs.YtdmejcfnolhplaaGreat.Mani Go.Proofs.YtdmejcfnolhplaaGreat.Index Go.Proofs.YtdmejcfnolhplaaGreat.Reach Go.Proofs.YtdmejcfnolhplaaGreat.Grow Go.Proofs.YtdmejcfnolhplaaGreat.Term Go.Proofs.YtdmejcfnolhplaaGreat.Clash Go.Proofs.YtdmejcfnolhplaaGreat.Fit
open Go.Proofs.YtdmejcfnolhplaaGreat.Label (runes fitL)
set_option linter.unusedVariables false
theorem short_needs {l : List Nd} (hok : okS l = true) : ∀ q ∈ l, q.1.size ≤ 1000000000 ∧ q.2.length ≤ 1000000001 := fun q hq => by
  obtain ⟨ho, _, _, hsets⟩ := okS_parts hok
  have h1 := Label.fit_small q.1 (ok_all ho _ hq).2.1
  have h2 : isSet (-1) q.2 = true ∧ q.2.length ≤ 6 := hsets _ hq
  omega
end Go.Proofs.YtdmejcfnolhplaaGreat.Fact
/-
  The contracts of the program's Asked, Released and Needed of facts, the clash in rows of the call's own. Condition: needs that may be; what an index holds that was put together.
-/
namespace Go.Proofs.YtdmejcfnolhplaaGreat.Fact
open Go Go.RowKit Go.Lib Go.Sort Go.Proofs.YtdmejcfnolhplaaGreat.Span Go.Proofs.YtdmejcfnolhplaaGreat.Need Go.Proofs.YtdmejcfnolhplaaGreat.Mani Go.Proofs.YtdmejcfnolhplaaGreat.Index Go.Proofs.YtdmejcfnolhplaaGreat.Reach Go.Proofs.YtdmejcfnolhplaaGreat.Grow Go.Proofs.YtdmejcfnolhplaaGreat.Term Go.Proofs.YtdmejcfnolhplaaGreat.Clash Go.Proofs.YtdmejcfnolhplaaGreat.Fit
open Go.Proofs.YtdmejcfnolhplaaGreat.Label (runes fitL)
set_option linter.unusedVariables false
def TypedAskedF : Prop := ∀ (root : List Nd) (nm : ByteArray) (A : Option Addr) (n c : Nat) (w : World), NdOn w A n root → n ≤ 40 → okS root = true → nm.size ≤ 1000000000 → Calls Tryz.prog 50 #[.slice A n c, .string nm] w (MakesR w (askedC root nm))
set_option maxHeartbeats 2000000 in
set_option maxRecDepth 100000 in
theorem typedAskedF : TypedAskedF := by
  intro root nm A n c w h hn hok hnm
  have HF := hide (findN_any root nm A n c w h (short_needs hok) (by omega))
  unfold Finds at HF
  unfold MakesR
  cases f : findS root nm with
  | none =>
    have e : askedC root nm = none := by unfold askedC; rw [f]
    rw [e]
    rw [f] at HF
    clear e f hok h hn hnm
    go_enter Tryz.func50, Tryz.ntmps50
    go_wp2_with (first
      | (go_at_call 73
         refine HF.out.mono ?_
         rintro e w1 ⟨A1, n1, c1, rfl, h1, hb1⟩))
    go_ret2
    exact ⟨none, 0, 0, rfl, TmR.nil _ _ _, hb1⟩
  | some s =>
    have e : askedC root nm = makeC [unmetT nm s] := by unfold askedC; rw [f]
    rw [e]
    rw [f] at HF
    have hq : (nm, s) ∈ root := find_in f
    obtain ⟨ho, _, _, hsets⟩ := okS_parts hok
    have hfit := (ok_all ho _ hq).2.1
    have hset : isSet (-1) s = true ∧ s.length ≤ 6 := hsets _ hq
    have hl7 := unmet_len (n := nm) hset.1 hset.2
    have hut := unmet_ok (n := nm) s hfit
    have HM := hide (fun (wx : World) (Aq : Option Addr) (cq : Nat) (hq : TmR wx wx.heap.size Aq 1 [unmetT nm s]) => makeR_any [unmetT nm s] Aq 1 cq wx hq.in_ (fine_one1 hut (by omega)) (fun t ht => by rw [List.mem_singleton.1 ht]; exact hut))
    unfold MakesR at HM
    have HU := hide (fun (wx : World) (A1 : Option Addr) (n1 c1 : Nat) (hx : SpOn wx A1 n1 s) => unmetF_any nm s A1 n1 c1 wx hx hnm hset.1)
    unfold Term.MakesT at HU
    generalize makeC [unmetT nm s] = R at *
    generalize unmetT nm s = U at *
    clear e f hok hq ho hsets hfit hset hl7 hut h hn hnm
    go_enter Tryz.func50, Tryz.ntmps50
    go_wp2_with (first
      | (go_at_call 73
         refine HF.out.mono ?_
         rintro e w1 ⟨A1, n1, c1, rfl, h1, hb1⟩)
      | (go_at_call 75
         refine (HU.out _ _ _ _ h1).mono ?_
         rintro e w2 ⟨A2, n2, c2, rfl, hN2, hb2⟩
         have hR2 := one_tmR w2 U.name A2 n2 c2 U.none (InS.of_new hN2) _ rfl
         have hb3 := hb1.trans (hb2.mono hb1.size)
         have hb4 := hb3.alloc hb3.size (.cells #[.string U.name, .slice A2 n2 c2, .bool U.none] 77))
      | (go_at_call 74
         refine (HM.out _ _ _ hR2).mono ?_
         rintro e w4 ⟨A4, n4, c4, rfl, h4, hb4x⟩
         have hb5 := hb4.trans (hb4x.mono hb4.size)))
    go_ret2
    exact ⟨A4, n4, c4, rfl, h4, hb5⟩
def TypedReleasedF : Prop := ∀ (X : List Kn) (nm : ByteArray) (pv : Value) (w : World), AskX X pv w → nm.size ≤ 1000000000 → Calls Tryz.prog 52 #[pv, .string nm] w (MakesR w (releasedC X nm))
set_option maxHeartbeats 2000000 in
set_option maxRecDepth 100000 in
theorem typedReleasedF : TypedReleasedF := by
  intro X nm pv w hA hnm
  obtain ⟨⟨o, rfl⟩, hT, hX⟩ := hA
  have HH := hide (hT nm w (Below.refl _ _) hnm).2
  have HG := hide (hT nm w (Below.refl _ _) hnm).1
  unfold Gots at HG
  unfold MakesR
  clear hT
  cases hk : atX X nm with
  | none =>
    rw [at_nil hk]
    rw [hk] at HH
    clear hk HG hX hnm
    go_enter Tryz.func52, Tryz.ntmps52
    go_wp2_with (first
      | (go_at_call 43
         refine HH.out.mono ?_
         rintro e w1 ⟨rfl, rfl⟩))
    go_ret2
    exact ⟨none, 0, 0, rfl, TmR.nil _ _ _, Below.refl _ _⟩
  | some k =>
    obtain ⟨hok, hl31, hk30, hfine⟩ := released_ok hX hk
    have hver := hX.vers _ (atX_in hk)
    have e : releasedC X nm = makeC [⟨nm, notS (versS k.1), false⟩] := by unfold releasedC; rw [hk]
    rw [e]
    rw [hk] at HH
    rw [at_get hk] at HG
    have HM := hide (fun (wx : World) (Aq : Option Addr) (cq : Nat) (hq : TmR wx wx.heap.size Aq 1 [⟨nm, notS (versS k.1), false⟩]) => makeR_any [⟨nm, notS (versS k.1), false⟩] Aq 1 cq wx hq.in_ (fine_one1 hok (by show (notS (versS k.1)).length ≤ 100; omega)) (fun t ht => by rw [List.mem_singleton.1 ht]; exact hok))
    unfold MakesR at HM
    have HU := hide (fun (wx : World) (A1 : Option Addr) (n1 c1 : Nat) (hx : RlOn wx A1 n1 k.1) => unrelF_any nm k.1 A1 n1 c1 wx hx (by have := hx.len; omega) hver)
    unfold Term.MakesT at HU
    generalize makeC [⟨nm, notS (versS k.1), false⟩] = R at *
    generalize notS (versS k.1) = U at *
    clear e hk hX hok hl31 hk30 hfine hver hnm
    go_enter Tryz.func52, Tryz.ntmps52
    go_wp2_with (first
      | (go_at_call 43
         refine HH.out.mono ?_
         rintro e w1 ⟨rfl, rfl⟩)
      | (go_at_call 76
         refine HG.out.mono ?_
         rintro e w2 ⟨A2, n2, c2, B2, r2, rfl, hR2, hb2⟩
         have hb2a := hb2.alloc hb2.size (.cells #[.string nm, .slice A2 n2 c2] 100)
         have hR2a := hR2.below (alloc_b (.cells #[.string nm, .slice A2 n2 c2] 100))
         have hT2 := rls_on hR2a)
      | (go_at_call 77
         refine (HU.out _ _ _ _ hT2).mono ?_
         rintro e w4 ⟨A4, n4, c4, rfl, hN4, hb4x⟩
         have hb4 := hb2a.trans (hb4x.mono hb2a.size)
         have hR4 := one_tmR w4 nm A4 n4 c4 false (InS.of_new hN4) _ rfl
         have hb5 := hb4.alloc hb4.size (.cells #[.string nm, .slice A4 n4 c4, .bool false] 77))
      | (go_at_call 74
         refine (HM.out _ _ _ hR4).mono ?_
         rintro e w6 ⟨A6, n6, c6, rfl, h6, hb6x⟩
         have hb6 := hb5.trans (hb6x.mono hb5.size)))
    go_ret2
    exact ⟨A6, n6, c6, rfl, h6, hb6⟩
def TypedNeededF : Prop := ∀ (X : List Kn) (nm : ByteArray) (v : Int) (tn : ByteArray) (pv : Value) (w : World), AskX X pv w → nm.size ≤ 1000000000 → tn.size ≤ 1000000000 → Calls Tryz.prog 54 #[pv, .string nm, .int .i64 v, .string tn] w (MakesR w (neededC X nm v tn))
set_option maxHeartbeats 2000000 in
set_option maxRecDepth 100000 in
theorem typedNeededF : TypedNeededF := by
  intro X nm v tn pv w hA hnm htn
  obtain ⟨⟨o, rfl⟩, hT, hX⟩ := hA
  have hf := hX.fine.get nm
  have HG := hide (hT nm w (Below.refl _ _) hnm).1
  unfold Gots at HG
  have HR := hide (fun (wx : World) (A1 : Option Addr) (n1 c1 : Nat) (hx : RlOn wx A1 n1 (getX X nm).1) => getI_any v nm (getX X nm).1 A1 n1 c1 wx hx hf)
  unfold GetsI at HR
  have hrel : getR (getX X nm).1 v = relX X nm v := rfl
  rw [hrel] at HR
  have hsh : okS ((relX X nm v).getD (0, [])).2 = true := by
    cases hr : relX X nm v with
    | none => rfl
    | some r =>
      obtain ⟨k, hk, hr1, _⟩ := rel_known hr
      exact hX.sets _ (atX_in hk) r hr1
  have HF := hide (fun (wx : World) (A1 : Option Addr) (n1 c1 : Nat) (hx : NdOn wx A1 n1 ((relX X nm v).getD (0, [])).2) => findN_any ((relX X nm v).getD (0, [])).2 tn A1 n1 c1 wx hx (short_needs hsh) (by have := hx.len; have := (okS_parts hsh).2.1; omega))
  unfold Finds at HF
  unfold MakesR
  clear hT hsh hf
  cases hr : relX X nm v with
  | none =>
    rw [needed_none hr]
    rw [hr] at HR HF
    simp only [Option.getD_none, Option.isSome_none] at HR HF
    rw [show findS [] tn = none from rfl] at HF
    clear hr hX hrel hnm htn
    go_enter Tryz.func54, Tryz.ntmps54
    go_wp2_with (first
      | (go_at_call 73
         refine (HF.out _ _ _ _ h3a).mono ?_
         rintro e w4 ⟨A4, n4, c4, rfl, h4, hb4x⟩
         have hb4 := hb3a.trans (hb4x.mono hb3a.size))
      | (go_at_call 78
         refine (HR.out _ _ _ _ hT2).mono ?_
         rintro e w3 ⟨A3, n3, c3, rfl, h3, hb3x⟩
         have hb3 := hb2a.trans (hb3x.mono hb2a.size)
         have hb3a := hb3.alloc hb3.size (.cells #[.int .i64 0, .slice A3 n3 c3] 136)
         have h3a := (InN.below h3 (alloc_b (.cells #[.int .i64 0, .slice A3 n3 c3] 136))).on)
      | (go_at_call 76
         refine HG.out.mono ?_
         rintro e w2 ⟨A2, n2, c2, B2, r2, rfl, hR2, hb2⟩
         have hb2a := hb2.alloc hb2.size (.cells #[.string nm, .slice A2 n2 c2] 100)
         have hR2a := hR2.below (alloc_b (.cells #[.string nm, .slice A2 n2 c2] 100))
         have hT2 := rls_on hR2a))
    go_ret2
    exact ⟨none, 0, 0, rfl, TmR.nil _ _ _, hb4⟩
  | some r =>
    rw [hr] at HR HF
    simp only [Option.getD_some, Option.isSome_some] at HR HF
    cases hs : findS r.2 tn with
    | none =>
      have e : neededC X nm v tn = none := by unfold neededC; rw [hr]; simp only; rw [hs]
      rw [e]
      rw [hs] at HF
      clear e hr hs hX hrel hnm htn
      go_enter Tryz.func54, Tryz.ntmps54
      go_wp2_with (first
        | (go_at_call 73
           refine (HF.out _ _ _ _ h3a).mono ?_
           rintro e w4 ⟨A4, n4, c4, rfl, h4, hb4x⟩
           have hb4 := hb3a.trans (hb4x.mono hb3a.size))
        | (go_at_call 78
           refine (HR.out _ _ _ _ hT2).mono ?_
           rintro e w3 ⟨A3, n3, c3, rfl, h3, hb3x⟩
           have hb3 := hb2a.trans (hb3x.mono hb2a.size)
           have hb3a := hb3.alloc hb3.size (.cells #[.int .i64 r.1, .slice A3 n3 c3] 136)
           have h3a := (InN.below h3 (alloc_b (.cells #[.int .i64 r.1, .slice A3 n3 c3] 136))).on)
        | (go_at_call 76
           refine HG.out.mono ?_
           rintro e w2 ⟨A2, n2, c2, B2, r2, rfl, hR2, hb2⟩
           have hb2a := hb2.alloc hb2.size (.cells #[.string nm, .slice A2 n2 c2] 100)
           have hR2a := hR2.below (alloc_b (.cells #[.string nm, .slice A2 n2 c2] 100))
           have hT2 := rls_on hR2a))
      go_ret2
      exact ⟨none, 0, 0, rfl, TmR.nil _ _ _, hb4⟩
    | some s =>
      have e : neededC X nm v tn = makeC [⟨nm, atS v, false⟩, unmetT tn s] := by unfold neededC; rw [hr]; simp only; rw [hs]
      rw [e]
      rw [hs] at HF
      obtain ⟨hv, ho1, ho2, hl7, hs6⟩ := needed_ok1 hX hr hs
      obtain ⟨k, hk, hr1, hrv⟩ := rel_known hr
      have hset : isSet (-1) s = true ∧ s.length ≤ 6 := (okS_parts (hX.sets _ (atX_in hk) r hr1)).2.2.2 _ (find_in hs)
      have HO := hide (fun (wx : World) => chosenF_any nm v wx (by omega) (by omega))
      rw [at_one hv.1 hv.2] at HO
      unfold Term.MakesT at HO
      have HU := hide (fun (wx : World) (A1 : Option Addr) (n1 c1 : Nat) (hx : SpOn wx A1 n1 s) => unmetF_any tn s A1 n1 c1 wx hx htn hset.1)
      unfold Term.MakesT at HU
      have HM := hide (fun (wx : World) (Aq : Option Addr) (cq : Nat) (hq : TmR wx wx.heap.size Aq 2 [⟨nm, atS v, false⟩, unmetT tn s]) => makeR_any [⟨nm, atS v, false⟩, unmetT tn s] Aq 2 cq wx hq.in_ (fine_two ho1 ho2 (by show 1 ≤ 10; omega) (by omega)) (fun t ht => by
        rcases List.mem_cons.1 ht with rfl | ht
        · exact ho1
        · rw [List.mem_singleton.1 ht]; exact ho2))
      unfold MakesR at HM
      simp only [Option.getD_some, Option.isSome_some] at HF
      generalize makeC [⟨nm, atS v, false⟩, unmetT tn s] = R at *
      generalize unmetT tn s = U at *
      generalize atS v = Z at *
      clear e hr hs hX hrel ho1 ho2 hl7 hv hset hk hr1 hrv hnm htn hs6
      go_enter Tryz.func54, Tryz.ntmps54
      go_wp2_with (first
        | (go_at_call 74
           refine (HM.out _ _ _ hR6).mono ?_
           rintro e w8 ⟨A8, n8, c8, rfl, h8, hb8x⟩
           have hb8 := hb7.trans (hb8x.mono hb7.size))
        | (go_at_call 75
           refine (HU.out _ _ _ _ h45).mono ?_
           rintro e w6 ⟨A6, n6, c6, rfl, hN6, hb6x⟩
           have hb6 := hb5.trans (hb6x.mono hb5.size)
           have hR6 := two_tmR w6 nm A5 n5 c5 false U.name A6 n6 c6 U.none ((InS.of_new hN5).below hb6x) (InS.of_new hN6) _ rfl
           have hb7 := hb6.alloc hb6.size (.cells #[.string nm, .slice A5 n5 c5, .bool false, .string U.name, .slice A6 n6 c6, .bool U.none] 77))
        | (go_at_call 79
           refine (HO.out _).mono ?_
           rintro e w5 ⟨A5, n5, c5, rfl, hN5, hb5x⟩
           have hb5 := hb4.trans (hb5x.mono hb4.size)
           have h45 := h4.on hb5x)
        | (go_at_call 73
           refine (HF.out _ _ _ _ h3a).mono ?_
           rintro e w4 ⟨A4, n4, c4, rfl, h4, hb4x⟩
           have hb4 := hb3a.trans (hb4x.mono hb3a.size))
        | (go_at_call 78
           refine (HR.out _ _ _ _ hT2).mono ?_
           rintro e w3 ⟨A3, n3, c3, rfl, h3, hb3x⟩
           have hb3 := hb2a.trans (hb3x.mono hb2a.size)
           have hb3a := hb3.alloc hb3.size (.cells #[.int .i64 r.1, .slice A3 n3 c3] 136)
           have h3a := (InN.below h3 (alloc_b (.cells #[.int .i64 r.1, .slice A3 n3 c3] 136))).on)
        | (go_at_call 76
           refine HG.out.mono ?_
           rintro e w2 ⟨A2, n2, c2, B2, r2, rfl, hR2, hb2⟩
           have hb2a := hb2.alloc hb2.size (.cells #[.string nm, .slice A2 n2 c2] 100)
           have hR2a := hR2.below (alloc_b (.cells #[.string nm, .slice A2 n2 c2] 100))
           have hT2 := rls_on hR2a))
      go_ret2
      exact ⟨A8, n8, c8, rfl, h8, hb8⟩
end Go.Proofs.YtdmejcfnolhplaaGreat.Fact
