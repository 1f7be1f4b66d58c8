/-
  Some texts of this claim, one behind the other: ReachNames, FactSpec, JudgeSpec, ReachAwakeM. What each proves, and its condition, stands at its head.
-/
import Derived.Test.YtdmejcfnolhplaaGreatZA33
import Derived.Test.YtdmejcfnolhplaaGreatZA44
import Derived.Test.YtdmejcfnolhplaaGreatZA22
import Derived.Test.YtdmejcfnolhplaaGreatZA17
import Derived.Test.YtdmejcfnolhplaaGreatZA21
import Derived.Test.YtdmejcfnolhplaaGreatZA9
import Derived.Maps.OwnSet
import Derived.Test.YtdmejcfnolhplaaGreatZA36
import Derived.Test.YtdmejcfnolhplaaGreatZA49
import Derived.Test.YtdmejcfnolhplaaGreatZA39
import Derived.Test.YtdmejcfnolhplaaGreatZA40
import Derived.Test.YtdmejcfnolhplaaGreatZA46
import Derived.Test.YtdmejcfnolhplaaGreatZA30
/-
  The contract of the program's Names, over whatever tells what is known (an index, or nil): what may be needed. Condition: as many names as may be walked.
-/
namespace Go.Proofs.YtdmejcfnolhplaaGreat.Reach
open Go Go.RowKit Go.Lib Go.Sort Go.Proofs.YtdmejcfnolhplaaGreat.Span Go.Proofs.YtdmejcfnolhplaaGreat.Need Go.Proofs.YtdmejcfnolhplaaGreat.Mani Go.Proofs.YtdmejcfnolhplaaGreat.Wire Go.Proofs.YtdmejcfnolhplaaGreat.Depot Go.Proofs.YtdmejcfnolhplaaGreat.Index
set_option linter.unusedVariables false
def TellsX (w : World) (pv : Value) (X : List Kn) : Prop := ∀ (nm : ByteArray) (wx : World), Below w.heap.size w wx → nm.size ≤ 1000000000 →
  Calls Tryz.prog 76 #[pv, .string nm] wx (Gots wx nm (getX X nm)) ∧
  Calls Tryz.prog 43 #[pv, .string nm] wx fun e w' => e = .returned (.bool (atX X nm).isSome) ∧ wx = w'
theorem TellsX.on {w w' : World} {pv : Value} {X : List Kn} (h : TellsX w pv X) (hb : Below w.heap.size w w') : TellsX w' pv X := fun nm wx hx hn => h nm wx (hb.trans (hx.mono hb.size)) hn
theorem tells_idx {w : World} {B g : Nat} {X : List Kn} (h : IdxB w B g X) (hf : FineX X) : TellsX w (.pointer (some ⟨g, 0, none⟩)) X := fun nm wx hx hn => by
  obtain ⟨_, mo, h2, _⟩ := h
  exact ⟨get_any g mo X nm wx (h2.below hx) hf hn, has_any g mo X nm wx (h2.below hx) hn⟩
end Go.Proofs.YtdmejcfnolhplaaGreat.Reach
/-
  What the program's functions of facts have to tell, one sentence each, as premises. Condition: none of its own.
-/
namespace Go.Proofs.YtdmejcfnolhplaaGreat.Fact
open Go Go.RowKit Go.Lib Go.Proofs.YtdmejcfnolhplaaGreat.Span Go.Proofs.YtdmejcfnolhplaaGreat.Need Go.Proofs.YtdmejcfnolhplaaGreat.Mani Go.Proofs.YtdmejcfnolhplaaGreat.Depot Go.Proofs.YtdmejcfnolhplaaGreat.Index Go.Proofs.YtdmejcfnolhplaaGreat.Reach Go.Proofs.YtdmejcfnolhplaaGreat.Term Go.Proofs.YtdmejcfnolhplaaGreat.Clash Go.Proofs.YtdmejcfnolhplaaGreat.Fit
set_option linter.unusedVariables false
def AskX (X : List Kn) (pv : Value) (w : World) : Prop := (∃ o : Option Addr, pv = .pointer o) ∧ TellsX w pv X ∧ OkX X
theorem AskX.on {X : List Kn} {pv : Value} {w w' : World} (h : AskX X pv w) (hb : Below w.heap.size w w') : AskX X pv w' := ⟨h.1, h.2.1.on hb, h.2.2⟩
theorem okX_puts {l : List En} (hf : FineX (putsX [] l)) (h : (putsX [] l).length ≤ 100) : OkX (putsX [] l) := ⟨hf, SetX.nil.puts l, VerK.nil.puts l, FitX.nil.puts l, h, RisX.nil.puts l⟩
end Go.Proofs.YtdmejcfnolhplaaGreat.Fact
/-
  The document's own Accept of steps, and what is more than is looked at; what the program's Accept, Clashes and Last have to tell, as premises. Condition: needs that may be; an index that was put together; at most 120 steps.
-/
namespace Go.Proofs.YtdmejcfnolhplaaGreat.Judge
open Go Go.RowKit Go.Lib Go.Proofs.YtdmejcfnolhplaaGreat.Label Go.Proofs.YtdmejcfnolhplaaGreat.Span Go.Proofs.YtdmejcfnolhplaaGreat.Need Go.Proofs.YtdmejcfnolhplaaGreat.Mani Go.Proofs.YtdmejcfnolhplaaGreat.Index Go.Proofs.YtdmejcfnolhplaaGreat.Pick Go.Proofs.YtdmejcfnolhplaaGreat.Fit Go.Proofs.YtdmejcfnolhplaaGreat.Term Go.Proofs.YtdmejcfnolhplaaGreat.Clash Go.Proofs.YtdmejcfnolhplaaGreat.Proof
open Go.Proofs.YtdmejcfnolhplaaGreat.Fact (OkX FcR FcIn FcOn AskX)
set_option linter.unusedVariables false
def NamesJ (l : List Sp) : Prop := ∀ q ∈ l, q.name.size ≤ 1000000000 ∧ q.dest.size ≤ 1000000000
noncomputable def acceptB (X : List Kn) (root : List Nd) (l : List Sp) : Bool := okPf l && (decide ((clashC X root l []).length = l.length) && decide ((clashC X root l [])[l.length - 1]? = some []))
noncomputable def lastC (X : List Kn) (root : List Nd) (l : List Sp) : List Tm := if (clashC X root l []).length = l.length then ((clashC X root l [])[l.length - 1]?).getD [] else []
def SpecAcceptJ : Prop := ∀ (X : List Kn) (root : List Nd) (l : List Sp) (pv : Value) (Ar A : Option Addr) (nr cr n c : Nat) (w : World), AskX X pv w → EightX X → NdOn w Ar nr root → nr ≤ 40 → okS root = true → PfOn w A n l → n ≤ c → NamesJ l → n ≤ 120 →
  Calls Tryz.prog 12 #[pv, .slice Ar nr cr, .slice A n c] w fun e w' => e = .returned (.bool (acceptB X root l)) ∧ Below w.heap.size w w'
def SpecClashesJ : Prop := ∀ (X : List Kn) (root : List Nd) (l : List Sp) (pv : Value) (Ar A : Option Addr) (nr cr n c : Nat) (w : World), AskX X pv w → EightX X → NdOn w Ar nr root → nr ≤ 40 → okS root = true → PfOn w A n l → n ≤ c → okPf l = true → n ≤ 120 →
  Calls Tryz.prog 15 #[pv, .slice Ar nr cr, .slice A n c] w fun e w' => ∃ A' n' c', e = .returned (.tuple #[.slice A' n' c', .int .i64 (n' : Int)]) ∧ n' ≤ c' ∧ FcOn w' A' n' (clashC X root l []) ∧ Below w.heap.size w w'
def SpecLastJ : Prop := ∀ (X : List Kn) (root : List Nd) (l : List Sp) (pv : Value) (Ar A : Option Addr) (nr cr n c : Nat) (w : World), AskX X pv w → EightX X → NdOn w Ar nr root → nr ≤ 40 → okS root = true → PfOn w A n l → n ≤ c → okPf l = true → n ≤ 120 →
  Calls Tryz.prog 17 #[pv, .slice Ar nr cr, .slice A n c] w fun e w' => ∃ A' n' c', e = .returned (.tuple #[.slice A' n' c', .bool (decide ((clashC X root l []).length = l.length))]) ∧ TmOn w' A' n' (lastC X root l) ∧ Below w.heap.size w w'
def largeJ (l : List Sp) : Bool := decide (120 < l.length) || largeS l
theorem largeJ_no {l : List Sp} (h : largeJ l = false) : l.length ≤ 120 ∧ NamesJ l := by
  unfold largeJ at h
  simp only [Bool.or_eq_false_iff, decide_eq_false_iff_not] at h
  exact ⟨by omega, fun s hs => by have := large_fine h.2 s hs; omega⟩
set_option maxHeartbeats 4000000 in
set_option maxRecDepth 100000 in
theorem largeJ_any (l : List Sp) (A : Option Addr) (n c : Nat) (w : World) (h : PfOn w A n l) (hn : n ≤ 9223372036854775807) :
    Calls Tryz.prog 8 #[.slice A n c] w fun e w' => e = .returned (.bool (largeJ l)) ∧ w' = w := by
  have HL := hide (largeS_any l A n c w h hn)
  have hlen := h.len
  unfold largeJ
  rw [hlen]
  by_cases g : 120 < n
  · have g2 : (120 : Int) < (n : Int) := by omega
    rw [decide_eq_true g]
    clear h hlen g hn
    go_enter Tryz.func8, Tryz.ntmps8
    go_wp2
    go_ret
    exact ⟨rfl, rfl⟩
  · have g2 : ¬ (120 : Int) < (n : Int) := by omega
    rw [decide_eq_false g, Bool.false_or]
    clear h hlen g hn
    go_enter Tryz.func8, Tryz.ntmps8
    go_wp2_with (first
      | (go_at_call 25
         refine HL.out.mono ?_
         rintro e w ⟨rfl, rfl⟩))
    go_ret
    exact ⟨rfl, rfl⟩
set_option maxHeartbeats 4000000 in
set_option maxRecDepth 100000 in
theorem refAccept_any (X : List Kn) (root : List Nd) (l : List Sp) (AX Ar Al : Option Addr) (nX cX nr cr n c : Nat) (w : World) (hK : InK w AX nX X) (hX : OkX X) (h8 : EightX X) (hr : NdOn w Ar nr root) (hnr : nr ≤ 40) (hok : okS root = true) (h : PfOn w Al n l) (hl : NamesJ l) (hn : n ≤ 120) :
    Calls Tryz.prog 13 #[.agg #[.slice AX nX cX], .slice Ar nr cr, .slice Al n c] w fun e w' => e = .returned (.bool (acceptB X root l)) ∧ Below w.heap.size w w' := by
  obtain ⟨W0, hW0⟩ : ∃ W0, W0 = w.alloc (.cells #[.slice AX nX cX] 33) := ⟨_, rfl⟩
  have hbW0 : Below w.heap.size w W0 := by rw [hW0]; exact Proof.alloc_b _ _
  have bX : Blk W0 w.heap.size 33 #[.slice AX nX cX] := by rw [hW0]; exact Blk.new w _ _
  have HX := hide (fun (wx : World) (hx : Below W0.heap.size W0 wx) => (show wx.cell? ⟨w.heap.size, 0, none⟩ = some (.slice AX nX cX) from (bX.below hx bX.lt).cell 0))
  have HC := hide (refCheckPf_any l Al n c W0 (h.on hbW0) hl (by omega))
  have hlen := h.len
  unfold acceptB
  cases ho : okPf l with
  | false =>
    rw [ho] at HC
    rw [Bool.false_and]
    clear ho hK hX h8 hr hok h hl hlen
    go_enter Tryz.func13, Tryz.ntmps13
    go_upto_region 1 with fail
    try rw [← hW0]
    clear hW0
    go_wp2_with (first
      | (go_at_call 14
         refine HC.out.mono ?_
         rintro e w1 ⟨rfl, hb1⟩
         have hbw := hbW0.trans (hb1.mono hbW0.size)))
    go_ret
    exact ⟨rfl, hbw⟩
  | true =>
    rw [ho] at HC
    rw [Bool.true_and]
    obtain ⟨_, hst, h1⟩ := okPf_steps ho
    have HL := hide (fun (wx : World) (hx : Below w.heap.size w wx) => refClashes_any X root l AX Ar Al nX cX nr cr n c wx (hK.below hx) hX h8 (hr.on hx) hnr hok (h.on hx) hst hn)
    rw [hlen]
    have h1n : 1 ≤ n := by omega
    generalize clashC X root l [] = L at *
    obtain ⟨r, hres⟩ : ∃ r, r = (decide (L.length = n) && decide (L[n - 1]? = some [])) := ⟨_, rfl⟩
    rw [← hres]
    have Hres := hide hres
    clear ho hK hX h8 hr hok h hl hst hlen h1 hres
    go_enter Tryz.func13, Tryz.ntmps13
    go_upto_region 1 with fail
    try rw [← hW0]
    clear hW0
    go_upto_region 4 with (first
      | (go_at_call 14
         refine HC.out.mono ?_
         rintro e w1 ⟨rfl, hb1⟩
         have k1 := HX.out _ hb1
         have hbw := hbW0.trans (hb1.mono hbW0.size))
      | (go_at_call 16
         refine (HL.out _ hbw).mono ?_
         rintro e w2 ⟨A2, n2, c2, rfl, hc2, h2, hb2⟩
         have hbw2 := hbw.trans (hb2.mono hbw.size)))
    have hL := FcIn.len h2
    by_cases e : n2 = n
    · subst e
      have ee : ((n2 : Int) == (n2 : Int)) = true := beq_self_eq_true _
      obtain ⟨m, hm⟩ : ∃ m, m = n2 - 1 := ⟨_, rfl⟩
      have hmn : m < n2 := by omega
      obtain ⟨ad, cc, A3, n3, c3, rfl, hbl, hx, ht, q⟩ := FcIn.at_ h2 hmn
      have hl3 := TmIn.len ht
      have w0 : IntKind.i64.wrap ((n2 : Int) - 1) = (m : Int) := by rw [IntKind.wrap_i64]; omega
      have hm1 : (0 : Int) ≤ (m : Int) := by omega
      have hm2 : (m : Int) < (n2 : Int) := by omega
      have hr1 : r = decide (some cc = some []) := by rw [Hres.out, ← hm, hL, decide_eq_true rfl, Bool.true_and, hx]
      by_cases g : n3 = 0
      · have hcc : cc = [] := List.eq_nil_of_length_eq_zero (by omega)
        have gg : ((n3 : Int) == 0) = true := by rw [g]; rfl
        have E : Hid (r = true) := hide (by rw [hr1, hcc, decide_eq_true rfl])
        clear hm hx ht hl3 h2 hL hcc g hbl hr1 Hres
        go_wp2
        go_ret
        exact ⟨by rw [E.out]; rfl, hbw2⟩
      · have hcc : ¬ some cc = some [] := fun e => by injection e with e; rw [e] at hl3; exact g hl3.symm
        have gg : ((n3 : Int) == 0) = false := beq_eq_false_iff_ne.2 (by omega)
        have E : Hid (r = false) := hide (by rw [hr1, decide_eq_false hcc])
        clear hm hx ht hl3 h2 hL hcc g hbl hr1 Hres
        go_wp2
        go_ret
        exact ⟨by rw [E.out]; rfl, hbw2⟩
    · have ee : ((n2 : Int) == (n : Int)) = false := beq_eq_false_iff_ne.2 (by omega)
      have E : Hid (r = false) := hide (by rw [Hres.out, hL, decide_eq_false e, Bool.false_and])
      clear h2 hL e Hres
      go_wp2
      go_ret
      exact ⟨by rw [E.out]; rfl, hbw2⟩
end Go.Proofs.YtdmejcfnolhplaaGreat.Judge
/-
  The chapter's example, as plain data: a needs b, which is not known. No condition.
-/
namespace Go.Proofs.YtdmejcfnolhplaaGreat.Reach
open Go Go.RowKit Go.Lib Go.Sort Go.Proofs.YtdmejcfnolhplaaGreat.Span Go.Proofs.YtdmejcfnolhplaaGreat.Need Go.Proofs.YtdmejcfnolhplaaGreat.Mani Go.Proofs.YtdmejcfnolhplaaGreat.Wire Go.Proofs.YtdmejcfnolhplaaGreat.Depot Go.Proofs.YtdmejcfnolhplaaGreat.Index
open Go.Proofs.YtdmejcfnolhplaaGreat.Vlq (enc hi_zero held)
open Go.Proofs.YtdmejcfnolhplaaGreat.Label (runes fitL runes_step runes_end rn wd)
set_option linter.unusedVariables false
theorem nlt_str (l m : List UInt8) : nlt (str l) (str m) = Op.bytesLess l m := by unfold nlt; rw [str_toList, str_toList]
end Go.Proofs.YtdmejcfnolhplaaGreat.Reach
