/-
  Some texts of this claim, one behind the other: TrailAwake, TrailEx. What each proves, and its condition, stands at its head.
-/
import Derived.Test.YtllogmokadcfmaaGreatZB27
import Derived.Test.YtllogmokadcfmaaGreatZB20
import Derived.Test.YtllogmokadcfmaaGreatZB36
import Derived.Test.YtllogmokadcfmaaGreatZB29
import Derived.Test.YtllogmokadcfmaaGreatZB34
import Derived.Test.YtllogmokadcfmaaGreatZB5
/-
  What is more than is looked at of things that are done to a trail; the chapter's example; rows of terms one of which is written over; what the law TrailFalls holds of what was noted. Condition: the program's trail tells what it has to (a premise).
-/
namespace Go.Proofs.YtllogmokadcfmaaGreat.Trail
open Go Go.RowKit Go.Lib Go.Proofs.YtllogmokadcfmaaGreat.Span Go.Proofs.YtllogmokadcfmaaGreat.Need Go.Proofs.YtllogmokadcfmaaGreat.Mani Go.Proofs.YtllogmokadcfmaaGreat.Grow Go.Proofs.YtllogmokadcfmaaGreat.Pick Go.Proofs.YtllogmokadcfmaaGreat.Term Go.Proofs.YtllogmokadcfmaaGreat.Clash
open Go.Proofs.YtllogmokadcfmaaGreat.Label (runes fitL)
open Go.Proofs.YtllogmokadcfmaaGreat.Fact (atS)
set_option linter.unusedVariables false
def largeD (l : List Dt) : Bool := decide (60 < l.length) || l.any fun d => largeT d.term
theorem smallD {l : List Dt} (h : largeD l = false) : l.length ≤ 60 ∧ ∀ d ∈ l, d.term.set.length ≤ 60 ∧ d.term.name.size ≤ 200 := by
  unfold largeD at h
  rw [Bool.or_eq_false_iff, decide_eq_false_iff_not, List.any_eq_false] at h
  exact ⟨by omega, fun d hd => small_of (by simpa using h.2 d hd)⟩
theorem any_dropD {l : List Dt} {d : Dt} {i : Nat} (h : l[i]? = some d) : (l.drop i).any (fun d => largeT d.term) = (largeT d.term || (l.drop (i + 1)).any fun d => largeT d.term) := by
  obtain ⟨hi, e⟩ := List.getElem?_eq_some_iff.1 h
  rw [List.drop_eq_getElem_cons hi, e]
  rfl
set_option maxHeartbeats 4000000 in
set_option maxRecDepth 100000 in
theorem largeD_any (l : List Dt) (A : Option Addr) (n c : Nat) (w : World) (h : DoOn w A n l) (hn : n ≤ 9223372036854775807) (hl : ∀ d ∈ l, d.term.name.size ≤ 9223372036854775807 ∧ d.term.set.length ≤ 9223372036854775807) :
    Calls Tryz.prog 4 #[.slice A n c] w fun e w' => e = .returned (.bool (largeD l)) ∧ Below w.heap.size w w' := by
  have hlen := hide h.len
  by_cases h60 : 60 < n
  · have e : largeD l = true := by unfold largeD; rw [decide_eq_true (by have := hlen.out; omega)]; rfl
    have h60z : (60 : Int) < (n : Int) := by omega
    rw [e]
    go_enter Tryz.func4, Tryz.ntmps4
    go_wp2
    go_ret
    exact ⟨rfl, Below.refl _ _⟩
  · have e : largeD l = l.any fun d => largeT d.term := by unfold largeD; rw [decide_eq_false (by have := hlen.out; omega)]; rfl
    have h60z : ¬ (60 : Int) < (n : Int) := by omega
    rw [e]
    have Hd := hide (fun i t => @any_dropD l t i)
    have Hend : Hid ((l.drop n).any (fun d => largeT d.term) = false) := hide (by rw [List.drop_of_length_le (by have := hlen.out; omega)]; rfl)
    obtain ⟨F, hF⟩ : ∃ F, F = l.any fun d => largeT d.term := ⟨_, rfl⟩
    rw [← hF]
    have HF : Hid (F = (l.drop 0).any fun d => largeT d.term) := hide hF
    clear hF e
    go_enter Tryz.func4, Tryz.ntmps4
    go_wp2
    go_loopw [3] (fun v wr => ∃ i : Nat, i ≤ n ∧ v = .int .i64 (i : Int) ∧ Hid (F = (l.drop i).any fun d => largeT d.term) ∧ Below w.heap.size w wr) (fun v _ => n - (RowKit.intOf v).toNat)
    case atStart => exact ⟨0, by omega, rfl, HF, Below.refl _ _⟩
    case round =>
      obtain ⟨i, hi, rfl, hf, hb⟩ := hrel
      have hbs := hb.size
      by_cases hlt : i < n
      · obtain ⟨ad, q, A1, n1, c1, rfl, hbl, hx, h0, hs, p0, p1, p2, p3, p4, p5⟩ := DoOn.old h hb hlt
        obtain ⟨g1, g2⟩ := hl q (List.mem_of_getElem? hx)
        have hd := hf.out.trans (Hd.out i q hx)
        have hsl := hs.1.1
        have HL := hide (largeT_any q.term.name q.term.set q.term.none A1 n1 c1 wr hs.1 (by omega) g1)
        unfold Tells at HL
        rw [show largeT ⟨q.term.name, q.term.set, q.term.none⟩ = largeT q.term from rfl] at HL
        have hi1 : (0 : Int) ≤ (i : Int) := by omega
        have hi2 : (i : Int) < (n : Int) := by omega
        clear hx hs g1 g2 hsl hf Hd Hend HF h hl
        generalize largeT q.term = y at *
        cases y with
        | true =>
          have e : Hid (F = true) := hide (by rw [hd]; rfl)
          clear hd
          go_wp2_with (first
            | (go_at_call 24
               refine HL.out.mono ?_
               rintro e w1 ⟨rfl, hb1⟩))
          go_ret
          exact ⟨by rw [e.out]; rfl, hb.trans (hb1.mono hbs)⟩
        | false =>
          have e : Hid (F = (l.drop (i + 1)).any fun d => largeT d.term) := hide (by rw [hd]; rfl)
          clear hd
          go_wp2_with (first
            | (go_at_call 24
               refine HL.out.mono ?_
               rintro e w1 ⟨rfl, hb1⟩))
          go_roundw
          case rel => exact ⟨i + 1, by omega, by go_num, e, hb.trans (hb1.mono hbs)⟩
          case measure => simp [RowKit.intOf]; omega
      · have hi2 : i = n := by omega
        have e : Hid (F = false) := hide (by rw [hf.out, hi2]; exact Hend.out)
        clear hf HF Hd Hend h
        go_wp2
        go_ret
        exact ⟨by rw [e.out]; rfl, hb⟩
/-! A row of terms, one of which is written over. -/
theorem Tms.cells {w : World} {B m cap gu k : Nat} {rs : List Rt} {l : List Tm} (h : Tms w B (.slice (some ⟨gu, 0, none⟩) m cap) m rs l) (hk : k < m) :
    ∃ u0 u1 u2, w.cell? ⟨gu, k * 3, none⟩ = some u0 ∧ w.cell? ⟨gu, k * 3 + 1, none⟩ = some u1 ∧ w.cell? ⟨gu, k * 3 + 2, none⟩ = some u2 ∧ ∀ j, w.frozen? ⟨gu, j, none⟩ = false := by
  have hl : (tms rs).length = m * 3 := h.1.1
  have key : ∀ j, j < m * 3 → w.cell? ⟨gu, j, none⟩ = (tms rs)[j]? := fun j hj => World.ownsRow.cellAt h.1 j hj
  exact ⟨_, _, _, (key (k * 3) (by omega)).trans (List.getElem?_eq_getElem (by omega)), (key (k * 3 + 1) (by omega)).trans (List.getElem?_eq_getElem (by omega)), (key (k * 3 + 2) (by omega)).trans (List.getElem?_eq_getElem (by omega)), fun j => World.ownsRow.frozenAt h.1 j⟩
/-! What the law TrailFalls holds of what was noted. -/
structure FallsI (x : Tr) (nm : ByteArray) (K : List Tm) (i : Nat) : Prop where
  ok : OkTr x
  known : KnownAt x nm K
  small : SmallE x.l
  rise : Rise x
  len : x.l.length ≤ i
  level : x.level ≤ i
end Go.Proofs.YtllogmokadcfmaaGreat.Trail
/-
  The chapter's example of trails (awake) holds, if the program's trail tells what it has to. Condition: that premise.
-/
namespace Go.Proofs.YtllogmokadcfmaaGreat.Trail
open Go Go.RowKit Go.Lib Go.Proofs.YtllogmokadcfmaaGreat.Span Go.Proofs.YtllogmokadcfmaaGreat.Need Go.Proofs.YtllogmokadcfmaaGreat.Mani Go.Proofs.YtllogmokadcfmaaGreat.Grow Go.Proofs.YtllogmokadcfmaaGreat.Pick Go.Proofs.YtllogmokadcfmaaGreat.Term Go.Proofs.YtllogmokadcfmaaGreat.Clash
open Go.Proofs.YtllogmokadcfmaaGreat.Label (runes fitL runes_step runes_end)
open Go.Proofs.YtllogmokadcfmaaGreat.Fact (atS)
set_option linter.unusedVariables false
def aN : ByteArray := ⟨#[97]⟩
def anyA : Tm := ⟨aN, allS, false⟩
def decA : Tm := ⟨aN, atS 1000000, false⟩
def trA : Tr := ⟨[⟨anyA, 0, 4⟩], 0⟩
def trB : Tr := ⟨[⟨anyA, 0, 4⟩, ⟨decA, 1, -1⟩], 1⟩
theorem fit_aN : fitL (runes aN 0) = true := by
  show fitL (runes (str [97]) 0) = true
  rw [runes_step _ _ (by decide), runes_end _ _ (by decide)]
  decide
theorem meet_all : meetS allS allS = allS := (is_nf allS_set fun p p0 p1 => by
  show has allS p = (has allS p && has allS p)
  cases has allS p <;> rfl).symm
theorem know_nilA : knowL [] aN = ⟨aN, allS, true⟩ := rfl
theorem meet_anyA : meetT ⟨aN, allS, true⟩ anyA = anyA := by
  rw [meet_same (a := ⟨aN, allS, true⟩) (b := anyA) rfl]
  show (⟨aN, meetS allS allS, true && false⟩ : Tm) = anyA
  rw [meet_all]; rfl
theorem know_trA : knowL trA.l aN = anyA := by
  show knowL ([] ++ [⟨anyA, 0, 4⟩]) aN = anyA
  rw [know_snoc, if_pos (show (⟨anyA, 0, 4⟩ : Ent).term.name = aN from rfl), know_nilA]
  exact meet_anyA
theorem out_anyA : withinT (knowL [] aN) anyA = false := by
  rw [know_nilA]
  unfold withinT anyA
  simp
theorem in_anyA : withinT anyA anyA = true := within_self _
theorem derive_A : deriveT ⟨[], 0⟩ anyA 4 = (0, trA) := by
  unfold deriveT
  have h1 : okT anyA = true := by
    unfold okT anyA
    simp only [fit_aN, Bool.true_and]
    exact allS_set
  rw [if_neg (by rw [h1]; decide), show (knowL [] anyA.name) = ⟨aN, allS, true⟩ from rfl, meet_anyA, if_neg (by decide), ← know_nilA, out_anyA, if_neg (by decide)]
  rfl
theorem decide_A : decideT trA aN 1000000 = (0, trB) := by
  unfold decideT
  rw [fit_aN, if_neg (by decide), know_trA, if_neg (by decide)]
  rfl
theorem back_A : backT trB 0 = trA := rfl
theorem first_A : firstT trA.l [anyA] = 1 := by
  refine first_here (n := 1) (by decide) (fun k hk => ?_) ?_
  · obtain rfl : k = 0 := by omega
    show (withinT (knowL [] aN) anyA && true) = false
    rw [out_anyA]; rfl
  · show (withinT (knowL trA.l aN) anyA && true) = true
    rw [know_trA, in_anyA]; rfl
theorem few_new : FewT ⟨[], 0⟩ := ⟨fun e he => by (cases he), by decide, by decide⟩
theorem few_A : FewT trA := ⟨fun e he => by rw [List.mem_singleton.1 he]; exact ⟨allS_set, by decide⟩, by decide, by decide⟩
theorem rise_A : Rise trA := by have := Rise.derive Rise.new anyA 4; rw [derive_A] at this; exact this
theorem few_B : FewT trB := ⟨fun e he => by
  rcases List.mem_cons.1 he with rfl | he
  · exact ⟨allS_set, by decide⟩
  · rw [List.mem_singleton.1 he]; exact ⟨by decide, by decide⟩, by decide, by decide⟩
theorem rise_B : Rise trB := by have := Rise.decide rise_A aN 1000000; rw [decide_A] at this; exact this
theorem tm_one {w : World} {nm : ByteArray} {A : Option Addr} {n c B g : Nat} {z : Bool} {s : List S} (h : InS w B A n s) (hB : B ≤ w.heap.size) (hg : g = w.heap.size) : TmOn (w.alloc (.cells #[.string nm, .slice A n c, .bool z] 38)) (some ⟨g, 0, none⟩) 1 [⟨nm, s, z⟩] := by
  subst hg
  have hT : Tms (w.alloc (.cells #[.string nm, .slice A n c, .bool z] 38)) B (.slice (some ⟨w.heap.size, 0, none⟩) 1 1) 1 [(nm, .slice A n c, z)] [⟨nm, s, z⟩] := ⟨own_one w nm A n c z B hB, AllT.one (h.below ((Below.refl _ _).alloc (Nat.le_refl _) _))⟩
  obtain ⟨A1, c1, e, _, hR⟩ := hT.told
  injection e with e1 e2 e3
  rw [← e1] at hR
  exact hR
section
variable {TP : World → Nat → Value → Tr → Prop} {TS : TypeId → Prop}
set_option maxHeartbeats 4000000 in
set_option maxRecDepth 100000 in
theorem awakeTr_any (H : ProgT TP TS) (w : World) : Calls Tryz.prog 7 #[] w fun e w' => e = .returned (.bool true) ∧ Below w.heap.size w w' := by
  have HH := hide H
  clear H
  have Hd := hide derive_A
  have Hk := hide decide_A
  go_enter Tryz.func7, Tryz.ntmps7
  go_upto_region 3 with (first
    | (go_at_call 8
       refine (HH.out.new _).mono ?_
       rintro e w1 ⟨v, rfl, hT1, hb1⟩
       obtain ⟨pp, rfl⟩ := HH.out.ptr hT1))
  obtain ⟨g1, hg1⟩ : ∃ g, g = w1.heap.size := ⟨_, rfl⟩
  obtain ⟨g2, hg2⟩ : ∃ g, g = w1.heap.size + 1 := ⟨_, rfl⟩
  obtain ⟨V1, hV1⟩ : ∃ W, W = w1.alloc (.cells #[.int .i64 0, .int .i64 1000000000] 56) := ⟨_, rfl⟩
  obtain ⟨W1, hW1⟩ : ∃ W, W = V1.alloc (.cells #[.string ⟨#[97]⟩, .slice (some ⟨g1, 0, none⟩) 1 1, .bool false] 38) := ⟨_, rfl⟩
  have hbV : Below w1.heap.size w1 V1 := by rw [hV1]; exact (Below.refl _ _).alloc (Nat.le_refl _) _
  have hVs : V1.heap.size = w1.heap.size + 1 := by rw [hV1]; simp
  have hbW : Below V1.heap.size V1 W1 := by rw [hW1]; exact (Below.refl _ _).alloc (Nat.le_refl _) _
  have hIv : InS V1 w.heap.size (some ⟨g1, 0, none⟩) 1 allS := by
    rw [hV1]
    exact ⟨(spIn_of_reads (reads_one w1 0 1000000000 g1 hg1)).more (by rw [World.size_alloc]; omega), fun ad hA _ => by injection hA with hA; subst hA; exact .inr ⟨_, _, by rw [hg1]; exact heap_alloc_new w1 _⟩⟩
  have hI1 : InS W1 w.heap.size (some ⟨g1, 0, none⟩) 1 allS := hIv.below hbW
  have hB1 : Blk W1 g2 38 #[.string ⟨#[97]⟩, .slice (some ⟨g1, 0, none⟩) 1 1, .bool false] := by
    rw [hW1, hg2, ← hVs]; exact Blk.new _ _ _
  have hb1W : Below w1.heap.size w1 W1 := hbV.trans (hbW.mono (by omega))
  have hT1W := HH.out.below hT1 hb1W
  have hb01 := hb1.trans (hb1W.mono hb1.size)
  have HD := hide (HH.out.derive anyA (some ⟨g1, 0, none⟩) 1 1 4 hT1W few_new hI1 (Nat.le_refl _) (by decide) (by decide))
  rw [Hd.out] at HD
  unfold MovesT at HD
  have k0 := hB1.cell 0
  have k1 := hB1.cell 1
  have k2 := hB1.cell 2
  try rw [← hg2]
  try rw [← hg1]
  try rw [← hV1]
  try rw [← hW1]
  clear hV1 hW1 hg1 hg2 hbV hVs hbW hIv hT1 hb1W
  go_upto_region 7 with (first
    | (go_at_call 12
       refine (HH.out.back 0 hT5 few_B rise_B).mono ?_
       rintro e w6 ⟨rfl, hT6, hK6⟩
       rw [back_A] at hT6
       have hI6 := hK6.ins hI5 HH.out.span (Nat.le_refl _)
       have hB6 := hK6.blk hB5 HH.out.term
       have hb6 := hb5.trans hK6.below
       have p0 := hB6.cell 0
       have p1 := hB6.cell 1
       have p2 := hB6.cell 2)
    | (go_at_call 10
       refine (HH.out.level hT4 few_B).mono ?_
       rintro e w5 ⟨rfl, hb5x⟩
       have hT5 := HH.out.below hT4 hb5x
       have hI5 := hI4.below hb5x
       have hB5 := hB4.below hb5x hB4.lt
       have hb5 := hb4.trans (hb5x.mono hb4.size))
    | (go_at_call 11
       refine (HH.out.len hT3 few_B).mono ?_
       rintro e w4 ⟨rfl, hb4x⟩
       have hT4 := HH.out.below hT3 hb4x
       have hI4 := hI3.below hb4x
       have hB4 := hB3.below hb4x hB3.lt
       have hb4 := hb3.trans (hb4x.mono hb3.size))
    | (go_at_call 13
       have HE := hide (HH.out.decide aN 1000000 hT2 few_A (by decide))
       rw [Hk.out] at HE
       unfold MovesT at HE
       refine HE.out.mono ?_
       rintro e w3 ⟨rfl, hT3, hK3⟩
       have hI3 := hK3.ins hI2 HH.out.span (Nat.le_refl _)
       have hB3 := hK3.blk hB2 HH.out.term
       have hb3 := hb2.trans hK3.below)
    | (go_at_call 14
       refine HD.out.mono ?_
       rintro e w2 ⟨rfl, hT2, hK2⟩
       have hI2 := hK2.ins hI1 HH.out.span (Nat.le_refl _)
       have hB2 := hK2.blk hB1 HH.out.term
       have hb2 := hb01.trans hK2.below))
  clear HD Hd Hk hT2 hT3 hT4 hT5 hI1 hI2 hI3 hI4 hI5 hB1 hB2 hB3 hB4 hB5 hK2 hK3 hK6 hb01 hb2 hb3 hb4 hb5 k0 k1 k2
  have hbs := hb6.size
  have HF := hide (fun (g7 : Nat) (wx : World) (hx : Below w6.heap.size w6 wx) (hg : TmOn wx (some ⟨g7, 0, none⟩) 1 [anyA]) => HH.out.first [anyA] (some ⟨g7, 0, none⟩) 1 1 (HH.out.below hT6 hx) few_A hg (by decide) (fun t ht => by rw [List.mem_singleton.1 ht]; exact ⟨by decide, allS_set, by decide⟩))
  rw [first_A] at HF
  go_wp2_with (first
    | (go_at_call 15
       refine (HF.out _ _ (hb7x.trans ((Below.refl _ _ : Below w7.heap.size w7 w7).alloc (Nat.le_refl _) (.cells #[.string ⟨#[97]⟩, .slice (some ⟨g1, 0, none⟩) 1 1, .bool false] 38) |>.mono hb7x.size)) (tm_one hI7 (Nat.le_trans hbs hb7x.size) rfl)).mono ?_
       rintro e w8 ⟨rfl, hb8⟩)
    | (go_at_call 11
       refine (HH.out.len hT6 few_A).mono ?_
       rintro e w7 ⟨rfl, hb7x⟩
       have hI7 := hI6.below hb7x
       have hB7 := hB6.below hb7x hB6.lt
       have q0 := hB7.cell 0
       have q1 := hB7.cell 1
       have q2 := hB7.cell 2))
  go_ret
  exact ⟨rfl, (hb6.trans (hb7x.mono hbs)).trans ((((Below.refl _ _ : Below w7.heap.size w7 w7).alloc (Nat.le_refl _) _).trans (hb8.mono (by simp))).mono (Nat.le_trans hbs hb7x.size))⟩
end
end Go.Proofs.YtllogmokadcfmaaGreat.Trail
