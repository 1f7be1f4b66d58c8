/-
  Some texts of this claim, one behind the other: TrailAwake, TrailEx, TrailFallsW. What each proves, and its condition, stands at its head.
-/
import Derived.Test.YtllogmokadcfmaaZA27
import Derived.Test.YtllogmokadcfmaaZA20
import Derived.Test.YtllogmokadcfmaaZA32
import Derived.Test.YtllogmokadcfmaaZA33
import Derived.Test.YtllogmokadcfmaaZA29
import Derived.Test.YtllogmokadcfmaaZA5
import Derived.Deep.RegionHeld3
/-
  What is more than is looked at of things that are done to a trail; the chapter's example; rows of terms one of which is written over; what the law TrailFalls holds of what was noted. Condition: the program's trail tells what it has to (a premise).
-/
namespace Go.Proofs.Ytllogmokadcfmaa.Trail
open Go Go.RowKit Go.Lib Go.Proofs.Ytllogmokadcfmaa.Span Go.Proofs.Ytllogmokadcfmaa.Need Go.Proofs.Ytllogmokadcfmaa.Mani Go.Proofs.Ytllogmokadcfmaa.Grow Go.Proofs.Ytllogmokadcfmaa.Pick Go.Proofs.Ytllogmokadcfmaa.Term Go.Proofs.Ytllogmokadcfmaa.Clash
open Go.Proofs.Ytllogmokadcfmaa.Label (runes fitL)
open Go.Proofs.Ytllogmokadcfmaa.Fact (atS)
set_option linter.unusedVariables false
def largeD (l : List Dt) : Bool := decide (60 < l.length) || l.any fun d => largeT d.term
theorem smallD {l : List Dt} (h : largeD l = false) : l.length ≤ 60 ∧ ∀ d ∈ l, d.term.set.length ≤ 60 ∧ d.term.name.size ≤ 200 := by
  unfold largeD at h
  rw [Bool.or_eq_false_iff, decide_eq_false_iff_not, List.any_eq_false] at h
  exact ⟨by omega, fun d hd => small_of (by simpa using h.2 d hd)⟩
theorem any_dropD {l : List Dt} {d : Dt} {i : Nat} (h : l[i]? = some d) : (l.drop i).any (fun d => largeT d.term) = (largeT d.term || (l.drop (i + 1)).any fun d => largeT d.term) := by
  obtain ⟨hi, e⟩ := List.getElem?_eq_some_iff.1 h
  rw [List.drop_eq_getElem_cons hi, e]
  rfl
set_option maxHeartbeats 4000000 in
set_option maxRecDepth 100000 in
theorem largeD_any (l : List Dt) (A : Option Addr) (n c : Nat) (w : World) (h : DoOn w A n l) (hn : n ≤ 9223372036854775807) (hl : ∀ d ∈ l, d.term.name.size ≤ 9223372036854775807 ∧ d.term.set.length ≤ 9223372036854775807) :
    Calls Try.prog 4 #[.slice A n c] w fun e w' => e = .returned (.bool (largeD l)) ∧ Below w.heap.size w w' := by
  have hlen := hide h.len
  by_cases h60 : 60 < n
  · have e : largeD l = true := by unfold largeD; rw [decide_eq_true (by have := hlen.out; omega)]; rfl
    have h60z : (60 : Int) < (n : Int) := by omega
    rw [e]
    go_enter Try.func4, Try.ntmps4
    go_wp2
    go_ret
    exact ⟨rfl, Below.refl _ _⟩
  · have e : largeD l = l.any fun d => largeT d.term := by unfold largeD; rw [decide_eq_false (by have := hlen.out; omega)]; rfl
    have h60z : ¬ (60 : Int) < (n : Int) := by omega
    rw [e]
    have Hd := hide (fun i t => @any_dropD l t i)
    have Hend : Hid ((l.drop n).any (fun d => largeT d.term) = false) := hide (by rw [List.drop_of_length_le (by have := hlen.out; omega)]; rfl)
    obtain ⟨F, hF⟩ : ∃ F, F = l.any fun d => largeT d.term := ⟨_, rfl⟩
    rw [← hF]
    have HF : Hid (F = (l.drop 0).any fun d => largeT d.term) := hide hF
    clear hF e
    go_enter Try.func4, Try.ntmps4
    go_wp2
    go_loopw [3] (fun v wr => ∃ i : Nat, i ≤ n ∧ v = .int .i64 (i : Int) ∧ Hid (F = (l.drop i).any fun d => largeT d.term) ∧ Below w.heap.size w wr) (fun v _ => n - (RowKit.intOf v).toNat)
    case atStart => exact ⟨0, by omega, rfl, HF, Below.refl _ _⟩
    case round =>
      obtain ⟨i, hi, rfl, hf, hb⟩ := hrel
      have hbs := hb.size
      by_cases hlt : i < n
      · obtain ⟨ad, q, A1, n1, c1, rfl, hbl, hx, h0, hs, p0, p1, p2, p3, p4, p5⟩ := DoOn.old h hb hlt
        obtain ⟨g1, g2⟩ := hl q (List.mem_of_getElem? hx)
        have hd := hf.out.trans (Hd.out i q hx)
        have hsl := hs.1.1
        have HL := hide (largeT_any q.term.name q.term.set q.term.none A1 n1 c1 wr hs.1 (by omega) g1)
        unfold Tells at HL
        rw [show largeT ⟨q.term.name, q.term.set, q.term.none⟩ = largeT q.term from rfl] at HL
        have hi1 : (0 : Int) ≤ (i : Int) := by omega
        have hi2 : (i : Int) < (n : Int) := by omega
        clear hx hs g1 g2 hsl hf Hd Hend HF h hl
        generalize largeT q.term = y at *
        cases y with
        | true =>
          have e : Hid (F = true) := hide (by rw [hd]; rfl)
          clear hd
          go_wp2_with (first
            | (go_at_call 15
               refine HL.out.mono ?_
               rintro e w1 ⟨rfl, hb1⟩))
          go_ret
          exact ⟨by rw [e.out]; rfl, hb.trans (hb1.mono hbs)⟩
        | false =>
          have e : Hid (F = (l.drop (i + 1)).any fun d => largeT d.term) := hide (by rw [hd]; rfl)
          clear hd
          go_wp2_with (first
            | (go_at_call 15
               refine HL.out.mono ?_
               rintro e w1 ⟨rfl, hb1⟩))
          go_roundw
          case rel => exact ⟨i + 1, by omega, by go_num, e, hb.trans (hb1.mono hbs)⟩
          case measure => simp [RowKit.intOf]; omega
      · have hi2 : i = n := by omega
        have e : Hid (F = false) := hide (by rw [hf.out, hi2]; exact Hend.out)
        clear hf HF Hd Hend h
        go_wp2
        go_ret
        exact ⟨by rw [e.out]; rfl, hb⟩
/-! A row of terms, one of which is written over. -/
theorem tms_set (rs : List Rt) (r : Rt) : ∀ k, tms (rs.set k r) = (((tms rs).set (k * 3) (.string r.1)).set (k * 3 + 1) r.2.1).set (k * 3 + 2) (.bool r.2.2) := by
  induction rs with
  | nil => intro k; rfl
  | cons x t ih =>
    intro k
    cases k with
    | zero => rfl
    | succ k =>
      rw [List.set_cons_succ]
      show _ :: _ :: _ :: tms (t.set k r) = _
      rw [ih k, show (k + 1) * 3 = k * 3 + 1 + 1 + 1 by omega, show k * 3 + 1 + 1 + 1 + 1 = (k * 3 + 1) + 1 + 1 + 1 by omega, show k * 3 + 1 + 1 + 1 + 2 = (k * 3 + 2) + 1 + 1 + 1 by omega]
      rfl
theorem addr_zero (g k : Nat) : (⟨g, 0, none⟩ : Addr).add k = ⟨g, k, none⟩ := by
  unfold Addr.add
  split <;> simp_all
theorem Tms.cells {w : World} {B m cap gu k : Nat} {rs : List Rt} {l : List Tm} (h : Tms w B (.slice (some ⟨gu, 0, none⟩) m cap) m rs l) (hk : k < m) :
    ∃ u0 u1 u2, w.cell? ⟨gu, k * 3, none⟩ = some u0 ∧ w.cell? ⟨gu, k * 3 + 1, none⟩ = some u1 ∧ w.cell? ⟨gu, k * 3 + 2, none⟩ = some u2 ∧ ∀ j, w.frozen? ⟨gu, j, none⟩ = false := by
  have hl : (tms rs).length = m * 3 := h.1.1
  have key : ∀ j, j < m * 3 → w.cell? ⟨gu, j, none⟩ = (tms rs)[j]? := fun j hj => World.ownsRow.cellAt h.1 j hj
  exact ⟨_, _, _, (key (k * 3) (by omega)).trans (List.getElem?_eq_getElem (by omega)), (key (k * 3 + 1) (by omega)).trans (List.getElem?_eq_getElem (by omega)), (key (k * 3 + 2) (by omega)).trans (List.getElem?_eq_getElem (by omega)), fun j => World.ownsRow.frozenAt h.1 j⟩
theorem Tms.over {w : World} {B m cap gu k : Nat} {rs : List Rt} {l : List Tm} (h : Tms w B (.slice (some ⟨gu, 0, none⟩) m cap) m rs l) {t : Tm} {A : Option Addr} {n c : Nat} (hs : InS w B A n t.set) :
    Tms (((w.setCell ⟨gu, k * 3, none⟩ (.string t.name)).setCell ⟨gu, k * 3 + 1, none⟩ (.slice A n c)).setCell ⟨gu, k * 3 + 2, none⟩ (.bool t.none)) B (.slice (some ⟨gu, 0, none⟩) m cap) m (rs.set k (t.name, .slice A n c, t.none)) (l.set k t) ∧
      w.grownBy (((w.setCell ⟨gu, k * 3, none⟩ (.string t.name)).setCell ⟨gu, k * 3 + 1, none⟩ (.slice A n c)).setCell ⟨gu, k * 3 + 2, none⟩ (.bool t.none)) (some gu) := by
  obtain ⟨h1, g1⟩ := World.ownsRow.stored h.1 (k * 3) (.string t.name)
  obtain ⟨h2, g2⟩ := World.ownsRow.stored h1 (k * 3 + 1) (.slice A n c)
  obtain ⟨h3, g3⟩ := World.ownsRow.stored h2 (k * 3 + 2) (.bool t.none)
  have hg := only_setCell (p := ⟨gu, k * 3 + 2, none⟩) (only_setCell (p := ⟨gu, k * 3 + 1, none⟩) g1 (.inl rfl) (.slice A n c)) (.inl rfl) (.bool t.none)
  refine ⟨⟨by rw [tms_set]; exact h3, ?_⟩, hg⟩
  have hk : ∀ A n s, InS w B A n s → InS _ B A n s := fun A n s hs => inS_grown hs h.1 (Nat.le_refl _) (by decide) hg
  refine ⟨by rw [List.length_set, List.length_set]; exact h.2.1, fun i r q hr hq => ?_⟩
  rw [List.getElem?_set] at hr hq
  by_cases e : k = i
  · rw [if_pos e] at hr hq
    split at hr
    · split at hq
      · injection hr with hr
        injection hq with hq
        subst hr hq
        exact ⟨rfl, rfl, A, n, c, rfl, hk _ _ _ hs⟩
      · cases hq
    · cases hr
  · rw [if_neg e] at hr hq
    obtain ⟨e1, e2, A9, n9, c9, e3, h9⟩ := h.2.2 i r q hr hq
    exact ⟨e1, e2, A9, n9, c9, e3, hk _ _ _ h9⟩
/-! What the law TrailFalls holds of what was noted. -/
structure FallsI (x : Tr) (nm : ByteArray) (K : List Tm) (i : Nat) : Prop where
  ok : OkTr x
  known : KnownAt x nm K
  small : SmallE x.l
  rise : Rise x
  len : x.l.length ≤ i
  level : x.level ≤ i
theorem FallsI.few {x : Tr} {nm : ByteArray} {K : List Tm} {i : Nat} (h : FallsI x nm K i) (hi : i ≤ 60) : FewT x := ⟨h.small, Nat.le_trans h.len hi, Nat.le_trans h.level hi⟩
theorem FallsI.more {x : Tr} {nm : ByteArray} {K : List Tm} {i : Nat} (h : FallsI x nm K i) : FallsI x nm K (i + 1) := ⟨h.ok, h.known, h.small, h.rise, Nat.le_succ_of_le h.len, Nat.le_succ_of_le h.level⟩
theorem falls_new (nm : ByteArray) : FallsI ⟨[], 0⟩ nm [knowL [] nm] 0 := ⟨OkTr.new, known_new nm, fun e he => by (cases he), Rise.new, Nat.le_refl _, Nat.le_refl _⟩
theorem falls_one {x : Tr} {nm : ByteArray} {K : List Tm} {i : Nat} (h : FallsI x nm K i) (d : Dt) (hd : d.kind = 0 ∨ d.kind = 1) (hs : d.term.set.length ≤ 60) :
    FewT x → withinT (knowL (doT x d).2.l nm) (knowL x.l nm) = true ∧ emptyT (knowL (doT x d).2.l nm) = false ∧
      (((doT x d).2.level = x.level ∧ FallsI (doT x d).2 nm (K.set x.level (knowL (doT x d).2.l nm)) (i + 1)) ∨ ((doT x d).2.level = x.level + 1 ∧ FallsI (doT x d).2 nm (K ++ [knowL (doT x d).2.l nm]) (i + 1))) := by
  intro _
  obtain ⟨h1, h2, h3, h4⟩ := falls_step h.ok h.known d hd
  have h5 := do_len x d
  have h6 := h.len
  have h7 := h.level
  have hr : Rise (doT x d).2 := by
    unfold doT
    rcases hd with e | e
    · rw [if_pos e]; exact h.rise.decide _ _
    · rw [if_neg (by omega), if_pos e]; exact h.rise.derive _ _
  have hm : SmallE (doT x d).2.l := by
    unfold doT
    rcases hd with e | e
    · rw [if_pos e]; exact h.small.decide _ _
    · rw [if_neg (by omega), if_pos e]; exact h.small.derive _ _ hs
  refine ⟨h2, h3, ?_⟩
  rcases h4 with ⟨e, hk⟩ | ⟨e, hk⟩
  · exact .inl ⟨e, ⟨h1, hk, hm, hr, by omega, by omega⟩⟩
  · exact .inr ⟨e, ⟨h1, hk, hm, hr, by omega, by omega⟩⟩
end Go.Proofs.Ytllogmokadcfmaa.Trail
/-
  The chapter's example of trails (awake) holds, if the program's trail tells what it has to. Condition: that premise.
-/
namespace Go.Proofs.Ytllogmokadcfmaa.Trail
open Go Go.RowKit Go.Lib Go.Proofs.Ytllogmokadcfmaa.Span Go.Proofs.Ytllogmokadcfmaa.Need Go.Proofs.Ytllogmokadcfmaa.Mani Go.Proofs.Ytllogmokadcfmaa.Grow Go.Proofs.Ytllogmokadcfmaa.Pick Go.Proofs.Ytllogmokadcfmaa.Term Go.Proofs.Ytllogmokadcfmaa.Clash
open Go.Proofs.Ytllogmokadcfmaa.Label (runes fitL runes_step runes_end)
open Go.Proofs.Ytllogmokadcfmaa.Fact (atS)
set_option linter.unusedVariables false
def aN : ByteArray := ⟨#[97]⟩
def anyA : Tm := ⟨aN, allS, false⟩
def decA : Tm := ⟨aN, atS 1000000, false⟩
def trA : Tr := ⟨[⟨anyA, 0, 4⟩], 0⟩
def trB : Tr := ⟨[⟨anyA, 0, 4⟩, ⟨decA, 1, -1⟩], 1⟩
theorem fit_aN : fitL (runes aN 0) = true := by
  show fitL (runes (str [97]) 0) = true
  rw [runes_step _ _ (by decide), runes_end _ _ (by decide)]
  decide
theorem meet_all : meetS allS allS = allS := (is_nf allS_set fun p p0 p1 => by
  show has allS p = (has allS p && has allS p)
  cases has allS p <;> rfl).symm
theorem know_nilA : knowL [] aN = ⟨aN, allS, true⟩ := rfl
theorem meet_anyA : meetT ⟨aN, allS, true⟩ anyA = anyA := by
  rw [meet_same (a := ⟨aN, allS, true⟩) (b := anyA) rfl]
  show (⟨aN, meetS allS allS, true && false⟩ : Tm) = anyA
  rw [meet_all]; rfl
theorem know_trA : knowL trA.l aN = anyA := by
  show knowL ([] ++ [⟨anyA, 0, 4⟩]) aN = anyA
  rw [know_snoc, if_pos (show (⟨anyA, 0, 4⟩ : Ent).term.name = aN from rfl), know_nilA]
  exact meet_anyA
theorem out_anyA : withinT (knowL [] aN) anyA = false := by
  rw [know_nilA]
  unfold withinT anyA
  simp
theorem in_anyA : withinT anyA anyA = true := within_self _
theorem derive_A : deriveT ⟨[], 0⟩ anyA 4 = (0, trA) := by
  unfold deriveT
  have h1 : okT anyA = true := by
    unfold okT anyA
    simp only [fit_aN, Bool.true_and]
    exact allS_set
  rw [if_neg (by rw [h1]; decide), show (knowL [] anyA.name) = ⟨aN, allS, true⟩ from rfl, meet_anyA, if_neg (by decide), ← know_nilA, out_anyA, if_neg (by decide)]
  rfl
theorem decide_A : decideT trA aN 1000000 = (0, trB) := by
  unfold decideT
  rw [fit_aN, if_neg (by decide), know_trA, if_neg (by decide)]
  rfl
theorem back_A : backT trB 0 = trA := rfl
theorem first_A : firstT trA.l [anyA] = 1 := by
  refine first_here (n := 1) (by decide) (fun k hk => ?_) ?_
  · obtain rfl : k = 0 := by omega
    show (withinT (knowL [] aN) anyA && true) = false
    rw [out_anyA]; rfl
  · show (withinT (knowL trA.l aN) anyA && true) = true
    rw [know_trA, in_anyA]; rfl
theorem few_new : FewT ⟨[], 0⟩ := ⟨fun e he => by (cases he), by decide, by decide⟩
theorem few_A : FewT trA := ⟨fun e he => by rw [List.mem_singleton.1 he]; exact ⟨allS_set, by decide⟩, by decide, by decide⟩
theorem rise_A : Rise trA := by have := Rise.derive Rise.new anyA 4; rw [derive_A] at this; exact this
theorem few_B : FewT trB := ⟨fun e he => by
  rcases List.mem_cons.1 he with rfl | he
  · exact ⟨allS_set, by decide⟩
  · rw [List.mem_singleton.1 he]; exact ⟨by decide, by decide⟩, by decide, by decide⟩
theorem rise_B : Rise trB := by have := Rise.decide rise_A aN 1000000; rw [decide_A] at this; exact this
theorem tm_one {w : World} {nm : ByteArray} {A : Option Addr} {n c B g : Nat} {z : Bool} {s : List S} (h : InS w B A n s) (hB : B ≤ w.heap.size) (hg : g = w.heap.size) : TmOn (w.alloc (.cells #[.string nm, .slice A n c, .bool z] 29)) (some ⟨g, 0, none⟩) 1 [⟨nm, s, z⟩] := by
  subst hg
  have hT : Tms (w.alloc (.cells #[.string nm, .slice A n c, .bool z] 29)) B (.slice (some ⟨w.heap.size, 0, none⟩) 1 1) 1 [(nm, .slice A n c, z)] [⟨nm, s, z⟩] := ⟨own_one w nm A n c z B hB, AllT.one (h.below ((Below.refl _ _).alloc (Nat.le_refl _) _))⟩
  obtain ⟨A1, c1, e, _, hR⟩ := hT.told
  injection e with e1 e2 e3
  rw [← e1] at hR
  exact hR
section
variable {TP : World → Nat → Value → Tr → Prop} {TS : TypeId → Prop}
set_option maxHeartbeats 4000000 in
set_option maxRecDepth 100000 in
theorem awakeTr_any (H : ProgT TP TS) (w : World) : Calls Try.prog 5 #[] w fun e w' => e = .returned (.bool true) ∧ Below w.heap.size w w' := by
  have HH := hide H
  clear H
  have Hd := hide derive_A
  have Hk := hide decide_A
  go_enter Try.func5, Try.ntmps5
  go_upto_region 3 with (first
    | (go_at_call 6
       refine (HH.out.new _).mono ?_
       rintro e w1 ⟨v, rfl, hT1, hb1⟩
       obtain ⟨pp, rfl⟩ := HH.out.ptr hT1))
  obtain ⟨g1, hg1⟩ : ∃ g, g = w1.heap.size := ⟨_, rfl⟩
  obtain ⟨g2, hg2⟩ : ∃ g, g = w1.heap.size + 1 := ⟨_, rfl⟩
  obtain ⟨V1, hV1⟩ : ∃ W, W = w1.alloc (.cells #[.int .i64 0, .int .i64 1000000000] 43) := ⟨_, rfl⟩
  obtain ⟨W1, hW1⟩ : ∃ W, W = V1.alloc (.cells #[.string ⟨#[97]⟩, .slice (some ⟨g1, 0, none⟩) 1 1, .bool false] 29) := ⟨_, rfl⟩
  have hbV : Below w1.heap.size w1 V1 := by rw [hV1]; exact (Below.refl _ _).alloc (Nat.le_refl _) _
  have hVs : V1.heap.size = w1.heap.size + 1 := by rw [hV1]; simp
  have hbW : Below V1.heap.size V1 W1 := by rw [hW1]; exact (Below.refl _ _).alloc (Nat.le_refl _) _
  have hIv : InS V1 w.heap.size (some ⟨g1, 0, none⟩) 1 allS := by
    rw [hV1]
    exact ⟨(spIn_of_reads (reads_one w1 0 1000000000 g1 hg1)).more (by rw [World.size_alloc]; omega), fun ad hA _ => by injection hA with hA; subst hA; exact .inr ⟨_, _, by rw [hg1]; exact heap_alloc_new w1 _⟩⟩
  have hI1 : InS W1 w.heap.size (some ⟨g1, 0, none⟩) 1 allS := hIv.below hbW
  have hB1 : Blk W1 g2 29 #[.string ⟨#[97]⟩, .slice (some ⟨g1, 0, none⟩) 1 1, .bool false] := by
    rw [hW1, hg2, ← hVs]; exact Blk.new _ _ _
  have hb1W : Below w1.heap.size w1 W1 := hbV.trans (hbW.mono (by omega))
  have hT1W := HH.out.below hT1 hb1W
  have hb01 := hb1.trans (hb1W.mono hb1.size)
  have HD := hide (HH.out.derive anyA (some ⟨g1, 0, none⟩) 1 1 4 hT1W few_new hI1 (Nat.le_refl _) (by decide) (by decide))
  rw [Hd.out] at HD
  unfold MovesT at HD
  have k0 := hB1.cell 0
  have k1 := hB1.cell 1
  have k2 := hB1.cell 2
  try rw [← hg2]
  try rw [← hg1]
  try rw [← hV1]
  try rw [← hW1]
  clear hV1 hW1 hg1 hg2 hbV hVs hbW hIv hT1 hb1W
  go_upto_region 7 with (first
    | (go_at_call 13
       refine (HH.out.back 0 hT5 few_B rise_B).mono ?_
       rintro e w6 ⟨rfl, hT6, hK6⟩
       rw [back_A] at hT6
       have hI6 := hK6.ins hI5 HH.out.span (Nat.le_refl _)
       have hB6 := hK6.blk hB5 HH.out.term
       have hb6 := hb5.trans hK6.below
       have p0 := hB6.cell 0
       have p1 := hB6.cell 1
       have p2 := hB6.cell 2)
    | (go_at_call 8
       refine (HH.out.level hT4 few_B).mono ?_
       rintro e w5 ⟨rfl, hb5x⟩
       have hT5 := HH.out.below hT4 hb5x
       have hI5 := hI4.below hb5x
       have hB5 := hB4.below hb5x hB4.lt
       have hb5 := hb4.trans (hb5x.mono hb4.size))
    | (go_at_call 16
       refine (HH.out.len hT3 few_B).mono ?_
       rintro e w4 ⟨rfl, hb4x⟩
       have hT4 := HH.out.below hT3 hb4x
       have hI4 := hI3.below hb4x
       have hB4 := hB3.below hb4x hB3.lt
       have hb4 := hb3.trans (hb4x.mono hb3.size))
    | (go_at_call 9
       have HE := hide (HH.out.decide aN 1000000 hT2 few_A (by decide))
       rw [Hk.out] at HE
       unfold MovesT at HE
       refine HE.out.mono ?_
       rintro e w3 ⟨rfl, hT3, hK3⟩
       have hI3 := hK3.ins hI2 HH.out.span (Nat.le_refl _)
       have hB3 := hK3.blk hB2 HH.out.term
       have hb3 := hb2.trans hK3.below)
    | (go_at_call 10
       refine HD.out.mono ?_
       rintro e w2 ⟨rfl, hT2, hK2⟩
       have hI2 := hK2.ins hI1 HH.out.span (Nat.le_refl _)
       have hB2 := hK2.blk hB1 HH.out.term
       have hb2 := hb01.trans hK2.below))
  clear HD Hd Hk hT2 hT3 hT4 hT5 hI1 hI2 hI3 hI4 hI5 hB1 hB2 hB3 hB4 hB5 hK2 hK3 hK6 hb01 hb2 hb3 hb4 hb5 k0 k1 k2
  have hbs := hb6.size
  have HF := hide (fun (g7 : Nat) (wx : World) (hx : Below w6.heap.size w6 wx) (hg : TmOn wx (some ⟨g7, 0, none⟩) 1 [anyA]) => HH.out.first [anyA] (some ⟨g7, 0, none⟩) 1 1 (HH.out.below hT6 hx) few_A hg (by decide) (fun t ht => by rw [List.mem_singleton.1 ht]; exact ⟨by decide, allS_set, by decide⟩))
  rw [first_A] at HF
  go_wp2_with (first
    | (go_at_call 17
       refine (HF.out _ _ (hb7x.trans ((Below.refl _ _ : Below w7.heap.size w7 w7).alloc (Nat.le_refl _) (.cells #[.string ⟨#[97]⟩, .slice (some ⟨g1, 0, none⟩) 1 1, .bool false] 29) |>.mono hb7x.size)) (tm_one hI7 (Nat.le_trans hbs hb7x.size) rfl)).mono ?_
       rintro e w8 ⟨rfl, hb8⟩)
    | (go_at_call 16
       refine (HH.out.len hT6 few_A).mono ?_
       rintro e w7 ⟨rfl, hb7x⟩
       have hI7 := hI6.below hb7x
       have hB7 := hB6.below hb7x hB6.lt
       have q0 := hB7.cell 0
       have q1 := hB7.cell 1
       have q2 := hB7.cell 2))
  go_ret
  exact ⟨rfl, (hb6.trans (hb7x.mono hbs)).trans ((((Below.refl _ _ : Below w7.heap.size w7 w7).alloc (Nat.le_refl _) _).trans (hb8.mono (by simp))).mono (Nat.le_trans hbs hb7x.size))⟩
end
end Go.Proofs.Ytllogmokadcfmaa.Trail
/-
  The walk of TrailFalls, if the program's trail tells what it has to. Condition: that premise.
-/
namespace Go.Proofs.Ytllogmokadcfmaa.Trail
open Go Go.RowKit Go.Lib Go.Proofs.Ytllogmokadcfmaa.Span Go.Proofs.Ytllogmokadcfmaa.Need Go.Proofs.Ytllogmokadcfmaa.Mani Go.Proofs.Ytllogmokadcfmaa.Grow Go.Proofs.Ytllogmokadcfmaa.Pick Go.Proofs.Ytllogmokadcfmaa.Term Go.Proofs.Ytllogmokadcfmaa.Clash
set_option linter.unusedVariables false
set_option linter.unusedSimpArgs false
theorem few_back {x : Tr} (h : FewT x) (k : Int) : FewT (backT x k) := by
  refine ⟨h.small.back k, ?_, ?_⟩
  · unfold backT
    split
    · exact h.len
    · exact Nat.le_trans (List.length_filter_le _ _) h.len
  · unfold backT
    split
    · exact h.level
    · have := h.level
      show (max k 0).toNat ≤ 60
      omega
theorem Tms.form {w : World} {B m : Nat} {v : Value} {rs : List Rt} {l : List Tm} (h : Tms w B v m rs l) (hm : 0 < m) : ∃ (gu : Nat) (ag : Addr) (cap : Nat), ag = ⟨gu, 0, none⟩ ∧ v = .slice (some ag) m cap ∧ m ≤ cap := by
  rcases h.1.2 with ⟨_, h0⟩ | ⟨gu, cap, cur, hv, _, _, h6, _⟩
  · omega
  · exact ⟨gu, _, cap, rfl, hv, h6⟩
theorem Tms.block {w : World} {B m cap gu : Nat} {ag : Addr} {rs : List Rt} {l : List Tm} (hag : ag = ⟨gu, 0, none⟩) (h : Tms w B (.slice (some ag) m cap) m rs l) (hm : 0 < m) : ∃ cur mm, w.heap[gu]? = some (.cells cur 29 mm) ∧ B ≤ gu := by
  subst hag
  rcases h.1.2 with ⟨_, h0⟩ | ⟨g, c, cur, hv, hB, hg, _⟩
  · omega
  · injection hv with e1 e2 e3
    injection e1 with e1
    injection e1 with e1
    subst e1
    exact ⟨cur, _, hg, hB⟩
theorem Tms.open3 {w : World} {B m cap gu k : Nat} {ag : Addr} {rs : List Rt} {l : List Tm} (hag : ag = ⟨gu, 0, none⟩) (h : Tms w B (.slice (some ag) m cap) m rs l) (hk : k < m) (v0 v1 v2 : Value) :
    ∃ u0 u1 u2, w.cell? (ag.add (k * 3)) = some u0 ∧ w.frozen? (ag.add (k * 3)) = false ∧
      w.cell? ⟨(ag.add (k * 3)).block, (ag.add (k * 3)).off + 1, none⟩ = some u1 ∧ w.frozen? ⟨(ag.add (k * 3)).block, (ag.add (k * 3)).off + 1, none⟩ = false ∧
      w.cell? ⟨(ag.add (k * 3)).block, (ag.add (k * 3)).off + 2, none⟩ = some u2 ∧ w.frozen? ⟨(ag.add (k * 3)).block, (ag.add (k * 3)).off + 2, none⟩ = false ∧
      (w.setCell (ag.add (k * 3)) v0).cell? ⟨(ag.add (k * 3)).block, (ag.add (k * 3)).off + 1, none⟩ = some u1 ∧ (w.setCell (ag.add (k * 3)) v0).frozen? ⟨(ag.add (k * 3)).block, (ag.add (k * 3)).off + 1, none⟩ = false ∧
      ((w.setCell (ag.add (k * 3)) v0).setCell ⟨(ag.add (k * 3)).block, (ag.add (k * 3)).off + 1, none⟩ v1).cell? ⟨(ag.add (k * 3)).block, (ag.add (k * 3)).off + 2, none⟩ = some u2 ∧ ((w.setCell (ag.add (k * 3)) v0).setCell ⟨(ag.add (k * 3)).block, (ag.add (k * 3)).off + 1, none⟩ v1).frozen? ⟨(ag.add (k * 3)).block, (ag.add (k * 3)).off + 2, none⟩ = false := by
  subst hag
  rw [addr_zero]
  have hl : (tms rs).length = m * 3 := h.1.1
  obtain ⟨h1, _⟩ := World.ownsRow.stored h.1 (k * 3) v0
  obtain ⟨h2, _⟩ := World.ownsRow.stored h1 (k * 3 + 1) v1
  have l1 : ((tms rs).set (k * 3) v0).length = m * 3 := by rw [List.length_set]; exact hl
  have l2 : (((tms rs).set (k * 3) v0).set (k * 3 + 1) v1).length = m * 3 := by rw [List.length_set]; exact l1
  refine ⟨(tms rs)[k * 3]'(by omega), (tms rs)[k * 3 + 1]'(by omega), (tms rs)[k * 3 + 2]'(by omega), ?_, World.ownsRow.frozenAt h.1 _, ?_, World.ownsRow.frozenAt h.1 _, ?_, World.ownsRow.frozenAt h.1 _, ?_, World.ownsRow.frozenAt h1 _, ?_, World.ownsRow.frozenAt h2 _⟩
  · exact (World.ownsRow.cellAt h.1 (k * 3) (by omega)).trans (List.getElem?_eq_getElem _)
  · exact (World.ownsRow.cellAt h.1 (k * 3 + 1) (by omega)).trans (List.getElem?_eq_getElem _)
  · exact (World.ownsRow.cellAt h.1 (k * 3 + 2) (by omega)).trans (List.getElem?_eq_getElem _)
  · refine (World.ownsRow.cellAt h1 (k * 3 + 1) (by omega)).trans ?_
    rw [List.getElem?_set_ne (by omega)]
    exact List.getElem?_eq_getElem _
  · refine (World.ownsRow.cellAt h2 (k * 3 + 2) (by omega)).trans ?_
    rw [List.getElem?_set_ne (by omega), List.getElem?_set_ne (by omega)]
    exact List.getElem?_eq_getElem _
theorem Tms.over3 {w : World} {B m cap gu k : Nat} {ag : Addr} {rs : List Rt} {l : List Tm} (hag : ag = ⟨gu, 0, none⟩) (h : Tms w B (.slice (some ag) m cap) m rs l) {t : Tm} {A : Option Addr} {n c : Nat} (hs : InS w B A n t.set) :
    Tms (((w.setCell (ag.add (k * 3)) (.string t.name)).setCell ⟨(ag.add (k * 3)).block, (ag.add (k * 3)).off + 1, none⟩ (.slice A n c)).setCell ⟨(ag.add (k * 3)).block, (ag.add (k * 3)).off + 2, none⟩ (.bool t.none)) B (.slice (some ag) m cap) m (rs.set k (t.name, .slice A n c, t.none)) (l.set k t) ∧
      w.grownBy (((w.setCell (ag.add (k * 3)) (.string t.name)).setCell ⟨(ag.add (k * 3)).block, (ag.add (k * 3)).off + 1, none⟩ (.slice A n c)).setCell ⟨(ag.add (k * 3)).block, (ag.add (k * 3)).off + 2, none⟩ (.bool t.none)) (some gu) := by
  subst hag
  rw [addr_zero]
  exact Tms.over h hs
section
variable {TP : World → Nat → Value → Tr → Prop} {TS : TypeId → Prop}
set_option maxHeartbeats 16000000 in
set_option maxRecDepth 100000 in
theorem tfalls_walk (H : ProgT TP TS) (l : List Dt) (A : Option Addr) (n c : Nat) (lv : Int) (nm : ByteArray) (w : World) (h : DoOn w A n l) (hn : n ≤ 9223372036854775807) (hl : ∀ d ∈ l, d.term.name.size ≤ 9223372036854775807 ∧ d.term.set.length ≤ 9223372036854775807) (hnm : nm.size ≤ 9223372036854775807) :
    Calls Try.prog 3 #[.slice A n c, .int .i64 lv, .string nm] w fun e w' => e = .returned (.bool true) ∧ Below w.heap.size w w' := by
  obtain ⟨i0, hi0, hz0, hz1, hz2⟩ := info_parts info_term
  have HH := hide H
  have HA := hide (fun wx => awakeTr_any H wx)
  have HL := hide (largeD_any l A n c w h hn hl)
  clear H
  cases g1 : largeD l with
  | true =>
    rw [g1] at HL
    clear h hl g1
    go_enter Try.func3, Try.ntmps3
    go_wp2_with (first
      | (go_at_call 5
         refine (HA.out _).mono ?_
         rintro e w2 ⟨rfl, hb2⟩)
      | (go_at_call 4
         refine HL.out.mono ?_
         rintro e w1 ⟨rfl, hb1⟩))
    go_ret
    exact ⟨rfl, hb1.trans (hb2.mono hb1.size)⟩
  | false =>
  rw [g1] at HL
  by_cases g2 : 200 < nm.size
  · have g3 : (200 : Int) < (nm.size : Int) := by omega
    clear h hl g1 g2
    go_enter Try.func3, Try.ntmps3
    go_wp2_with (first
      | (go_at_call 5
         refine (HA.out _).mono ?_
         rintro e w2 ⟨rfl, hb2⟩)
      | (go_at_call 4
         refine HL.out.mono ?_
         rintro e w1 ⟨rfl, hb1⟩))
    go_ret
    exact ⟨rfl, hb1.trans (hb2.mono hb1.size)⟩
  have g3 : ¬ (200 : Int) < (nm.size : Int) := by omega
  have hnm9 : nm.size ≤ 1000000000 := by omega
  obtain ⟨hs60, hsd⟩ := smallD g1
  have hlen := h.len
  have hn60 : n ≤ 60 := by omega
  have Hsd := hide hsd
  have HDo := hide (fun (wx : World) (hx : Below w.heap.size w wx) => h.on hx)
  have Hk0 := hide (fun (wx : World) (B : Nat) (v : Value) (hT : TP wx B v ⟨[], 0⟩) => (show Calls Try.prog 7 #[v, .string nm] wx (TellsB B wx (knowL [] nm)) from HH.out.know nm hT few_new hnm9))
  unfold TellsB at Hk0
  have HI0 := hide (falls_new nm)
  generalize knowL [] nm = T0 at *
  clear h hl g1 g2 hlen hs60 hsd
  go_enter Try.func3, Try.ntmps3
  go_upto_region 5 with (first
    | (go_at_call 7
       refine (Hk0.out _ _ _ hT2).mono ?_
       rintro e w3 ⟨A3, n3, c3, rfl, h3, hb3⟩)
    | (go_at_call 6
       refine (HH.out.new _).mono ?_
       rintro e w2 ⟨v, rfl, hT2, hb2⟩
       obtain ⟨pp, rfl⟩ := HH.out.ptr hT2)
    | (go_at_call 4
       refine HL.out.mono ?_
       rintro e w1 ⟨rfl, hb1⟩))
  obtain ⟨W3, hW3⟩ : ∃ W, W = w3.alloc (.cells #[.string T0.name, .slice A3 n3 c3, .bool T0.none] 29) := ⟨_, rfl⟩
  have hA3 : Below w3.heap.size w3 W3 := by rw [hW3]; exact (Below.refl _ _).alloc (Nat.le_refl _) _
  have hr2 : Below w2.heap.size w2 W3 := hb3.trans (hA3.mono hb3.size)
  have hT3 := HH.out.below hT2 hr2
  have hb13 : Below w1.heap.size w1 W3 := hb2.trans (hr2.mono hb2.size)
  have hB3 : w1.heap.size ≤ w3.heap.size := Nat.le_trans hb2.size hb3.size
  obtain ⟨ag0, hag0⟩ : ∃ a : Addr, a = ⟨w3.heap.size, 0, none⟩ := ⟨_, rfl⟩
  have hK3 : Tms W3 w1.heap.size (.slice (some ag0) 1 1) 1 [(T0.name, .slice A3 n3 c3, T0.none)] [T0] := by
    rw [hag0]
    refine ⟨?_, AllT.one (InS.below h3 hA3)⟩
    rw [hW3]
    exact own_one w3 _ _ _ _ _ _ hB3
  have HDo1 := hide (HDo.out w1 hb1)
  try rw [← hag0]
  try rw [← hW3]
  clear hag0 hW3 hA3 hr2 hT2 h3 hb3 hb2 hB3 HDo Hk0 HL
  go_wp2
  go_loopw [8, 9] (fun u p wr => ∃ (i m : Nat) (x : Tr) (K : List Tm) (rs : List Rt), i ≤ n ∧ p = .int .i64 (i : Int) ∧ TP wr w1.heap.size (.pointer pp) x ∧ Hid (FallsI x nm K i) ∧ Hid (m = x.level + 1) ∧ Tms wr w1.heap.size u m rs K ∧ Below w1.heap.size w1 wr) (fun _ p _ => n - (RowKit.intOf p).toNat)
  case atStart => exact ⟨0, 1, ⟨[], 0⟩, _, _, by omega, rfl, hT3, HI0, hide rfl, hK3, hb13⟩
  case round =>
    obtain ⟨i, m, x, K, rs, hi, rfl, hT, hI, hm, hK, hb⟩ := hrel
    clear HI0 hT3 hK3 hb13
    have hbs := hb.size
    have hfew : FewT x := hI.out.few (by omega)
    have hKl := hK.len
    obtain ⟨gu, ag, cap, hag, rfl, hcap⟩ := Tms.form hK (by have := hm.out; omega)
    have Hag := hide hag
    clear hag
    have w0 : IntKind.i64.wrap ((m : Int) - 1) = (x.level : Int) := by have := hm.out; have := hfew.level; rw [IntKind.wrap_i64]; omega
    have w1e : IntKind.i64.wrap ((x.level : Int) + 1) = (x.level : Int) + 1 := by have := hfew.level; rw [IntKind.wrap_i64]; omega
    have wne : ((x.level : Int) != (x.level : Int)) = false := bne_self_eq_false _
    by_cases hlt : i < n
    · obtain ⟨ad, q, A', n', c', rfl, hbl, hx, hnc, hsp, b0, b1, b2, b3, b4, b5⟩ := DoOn.at_ HDo1.out hlt
      obtain ⟨hq60, hq200⟩ := Hsd.out q (List.mem_of_getElem? hx)
      obtain ⟨kd, vr, dn, tn, ts, tz⟩ := q
      simp only [] at b0 b1 b2 b3 b4 b5 hq60 hq200 hsp
      have hblk : ∀ j, (⟨(ad.add (i * 6)).block, j, none⟩ : Addr).block < w1.heap.size := fun j => by simp only [block_of_add]; exact hbl
      have HC := hide (fun (wx : World) (hx : Below w1.heap.size w1 wx) => (show wx.cell? (ad.add (i * 6)) = some (.int .i64 kd) ∧ wx.cell? ⟨(ad.add (i * 6)).block, (ad.add (i * 6)).off + 1, none⟩ = some (.int .i64 vr) ∧ wx.cell? ⟨(ad.add (i * 6)).block, (ad.add (i * 6)).off + 2, none⟩ = some (.int .i64 dn) ∧ wx.cell? ⟨(ad.add (i * 6)).block, (ad.add (i * 6)).off + 3, none⟩ = some (.string tn) ∧ wx.cell? ⟨(ad.add (i * 6)).block, (ad.add (i * 6)).off + 4, none⟩ = some (.slice A' n' c') ∧ wx.cell? ⟨(ad.add (i * 6)).block, (ad.add (i * 6)).off + 5, none⟩ = some (.bool tz) ∧ InS wx w1.heap.size A' n' ts from
        ⟨(hx.cell (p := ad.add (i * 6)) (by rw [block_of_add]; exact hbl)).trans b0, (hx.cell (hblk _)).trans b1, (hx.cell (hblk _)).trans b2, (hx.cell (hblk _)).trans b3, (hx.cell (hblk _)).trans b4, (hx.cell (hblk _)).trans b5, ins_old hsp hx⟩))
      obtain ⟨p0, p1, p2, p3, p4, p5, hin⟩ := HC.out wr hb
      have hi1 : (0 : Int) ≤ (i : Int) := by omega
      have hi2 : (i : Int) < (n : Int) := by omega
      clear b0 b1 b2 b3 b4 b5 hsp hx hblk p1 p2 p3 p4 p5 hin
      by_cases k0 : kd = 0
      · subst k0
        have hfs := falls_one hI.out ⟨0, vr, dn, ⟨tn, ts, tz⟩⟩ (.inl rfl) hq60 hfew
        rw [show doT x ⟨0, vr, dn, ⟨tn, ts, tz⟩⟩ = decideT x tn vr from rfl] at hfs
        have HD := hide (fun (wx : World) (hTx : TP wx w1.heap.size (.pointer pp) x) => HH.out.decide tn vr hTx hfew (by omega))
        unfold MovesT at HD
        generalize decideT x tn vr = R at *
        obtain ⟨er, x'⟩ := R
        simp only [] at hfs HD
        obtain ⟨hW, hE, hor⟩ := hfs
        have hfew' : FewT x' := by
          rcases hor with ⟨_, hF⟩ | ⟨_, hF⟩
          · exact hF.few (by omega)
          · exact hF.few (by omega)
        have Hor := hide hor
        have HK0 := hide (fun (wx : World) (hTx : TP wx w1.heap.size (.pointer pp) x) => HH.out.know nm hTx hfew hnm9)
        have HK1 := hide (fun (wx : World) (hTx : TP wx w1.heap.size (.pointer pp) x') => HH.out.know nm hTx hfew' hnm9)
        unfold TellsB at HK0 HK1
        have hL0 : (knowL x.l nm).set.length ≤ 10000 := by have := know_len hfew.small nm; have := hfew.len; omega
        have hL1 : (knowL x'.l nm).set.length ≤ 10000 := by have := know_len hfew'.small nm; have := hfew'.len; omega
        have HWi := hide (fun (wx : World) (A1 A2 : Option Addr) (n1 c1 n2 c2 : Nat) (h1 : SpOn wx A1 n1 (knowL x'.l nm).set) (h2 : SpOn wx A2 n2 (knowL x.l nm).set) => refWithinT_any (knowL x'.l nm).name (knowL x.l nm).name (knowL x'.l nm).set (knowL x.l nm).set (knowL x'.l nm).none (knowL x.l nm).none A1 A2 n1 c1 n2 c2 wx h1 h2 (by have := h1.len; omega) (by have := h2.len; omega) (know_set _ _))
        have HEm := hide (fun (wx : World) (A1 : Option Addr) (n1 c1 : Nat) (h1 : SpOn wx A1 n1 (knowL x'.l nm).set) => refEmptyT_any (knowL x'.l nm).name (knowL x'.l nm).set (knowL x'.l nm).none A1 n1 c1 wx h1)
        unfold Tells at HWi HEm
        unfold withinT at hW
        unfold emptyT at hE
        rw [hW] at HWi
        rw [hE] at HEm
        have hv1 : ¬ (x'.level : Int) < (x.level : Int) := by rcases hor with ⟨e, _⟩ | ⟨e, _⟩ <;> omega
        have hv2 : ¬ (x.level : Int) + 1 < (x'.level : Int) := by rcases hor with ⟨e, _⟩ | ⟨e, _⟩ <;> omega
        generalize knowL x.l nm = T0 at *
        generalize knowL x'.l nm = T1 at *
        clear hW hE hor hL0 hL1 hI
        go_upto_region 10 with (first
          | (go_at_call 7
             refine (HK0.out _ hT).mono ?_
             rintro e w4 ⟨A4, n4, c4, rfl, h4, hb4⟩))
        obtain ⟨g4, hg4⟩ : ∃ g, g = w4.heap.size := ⟨_, rfl⟩
        obtain ⟨W4, hW4⟩ : ∃ W, W = w4.alloc (.cells #[.string T0.name, .slice A4 n4 c4, .bool T0.none] 29) := ⟨_, rfl⟩
        have hA4 : Below w4.heap.size w4 W4 := by rw [hW4]; exact (Below.refl _ _).alloc (Nat.le_refl _) _
        have hr4 : Below wr.heap.size wr W4 := hb4.trans (hA4.mono hb4.size)
        have z4 : Blk W4 g4 29 #[.string T0.name, .slice A4 n4 c4, .bool T0.none] := by rw [hW4, hg4]; exact Blk.new _ _ _
        have hT4 := HH.out.below hT hr4
        have hK4 := hK.below hr4
        have i4 := h4.below hA4
        have hb4' : Below w1.heap.size w1 W4 := hb.trans (hr4.mono hbs)
        try rw [← hg4]
        try rw [← hW4]
        clear hg4 hW4 hA4 hr4 hb4 h4 hT hK hb hbs p0
        go_upto_region 14 with (first
          | (go_at_call 8
             refine (HH.out.level hT4 hfew).mono ?_
             rintro e w5 ⟨rfl, hb5⟩
             have hT5 := HH.out.below hT4 hb5
             have hK5 := hK4.below hb5
             have z5 := z4.below hb5 z4.lt
             have i5 := i4.below hb5
             have hb5' := hb4'.trans (hb5.mono hb4'.size)
             have p0 := (HC.out _ hb5').1))
        clear hT4 hK4 z4 i4 hb4' hb5 p0
        have hb5s := hb5'.size
        have kd5 : Below w5.heap.size w5 w5.drew := (Below.refl _ _).drew
        have kz : Below w1.heap.size w1 w5.drew := hb5'.trans (kd5.mono hb5s)
        have hinz := (HC.out _ kz).2.2.2.2.2.2
        have HCz := hide (fun (wx : World) (hx : Below w1.heap.size w1 wx) => (show wx.cell? ⟨(ad.add (i * 6)).block, (ad.add (i * 6)).off + 3, none⟩ = some (.string tn) ∧ wx.cell? ⟨(ad.add (i * 6)).block, (ad.add (i * 6)).off + 1, none⟩ = some (.int .i64 vr) from ⟨(HC.out wx hx).2.2.2.1, (HC.out wx hx).2.1⟩))
        have HDz := hide (HD.out _ (HH.out.below hT5 kd5))
        have pz := HCz.out w5 hb5'
        obtain ⟨o3, o1⟩ := pz
        go_region_held3 (fun w' => w'.cell? ⟨(ad.add (i * 6)).block, (ad.add (i * 6)).off + 3, none⟩ = some (.string tn) ∧ w'.cell? ⟨(ad.add (i * 6)).block, (ad.add (i * 6)).off + 1, none⟩ = some (.int .i64 vr)) (first | exact HCz.out _ hk1 | exact HCz.out _ kz | go_keep)
          (first
            | (go_at_call 9
               refine HDz.out.mono ?_
               rintro e w6 ⟨rfl, hT6, hK6x⟩
               have hk1 : Below w1.heap.size w1 w6 := kz.trans hK6x.below))
        all_goals
          have hKp : Keeps TS w1.heap.size w5 w6 := (Keeps.of_below kd5 hb5s).trans hK6x
          have z6 := hKp.blk z5 HH.out.term
          have hK6 := hKp.tms hK5 HH.out.span HH.out.term (Nat.le_refl _)
          have i6 := hKp.ins i5 HH.out.span (Nat.le_refl _)
          have hk1s := hk1.size
          clear hKp z5 hK5 i5 hT5 hb5' HDz HCz kz kd5 hinz HC HD hK6x
          go_upto_region 17 with (first
            | (go_at_call 7
               refine (HK1.out _ hT6).mono ?_
               rintro e w7 ⟨A7, n7, c7, rfl, h7, hb7⟩))
          obtain ⟨g7, hg7⟩ : ∃ g, g = w7.heap.size := ⟨_, rfl⟩
          obtain ⟨W7, hW7⟩ : ∃ W, W = w7.alloc (.cells #[.string T1.name, .slice A7 n7 c7, .bool T1.none] 29) := ⟨_, rfl⟩
          have hA7 : Below w7.heap.size w7 W7 := by rw [hW7]; exact (Below.refl _ _).alloc (Nat.le_refl _) _
          have hr7 : Below w6.heap.size w6 W7 := hb7.trans (hA7.mono hb7.size)
          have y7 : Blk W7 g7 29 #[.string T1.name, .slice A7 n7 c7, .bool T1.none] := by rw [hW7, hg7]; exact Blk.new _ _ _
          have z7 := z6.below hr7 z6.lt
          have hT7 := HH.out.below hT6 hr7
          have hK7 := hK6.below hr7
          have i7 := i6.below hr7
          have j7 := h7.below hA7
          have hb7' : Below w1.heap.size w1 W7 := hk1.trans (hr7.mono hk1s)
          try rw [← hg7]
          try rw [← hW7]
          clear hg7 hW7 hA7 hr7 hb7 h7 hT6 hK6 hk1 hk1s z6 i6
          have r0 := y7.cell 0
          have r1 := y7.cell 1
          have r2 := y7.cell 2
          have s0 := z7.cell 0
          have s1 := z7.cell 1
          have s2 := z7.cell 2
          go_upto_region 19 with (first
            | (go_at_call 8
               refine (HH.out.level hT10 hfew').mono ?_
               rintro e w11 ⟨rfl, hb11⟩
               have hb11' := hb10'.trans (hb11.mono hb10'.size))
            | (go_at_call 8
               refine (HH.out.level hT9 hfew').mono ?_
               rintro e w10 ⟨rfl, hb10⟩
               have hb10' := hb9'.trans (hb10.mono hb9'.size)
               have hT10 := HH.out.below hT9 hb10)
            | (go_at_call 12
               refine (HEm.out _ _ _ _ (j7.below hb8).1).mono ?_
               rintro e w9 ⟨rfl, hb9⟩
               have hb9' := hb8.trans (hb9.mono hb8.size)
               have hT9 := HH.out.below hT7 hb9')
            | (go_at_call 11
               refine (HWi.out _ _ _ _ _ _ _ j7.1 i7.1).mono ?_
               rintro e w8 ⟨rfl, hb8⟩
               have y8 := y7.below hb8 y7.lt
               have r0 := y8.cell 0
               have r1 := y8.cell 1
               have r2 := y8.cell 2))
          have hT11 := HH.out.below hT7 hb11'
          clear r0 r1 r2 s0 s1 s2 y8 hT9 hT10 hb8 hb9 hb10 hb11 hb9' hb10' HWi HEm HK0 HK1 z7 i7 hv1 hv2 w1e wne w0
          have hTA := HH.out.below hT7 hb11'
          rcases Hor.out with ⟨hlv, hF⟩ | ⟨hlv, hF⟩
          · have hv3 : ¬ (x.level : Int) < (x'.level : Int) := by omega
            have hk1' : (0 : Int) ≤ (x.level : Int) := by omega
            have hk2' : (x.level : Int) < (m : Int) := by have := hm.out; omega
            have hkm : x.level < m := by have := hm.out; omega
            have Hm2 : Hid (m = x'.level + 1) := hide (by rw [hlv]; exact hm.out)
            have HF := hide hF
            clear hlv hF Hor
            go_upto_region 21 with (first
              | (go_at_call 8
                 refine (HH.out.level hT11 hfew').mono ?_
                 rintro e w12 ⟨rfl, hb12x⟩
                 have hb12 := hb11'.trans (hb12x.mono hb11'.size)
                 have y12 := y7.below hb12 y7.lt
                 have r0 := y12.cell 0
                 have r1 := y12.cell 1
                 have r2 := y12.cell 2))
            have j12 := j7.below hb12
            have hK12 := hK7.below hb12
            have hT12 := HH.out.below hT7 hb12
            have hb1f := hb7'.trans (hb12.mono hb7'.size)
            obtain ⟨u0, u1, u2, q0, f0, q1, f1, q2, f2, q3, f3, q4, f4⟩ := Tms.open3 Hag.out hK12 hkm (.string T1.name) (.slice A7 n7 c7) (.bool T1.none)
            obtain ⟨hKo, hgo⟩ := Tms.over3 (k := x.level) (c := c7) Hag.out hK12 j12
            obtain ⟨cur, mm, hgu, hBg⟩ := Tms.block Hag.out hK12 (by omega)
            have hTo := HH.out.far hT12 hgo hgu HH.out.term (by decide)
            have hbo := hb1f.grown hgo hb1f.size (fun k hk => by injection hk with hk; omega)
            clear hgu hgo hK12 hT12 hT7 hK7 j7 j12 hb12 hb12x hb11' hb7' hb1f hT11 hTA y7 y12
            go_wp2
            go_roundw
            case rel => exact ⟨i + 1, m, x', _, _, by omega, by go_num, hTo, HF, Hm2, hKo, hbo⟩
            case measure => simp [RowKit.intOf]; omega
          · have hv3 : (x.level : Int) < (x'.level : Int) := by omega
            have hm61 : m ≤ 61 := by have := hm.out; have := hfew.level; omega
            have Hm2 : Hid (m + 1 = x'.level + 1) := hide (by rw [hlv, hm.out])
            have HF := hide hF
            clear hlv hF Hor
            go_wp2_with (first
              | (go_at_call 8
                 refine (HH.out.level hT11 hfew').mono ?_
                 rintro e w12 ⟨rfl, hb12x⟩
                 have hb12 := hb11'.trans (hb12x.mono hb11'.size)
                 have y12 := y7.below hb12 y7.lt
                 have r0 := y12.cell 0
                 have r1 := y12.cell 1
                 have r2 := y12.cell 2
                 have j12 := j7.below hb12
                 have hK12 := hK7.below hb12
                 have hT12 := HH.out.below hT7 hb12
                 have hb1f := hb7'.trans (hb12.mono hb7'.size)
                 have hb1s := hb1f.size)
              | (at_builtin
                 refine wpList_append_any _ rfl (.tmp 115) (.tmp 117) _ rfl w1.heap.size 29 i0 _ 3 48 Try.underlying31 hi0 hz0 hz1 hz2 rfl (by omega) _ m (tms rs) rfl
                   (own_below hK12.1 ((Below.refl _ _).alloc (Nat.le_refl _) _)) _ _ 1 _ _ rfl (reads_term _ T1.name A7 n7 c7 T1.none _ _ (by simp)) (one_term _ _ _ _ _) (by unfold maxLen; omega) (by omega) (by simp; omega) ?_
                 intro v9 w9 hown9 hg9 hat9
                 have hA9 : Below w12.heap.size w12 (w12.alloc (.cells #[.string T1.name, .slice A7 n7 c7, .bool T1.none] 29)) := (Below.refl _ _).alloc (Nat.le_refl _) _
                 have N9 := (hK12.below hA9).cat (AllT.one (z := T1.none) (j12.below hA9)) hown9 hg9
                 obtain ⟨cur, mm, hgu, hBg⟩ := Tms.block Hag.out (hK12.below hA9) (by have := hm.out; omega)
                 have hg9' : (w12.alloc (.cells #[.string T1.name, .slice A7 n7 c7, .bool T1.none] 29)).grownBy w9 (some gu) := by
                   have e9 : (Value.slice (some ag) m cap).ownBlock = some gu := by rw [Hag.out]; rfl
                   rw [← e9]; exact hg9
                 have hT9 := HH.out.far (HH.out.below hT12 hA9) hg9' hgu HH.out.term (by decide)
                 have hb9' := (hb1f.trans (hA9.mono hb1s)).grown hg9' (Nat.le_trans hb1s hA9.size) (fun k hk => by injection hk with hk; omega)))
            go_roundw
            case rel => exact ⟨i + 1, m + 1, x', _, _, by omega, by go_num, hT9, HF, Hm2, N9, hb9'⟩
            case measure => simp [RowKit.intOf]; omega
      by_cases k1 : kd = 1
      · subst k1
        clear k0
        have hfs := falls_one hI.out ⟨1, vr, dn, ⟨tn, ts, tz⟩⟩ (.inr rfl) hq60 hfew
        rw [show doT x ⟨1, vr, dn, ⟨tn, ts, tz⟩⟩ = deriveT x ⟨tn, ts, tz⟩ dn from rfl] at hfs
        have HD := hide (fun (wx : World) (hTx : TP wx w1.heap.size (.pointer pp) x) (hIn : InS wx w1.heap.size A' n' ts) => HH.out.derive ⟨tn, ts, tz⟩ A' n' c' dn hTx hfew hIn hnc hq60 (by show tn.size ≤ 1000000000; omega))
        unfold MovesT at HD
        generalize deriveT x ⟨tn, ts, tz⟩ dn = R at *
        obtain ⟨er, x'⟩ := R
        simp only [] at hfs HD
        obtain ⟨hW, hE, hor⟩ := hfs
        have hfew' : FewT x' := by
          rcases hor with ⟨_, hF⟩ | ⟨_, hF⟩
          · exact hF.few (by omega)
          · exact hF.few (by omega)
        have Hor := hide hor
        have HK0 := hide (fun (wx : World) (hTx : TP wx w1.heap.size (.pointer pp) x) => HH.out.know nm hTx hfew hnm9)
        have HK1 := hide (fun (wx : World) (hTx : TP wx w1.heap.size (.pointer pp) x') => HH.out.know nm hTx hfew' hnm9)
        unfold TellsB at HK0 HK1
        have hL0 : (knowL x.l nm).set.length ≤ 10000 := by have := know_len hfew.small nm; have := hfew.len; omega
        have hL1 : (knowL x'.l nm).set.length ≤ 10000 := by have := know_len hfew'.small nm; have := hfew'.len; omega
        have HWi := hide (fun (wx : World) (A1 A2 : Option Addr) (n1 c1 n2 c2 : Nat) (h1 : SpOn wx A1 n1 (knowL x'.l nm).set) (h2 : SpOn wx A2 n2 (knowL x.l nm).set) => refWithinT_any (knowL x'.l nm).name (knowL x.l nm).name (knowL x'.l nm).set (knowL x.l nm).set (knowL x'.l nm).none (knowL x.l nm).none A1 A2 n1 c1 n2 c2 wx h1 h2 (by have := h1.len; omega) (by have := h2.len; omega) (know_set _ _))
        have HEm := hide (fun (wx : World) (A1 : Option Addr) (n1 c1 : Nat) (h1 : SpOn wx A1 n1 (knowL x'.l nm).set) => refEmptyT_any (knowL x'.l nm).name (knowL x'.l nm).set (knowL x'.l nm).none A1 n1 c1 wx h1)
        unfold Tells at HWi HEm
        unfold withinT at hW
        unfold emptyT at hE
        rw [hW] at HWi
        rw [hE] at HEm
        have hv1 : ¬ (x'.level : Int) < (x.level : Int) := by rcases hor with ⟨e, _⟩ | ⟨e, _⟩ <;> omega
        have hv2 : ¬ (x.level : Int) + 1 < (x'.level : Int) := by rcases hor with ⟨e, _⟩ | ⟨e, _⟩ <;> omega
        generalize knowL x.l nm = T0 at *
        generalize knowL x'.l nm = T1 at *
        clear hW hE hor hL0 hL1 hI
        go_upto_region 10 with (first
          | (go_at_call 7
             refine (HK0.out _ hT).mono ?_
             rintro e w4 ⟨A4, n4, c4, rfl, h4, hb4⟩))
        obtain ⟨g4, hg4⟩ : ∃ g, g = w4.heap.size := ⟨_, rfl⟩
        obtain ⟨W4, hW4⟩ : ∃ W, W = w4.alloc (.cells #[.string T0.name, .slice A4 n4 c4, .bool T0.none] 29) := ⟨_, rfl⟩
        have hA4 : Below w4.heap.size w4 W4 := by rw [hW4]; exact (Below.refl _ _).alloc (Nat.le_refl _) _
        have hr4 : Below wr.heap.size wr W4 := hb4.trans (hA4.mono hb4.size)
        have z4 : Blk W4 g4 29 #[.string T0.name, .slice A4 n4 c4, .bool T0.none] := by rw [hW4, hg4]; exact Blk.new _ _ _
        have hT4 := HH.out.below hT hr4
        have hK4 := hK.below hr4
        have i4 := h4.below hA4
        have hb4' : Below w1.heap.size w1 W4 := hb.trans (hr4.mono hbs)
        try rw [← hg4]
        try rw [← hW4]
        clear hg4 hW4 hA4 hr4 hb4 h4 hT hK hb hbs p0
        go_upto_region 15 with (first
          | (go_at_call 8
             refine (HH.out.level hT4 hfew).mono ?_
             rintro e w5 ⟨rfl, hb5⟩
             have hT5 := HH.out.below hT4 hb5
             have hK5 := hK4.below hb5
             have z5 := z4.below hb5 z4.lt
             have i5 := i4.below hb5
             have hb5' := hb4'.trans (hb5.mono hb4'.size)
             have p0 := (HC.out _ hb5').1))
        clear hT4 hK4 z4 i4 hb4' hb5 p0
        have hb5s := hb5'.size
        have kd5 : Below w5.heap.size w5 w5.drew := (Below.refl _ _).drew
        have kz : Below w1.heap.size w1 w5.drew := hb5'.trans (kd5.mono hb5s)
        have hinz := (HC.out _ kz).2.2.2.2.2.2
        have HCz := hide (fun (wx : World) (hx : Below w1.heap.size w1 wx) => (show wx.cell? ⟨(ad.add (i * 6)).block, (ad.add (i * 6)).off + 3, none⟩ = some (.string tn) ∧ wx.cell? ⟨(ad.add (i * 6)).block, (ad.add (i * 6)).off + 4, none⟩ = some (.slice A' n' c') ∧ wx.cell? ⟨(ad.add (i * 6)).block, (ad.add (i * 6)).off + 5, none⟩ = some (.bool tz) ∧ wx.cell? ⟨(ad.add (i * 6)).block, (ad.add (i * 6)).off + 2, none⟩ = some (.int .i64 dn) from ⟨(HC.out wx hx).2.2.2.1, (HC.out wx hx).2.2.2.2.1, (HC.out wx hx).2.2.2.2.2.1, (HC.out wx hx).2.2.1⟩))
        have HDz := hide (HD.out _ (HH.out.below hT5 kd5) hinz)
        have pz := HCz.out w5 hb5'
        obtain ⟨o3, o4, o5, o2⟩ := pz
        go_region_held3 (fun w' => w'.cell? ⟨(ad.add (i * 6)).block, (ad.add (i * 6)).off + 3, none⟩ = some (.string tn) ∧ w'.cell? ⟨(ad.add (i * 6)).block, (ad.add (i * 6)).off + 4, none⟩ = some (.slice A' n' c') ∧ w'.cell? ⟨(ad.add (i * 6)).block, (ad.add (i * 6)).off + 5, none⟩ = some (.bool tz) ∧ w'.cell? ⟨(ad.add (i * 6)).block, (ad.add (i * 6)).off + 2, none⟩ = some (.int .i64 dn)) (first | exact HCz.out _ hk1 | exact HCz.out _ kz | go_keep)
          (first
            | (go_at_call 10
               refine HDz.out.mono ?_
               rintro e w6 ⟨rfl, hT6, hK6x⟩
               have hk1 : Below w1.heap.size w1 w6 := kz.trans hK6x.below))
        all_goals
          have hKp : Keeps TS w1.heap.size w5 w6 := (Keeps.of_below kd5 hb5s).trans hK6x
          have z6 := hKp.blk z5 HH.out.term
          have hK6 := hKp.tms hK5 HH.out.span HH.out.term (Nat.le_refl _)
          have i6 := hKp.ins i5 HH.out.span (Nat.le_refl _)
          have hk1s := hk1.size
          clear hKp z5 hK5 i5 hT5 hb5' HDz HCz kz kd5 hinz HC HD hK6x
          go_upto_region 17 with (first
            | (go_at_call 7
               refine (HK1.out _ hT6).mono ?_
               rintro e w7 ⟨A7, n7, c7, rfl, h7, hb7⟩))
          obtain ⟨g7, hg7⟩ : ∃ g, g = w7.heap.size := ⟨_, rfl⟩
          obtain ⟨W7, hW7⟩ : ∃ W, W = w7.alloc (.cells #[.string T1.name, .slice A7 n7 c7, .bool T1.none] 29) := ⟨_, rfl⟩
          have hA7 : Below w7.heap.size w7 W7 := by rw [hW7]; exact (Below.refl _ _).alloc (Nat.le_refl _) _
          have hr7 : Below w6.heap.size w6 W7 := hb7.trans (hA7.mono hb7.size)
          have y7 : Blk W7 g7 29 #[.string T1.name, .slice A7 n7 c7, .bool T1.none] := by rw [hW7, hg7]; exact Blk.new _ _ _
          have z7 := z6.below hr7 z6.lt
          have hT7 := HH.out.below hT6 hr7
          have hK7 := hK6.below hr7
          have i7 := i6.below hr7
          have j7 := h7.below hA7
          have hb7' : Below w1.heap.size w1 W7 := hk1.trans (hr7.mono hk1s)
          try rw [← hg7]
          try rw [← hW7]
          clear hg7 hW7 hA7 hr7 hb7 h7 hT6 hK6 hk1 hk1s z6 i6
          have r0 := y7.cell 0
          have r1 := y7.cell 1
          have r2 := y7.cell 2
          have s0 := z7.cell 0
          have s1 := z7.cell 1
          have s2 := z7.cell 2
          go_upto_region 19 with (first
            | (go_at_call 8
               refine (HH.out.level hT10 hfew').mono ?_
               rintro e w11 ⟨rfl, hb11⟩
               have hb11' := hb10'.trans (hb11.mono hb10'.size))
            | (go_at_call 8
               refine (HH.out.level hT9 hfew').mono ?_
               rintro e w10 ⟨rfl, hb10⟩
               have hb10' := hb9'.trans (hb10.mono hb9'.size)
               have hT10 := HH.out.below hT9 hb10)
            | (go_at_call 12
               refine (HEm.out _ _ _ _ (j7.below hb8).1).mono ?_
               rintro e w9 ⟨rfl, hb9⟩
               have hb9' := hb8.trans (hb9.mono hb8.size)
               have hT9 := HH.out.below hT7 hb9')
            | (go_at_call 11
               refine (HWi.out _ _ _ _ _ _ _ j7.1 i7.1).mono ?_
               rintro e w8 ⟨rfl, hb8⟩
               have y8 := y7.below hb8 y7.lt
               have r0 := y8.cell 0
               have r1 := y8.cell 1
               have r2 := y8.cell 2))
          have hT11 := HH.out.below hT7 hb11'
          clear r0 r1 r2 s0 s1 s2 y8 hT9 hT10 hb8 hb9 hb10 hb11 hb9' hb10' HWi HEm HK0 HK1 z7 i7 hv1 hv2 w1e wne w0
          have hTA := HH.out.below hT7 hb11'
          rcases Hor.out with ⟨hlv, hF⟩ | ⟨hlv, hF⟩
          · have hv3 : ¬ (x.level : Int) < (x'.level : Int) := by omega
            have hk1' : (0 : Int) ≤ (x.level : Int) := by omega
            have hk2' : (x.level : Int) < (m : Int) := by have := hm.out; omega
            have hkm : x.level < m := by have := hm.out; omega
            have Hm2 : Hid (m = x'.level + 1) := hide (by rw [hlv]; exact hm.out)
            have HF := hide hF
            clear hlv hF Hor
            go_upto_region 21 with (first
              | (go_at_call 8
                 refine (HH.out.level hT11 hfew').mono ?_
                 rintro e w12 ⟨rfl, hb12x⟩
                 have hb12 := hb11'.trans (hb12x.mono hb11'.size)
                 have y12 := y7.below hb12 y7.lt
                 have r0 := y12.cell 0
                 have r1 := y12.cell 1
                 have r2 := y12.cell 2))
            have j12 := j7.below hb12
            have hK12 := hK7.below hb12
            have hT12 := HH.out.below hT7 hb12
            have hb1f := hb7'.trans (hb12.mono hb7'.size)
            obtain ⟨u0, u1, u2, q0, f0, q1, f1, q2, f2, q3, f3, q4, f4⟩ := Tms.open3 Hag.out hK12 hkm (.string T1.name) (.slice A7 n7 c7) (.bool T1.none)
            obtain ⟨hKo, hgo⟩ := Tms.over3 (k := x.level) (c := c7) Hag.out hK12 j12
            obtain ⟨cur, mm, hgu, hBg⟩ := Tms.block Hag.out hK12 (by omega)
            have hTo := HH.out.far hT12 hgo hgu HH.out.term (by decide)
            have hbo := hb1f.grown hgo hb1f.size (fun k hk => by injection hk with hk; omega)
            clear hgu hgo hK12 hT12 hT7 hK7 j7 j12 hb12 hb12x hb11' hb7' hb1f hT11 hTA y7 y12
            go_wp2
            go_roundw
            case rel => exact ⟨i + 1, m, x', _, _, by omega, by go_num, hTo, HF, Hm2, hKo, hbo⟩
            case measure => simp [RowKit.intOf]; omega
          · have hv3 : (x.level : Int) < (x'.level : Int) := by omega
            have hm61 : m ≤ 61 := by have := hm.out; have := hfew.level; omega
            have Hm2 : Hid (m + 1 = x'.level + 1) := hide (by rw [hlv, hm.out])
            have HF := hide hF
            clear hlv hF Hor
            go_wp2_with (first
              | (go_at_call 8
                 refine (HH.out.level hT11 hfew').mono ?_
                 rintro e w12 ⟨rfl, hb12x⟩
                 have hb12 := hb11'.trans (hb12x.mono hb11'.size)
                 have y12 := y7.below hb12 y7.lt
                 have r0 := y12.cell 0
                 have r1 := y12.cell 1
                 have r2 := y12.cell 2
                 have j12 := j7.below hb12
                 have hK12 := hK7.below hb12
                 have hT12 := HH.out.below hT7 hb12
                 have hb1f := hb7'.trans (hb12.mono hb7'.size)
                 have hb1s := hb1f.size)
              | (at_builtin
                 refine wpList_append_any _ rfl (.tmp 115) (.tmp 117) _ rfl w1.heap.size 29 i0 _ 3 48 Try.underlying31 hi0 hz0 hz1 hz2 rfl (by omega) _ m (tms rs) rfl
                   (own_below hK12.1 ((Below.refl _ _).alloc (Nat.le_refl _) _)) _ _ 1 _ _ rfl (reads_term _ T1.name A7 n7 c7 T1.none _ _ (by simp)) (one_term _ _ _ _ _) (by unfold maxLen; omega) (by omega) (by simp; omega) ?_
                 intro v9 w9 hown9 hg9 hat9
                 have hA9 : Below w12.heap.size w12 (w12.alloc (.cells #[.string T1.name, .slice A7 n7 c7, .bool T1.none] 29)) := (Below.refl _ _).alloc (Nat.le_refl _) _
                 have N9 := (hK12.below hA9).cat (AllT.one (z := T1.none) (j12.below hA9)) hown9 hg9
                 obtain ⟨cur, mm, hgu, hBg⟩ := Tms.block Hag.out (hK12.below hA9) (by have := hm.out; omega)
                 have hg9' : (w12.alloc (.cells #[.string T1.name, .slice A7 n7 c7, .bool T1.none] 29)).grownBy w9 (some gu) := by
                   have e9 : (Value.slice (some ag) m cap).ownBlock = some gu := by rw [Hag.out]; rfl
                   rw [← e9]; exact hg9
                 have hT9 := HH.out.far (HH.out.below hT12 hA9) hg9' hgu HH.out.term (by decide)
                 have hb9' := (hb1f.trans (hA9.mono hb1s)).grown hg9' (Nat.le_trans hb1s hA9.size) (fun k hk => by injection hk with hk; omega)))
            go_roundw
            case rel => exact ⟨i + 1, m + 1, x', _, _, by omega, by go_num, hT9, HF, Hm2, N9, hb9'⟩
            case measure => simp [RowKit.intOf]; omega
      · have e0 : (kd != 0) = true := bne_iff_ne.2 k0
        have e1 : (kd != 1) = true := bne_iff_ne.2 k1
        clear k0 k1 w0 w1e wne HC
        go_wp2
        go_roundw
        case rel => exact ⟨i + 1, m, x, K, rs, by omega, by go_num, hT, hide hI.out.more, hm, hK, hb⟩
        case measure => simp [RowKit.intOf]; omega
    · have hi2 : i = n := by omega
      have hlevel : (m : Int) = (x.level : Int) + 1 := by have := hm.out; omega
      clear hi2 wne w0 w1e
      by_cases lneg : lv < 0
      · clear hK hT hI hm
        go_wp2_with (first
          | (go_at_call 5
             refine (HA.out _).mono ?_
             rintro e w4 ⟨rfl, hb4⟩))
        go_ret
        exact ⟨rfl, hb1.trans ((hb.trans (hb4.mono hbs)).mono hb1.size)⟩
      by_cases lbig : (m : Int) ≤ lv
      · clear hK hT hI hm
        go_wp2_with (first
          | (go_at_call 5
             refine (HA.out _).mono ?_
             rintro e w4 ⟨rfl, hb4⟩))
        go_ret
        exact ⟨rfl, hb1.trans ((hb.trans (hb4.mono hbs)).mono hb1.size)⟩
      obtain ⟨k, rfl⟩ : ∃ k : Nat, lv = (k : Int) := ⟨lv.toNat, by omega⟩
      have hkx : k ≤ x.level := by omega
      have hkm : k < m := by omega
      obtain ⟨hbl, hbk⟩ := falls_back hI.out.ok hI.out.known hkx
      have hfb := few_back hfew (k : Int)
      have HB := hide (HH.out.back (k : Int) hT hfew hI.out.rise)
      have HLv := hide (fun (wx : World) (B : Nat) (v : Value) (hTx : TP wx B v (backT x (k : Int))) => HH.out.level hTx hfb)
      rw [hbl] at HLv
      have HKn := hide (fun (wx : World) (B : Nat) (v : Value) (hTx : TP wx B v (backT x (k : Int))) => HH.out.know nm hTx hfb hnm9)
      unfold TellsB at HKn
      have hL9 : (knowL (backT x (k : Int)).l nm).set.length ≤ 10000 := by have := know_len hfb.small nm; have := hfb.len; omega
      have HSm := hide (fun (wx : World) (A1 A2 : Option Addr) (n1 c1 n2 c2 : Nat) (h1 : SpOn wx A1 n1 (knowL (backT x (k : Int)).l nm).set) (h2 : SpOn wx A2 n2 (knowL (backT x (k : Int)).l nm).set) => refSameT_any (knowL (backT x (k : Int)).l nm).name (knowL (backT x (k : Int)).l nm).name (knowL (backT x (k : Int)).l nm).set (knowL (backT x (k : Int)).l nm).set (knowL (backT x (k : Int)).l nm).none (knowL (backT x (k : Int)).l nm).none A1 A2 n1 c1 n2 c2 wx h1 h2 (by have := h1.len; omega) (by have := h2.len; omega))
      unfold Tells at HSm
      rw [show ∀ t : Tm, (decide (t.name = t.name) && (t.none == t.none && decide (t.set = t.set))) = true from fun t => by simp] at HSm
      generalize backT x (k : Int) = xb at *
      generalize knowL xb.l nm = T9 at *
      have ekk : ((k : Int) == (k : Int)) = true := beq_self_eq_true _
      have hk1 : (0 : Int) ≤ (k : Int) := by omega
      have hk2 : (k : Int) < (m : Int) := by omega
      clear hI hfb hL9 hbl HDo1 Hsd
      go_upto_region 25 with (first
        | (go_at_call 13
           refine HB.out.mono ?_
           rintro e w4 ⟨rfl, hT4, hKp⟩))
      have hK4 := hKp.tms hK HH.out.span HH.out.term (Nat.le_refl _)
      have hb4 := hb.trans hKp.below
      obtain ⟨A9, c9, e9, _, htold⟩ := hK4.told
      obtain ⟨ad, q9, A', n', c', e8, hbl9, hx9, hsp9, c0, c1, c2⟩ := htold.at_ hkm
      injection e9 with e9 _ _
      rw [← e9] at e8
      injection e8 with e8
      subst e8
      rw [hbk] at hx9
      injection hx9 with hx9
      subst hx9
      clear hKp hK hT hb HB hbk e9 htold hK4
      have hb4s := hb4.size
      have kd : Below w4.heap.size w4 w4.drew := (Below.refl _ _).drew
      have hblk : ∀ j, (⟨(ag.add (k * 3)).block, j, none⟩ : Addr).block < w4.heap.size := fun j => by simp only [block_of_add]; exact hbl9
      have HCz := hide (fun (wx : World) (hx : Below w4.heap.size w4 wx) => (show wx.cell? (ag.add (k * 3)) = some (.string T9.name) ∧ wx.cell? ⟨(ag.add (k * 3)).block, (ag.add (k * 3)).off + 1, none⟩ = some (.slice A' n' c') ∧ wx.cell? ⟨(ag.add (k * 3)).block, (ag.add (k * 3)).off + 2, none⟩ = some (.bool T9.none) from
        ⟨(hx.cell (p := ag.add (k * 3)) (by rw [block_of_add]; exact hbl9)).trans c0, (hx.cell (hblk _)).trans c1, (hx.cell (hblk _)).trans c2⟩))
      have Hsp := hide (fun (wx : World) (hx : Below w4.heap.size w4 wx) => (show SpOn wx A' n' T9.set from (show SpOn w4 A' n' T9.set from hsp9).on hx))
      clear hsp9 hblk
      go_region_held3 (fun w' => w'.cell? (ag.add (k * 3)) = some (.string T9.name) ∧ w'.cell? ⟨(ag.add (k * 3)).block, (ag.add (k * 3)).off + 1, none⟩ = some (.slice A' n' c') ∧ w'.cell? ⟨(ag.add (k * 3)).block, (ag.add (k * 3)).off + 2, none⟩ = some (.bool T9.none)) (first | exact HCz.out _ hk4 | exact HCz.out _ hk3 | exact HCz.out _ hkb | exact HCz.out _ hka | exact HCz.out _ kd | go_keep)
        (first
          | (go_at_call 5
             refine (HA.out _).mono ?_
             rintro e w8 ⟨rfl, hb8⟩
             have hk4 : Below w4.heap.size w4 w8 := hk3.trans (hb8.mono hk3.size))
          | (go_at_call 14
             refine (HSm.out _ _ _ _ _ _ _ h6.1 (Hsp.out _ hkb)).mono ?_
             rintro e w7 ⟨rfl, hb7⟩
             have hk3 : Below w4.heap.size w4 w7 := hkb.trans (hb7.mono hkb.size))
          | (go_at_call 7
             refine (HKn.out _ _ _ (HH.out.below hT4 hka)).mono ?_
             rintro e w6 ⟨A6, n6, c6, rfl, h6, hb6⟩
             have hkb : Below w4.heap.size w4 w6 := hka.trans (hb6.mono hka.size))
          | (go_at_call 8
             refine (HLv.out _ _ _ (HH.out.below hT4 kd)).mono ?_
             rintro e w5 ⟨rfl, hb5⟩
             have hka : Below w4.heap.size w4 w5 := kd.trans (hb5.mono kd.size)))
      all_goals
        go_wp2
        go_ret
        exact ⟨rfl, hb1.trans ((hb4.trans (hk4.mono hb4s)).mono hb1.size)⟩
end
end Go.Proofs.Ytllogmokadcfmaa.Trail
