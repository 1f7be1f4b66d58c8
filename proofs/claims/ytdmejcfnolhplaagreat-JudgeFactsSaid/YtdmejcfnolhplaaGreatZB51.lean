/-
  Some texts of this claim, one behind the other: ReachAwake, FactAwake, JudgeAwake, JudgeReadsW. What each proves, and its condition, stands at its head.
-/
import Derived.Test.YtdmejcfnolhplaaGreatZB50
import Derived.Lib.SlBytesConst
import Derived.Lib.SmallJoins
import Derived.Test.YtdmejcfnolhplaaGreatZB43
import Derived.Test.YtdmejcfnolhplaaGreatZB45
import Derived.Test.YtdmejcfnolhplaaGreatZB31
import Derived.Test.YtdmejcfnolhplaaGreatZB16
import Derived.Test.YtdmejcfnolhplaaGreatZB19
import Derived.Test.YtdmejcfnolhplaaGreatZB14
import Derived.Shelf.Abstract
import Derived.Test.YtdmejcfnolhplaaGreatZB11
import Derived.Test.YtdmejcfnolhplaaGreatZB9
import Derived.Deep.RegionHeld3
import Derived.Test.YtdmejcfnolhplaaGreatZB33
import Derived.Test.YtdmejcfnolhplaaGreatZB28
import Derived.Test.YtdmejcfnolhplaaGreatZB29
import Derived.Test.YtdmejcfnolhplaaGreatZB32
/-
  The chapter's example (awake): it holds. No condition.
-/
namespace Go.Proofs.YtdmejcfnolhplaaGreat.Reach
open Go Go.RowKit Go.Lib Go.Sort Go.Proofs.YtdmejcfnolhplaaGreat.Span Go.Proofs.YtdmejcfnolhplaaGreat.Need Go.Proofs.YtdmejcfnolhplaaGreat.Mani Go.Proofs.YtdmejcfnolhplaaGreat.Wire Go.Proofs.YtdmejcfnolhplaaGreat.Depot Go.Proofs.YtdmejcfnolhplaaGreat.Index
set_option linter.unusedVariables false
theorem putF_any (g : Nat) (l : List Kn) (nm : ByteArray) (bd : List UInt8) (A : Option Addr) (n c B : Nat) (w : World) (h : IdxB w B g l) (hl : RisesK l) (hlen : l.length ≤ 100000) (hr : Reads w w.heap.size 1 A n (bcs bd)) (hd : ∀ ad, A = some ad → 0 < n → ∃ cur m, w.heap[ad.block]? = some (.cells cur 5 m)) (hnm : nm.size ≤ 1000000000) :
    Calls Tryz.prog 27 #[.pointer (some ⟨g, 0, none⟩), .string nm, .slice A n c] w fun e w' =>
      e = .returned (.int .i64 (errX l nm bd)) ∧ IdxB w' B g (putX l nm bd) ∧ Below B w w' := by
  have hle := h.le
  obtain ⟨h1, mo, h2, h3⟩ := h
  refine (putT_any g mo l nm bd A n c w h2 hl hlen hr hd hnm).mono ?_
  rintro e w' ⟨he, ⟨mo', h4, h5⟩, hg⟩
  refine ⟨he, ⟨h1, mo', h4, fun b hb => ?_⟩, (Below.refl _ _).grown hg hle (fun k hk => by injection hk with hk; rw [← hk]; exact IdxB.row h1 h3)⟩
  rcases h5 with rfl | ⟨_, b', e2, h6⟩
  · exact h3 b hb
  · rw [hb] at e2
    injection e2 with e2
    rw [e2]; exact Nat.le_trans hle h6
theorem spIn_one (w : World) (x y : Int) (B g : Nat) (h : Blk w g 67 #[.int .i64 x, .int .i64 y]) (hB : g < B) : SpIn w B (some ⟨g, 0, none⟩) 1 [(x, y)] :=
  ⟨rfl, fun _ => ⟨_, rfl, hB, fun i s hs => by
    rcases i with _ | i
    · simp at hs
      subst hs
      exact ⟨h.cell 0, h.cell 1⟩
    · simp at hs⟩⟩
end Go.Proofs.YtdmejcfnolhplaaGreat.Reach
/-
  The chapter's examples (awake): they hold, if the program's Asked and Released tell what they have to. Condition: those two premises.
-/
namespace Go.Proofs.YtdmejcfnolhplaaGreat.Fact
open Go Go.RowKit Go.Lib Go.Sort Go.Proofs.YtdmejcfnolhplaaGreat.Span Go.Proofs.YtdmejcfnolhplaaGreat.Need Go.Proofs.YtdmejcfnolhplaaGreat.Mani Go.Proofs.YtdmejcfnolhplaaGreat.Wire Go.Proofs.YtdmejcfnolhplaaGreat.Depot Go.Proofs.YtdmejcfnolhplaaGreat.Index Go.Proofs.YtdmejcfnolhplaaGreat.Reach Go.Proofs.YtdmejcfnolhplaaGreat.Term Go.Proofs.YtdmejcfnolhplaaGreat.Clash Go.Proofs.YtdmejcfnolhplaaGreat.Fit
open Go.Proofs.YtdmejcfnolhplaaGreat.Vlq (enc hi_zero held)
open Go.Proofs.YtdmejcfnolhplaaGreat.Label (runes fitL)
set_option linter.unusedVariables false
def fyN : List Nd := [(str [97], [(0, 1000000000)])]
theorem fy_root : okS fyN = true := by
  have h1 : nlt ByteArray.empty (str [97]) = true := by
    rw [show ByteArray.empty = str [] from rfl, nlt_str]
    decide
  unfold okS
  rw [show okFrom ByteArray.empty fyN = ((fitL (runes (str [97]) 0) && nlt ByteArray.empty (str [97]) && (isSet (-1) [((0 : Int), (1000000000 : Int))] && decide (([((0 : Int), (1000000000 : Int))] : List S).length ≤ 6))) && true) from rfl, fit_one, h1]
  decide
theorem not_all : notS allS = [] := nf_nil.2 fun p h0 h1 => by
  show (!has allS p) = false
  rw [a_has h0 h1]
  rfl
theorem not_none : notS [] = allS := (is_nf allS_set fun p h0 h1 => by
  show has allS p = (!has [] p)
  rw [a_has h0 h1]
  rfl).symm
theorem vers_none : versS [] = [] := nf_nil.2 fun p _ _ => rfl
theorem make_one {t : Tm} (h1 : emptyT t = false) (h2 : fullT t = false) : makeC [t] = some [t] := by
  unfold makeC putsC
  have e : List.foldl (fun c t => putC t false c) [] [t] = [t] := by simp [putC]
  rw [e]
  simp [h1, h2]
theorem fy_asked : askedC fyN (str [97]) = some [⟨str [97], [], true⟩] := by
  unfold askedC
  rw [show findS fyN (str [97]) = some allS from rfl]
  show makeC [⟨str [97], notS allS, true⟩] = _
  rw [not_all]
  exact make_one rfl (by decide)
theorem ndOn_fy (w : World) (g g2 : Nat) (h : Blk w g 67 #[.int .i64 0, .int .i64 1000000000]) (h2 : Blk w g2 60 #[.string (str [97]), .slice (some ⟨g, 0, none⟩) 1 1]) : NdOn w (some ⟨g2, 0, none⟩) 1 fyN := by
  refine ⟨[(str [97], .slice (some ⟨g, 0, none⟩) 1 1)], ⟨rfl, fun _ => ⟨_, rfl, h2.lt, fun j u hu => ?_⟩⟩, rfl, fun i r q hr hq => ?_⟩
  · rcases j with _ | j
    · simp [rcs] at hu
      subst hu
      exact h2.cell 0
    · rcases j with _ | j
      · simp [rcs] at hu
        subst hu
        exact h2.cell 1
      · simp [rcs] at hu
  · rcases i with _ | i
    · simp [fyN] at hr hq
      subst hr hq
      exact ⟨rfl, _, 1, 1, rfl, spIn_one w 0 1000000000 _ g h h.lt⟩
    · simp at hr
end Go.Proofs.YtdmejcfnolhplaaGreat.Fact
/-
  The chapter's example (awake) of judging: it holds, if the program's Accept tells what it has to. Condition: that premise.
-/
namespace Go.Proofs.YtdmejcfnolhplaaGreat.Judge
open Go Go.RowKit Go.Lib Go.Sort Go.Proofs.YtdmejcfnolhplaaGreat.Label Go.Proofs.YtdmejcfnolhplaaGreat.Span Go.Proofs.YtdmejcfnolhplaaGreat.Need Go.Proofs.YtdmejcfnolhplaaGreat.Mani Go.Proofs.YtdmejcfnolhplaaGreat.Wire Go.Proofs.YtdmejcfnolhplaaGreat.Depot Go.Proofs.YtdmejcfnolhplaaGreat.Index Go.Proofs.YtdmejcfnolhplaaGreat.Reach Go.Proofs.YtdmejcfnolhplaaGreat.Pick Go.Proofs.YtdmejcfnolhplaaGreat.Fit Go.Proofs.YtdmejcfnolhplaaGreat.Term Go.Proofs.YtdmejcfnolhplaaGreat.Clash Go.Proofs.YtdmejcfnolhplaaGreat.Proof
open Go.Proofs.YtdmejcfnolhplaaGreat.Vlq (enc hi_zero held)
open Go.Proofs.YtdmejcfnolhplaaGreat.Fact (OkX AskX askedC releasedC fyN fy_root fy_asked ndOn_fy not_none vers_none make_one)
set_option linter.unusedVariables false
def jyB : List UInt8 := [1, 97, 0]
def jyX : List Kn := [(str [97], ([], true))]
theorem jy_ok : okM (str [97]) [] = true := by
  unfold okM
  rw [fit_one]
  decide
theorem jy_put : putB (str [97]) [] = jyB := by
  unfold putB
  rw [if_pos jy_ok]
  have e02 : held 0 = 0 := by decide
  have e12 : encN 0 = [0] := by unfold encN; rw [e02]; unfold enc; rw [show 0 / 128 = 0 from rfl, hi_zero]; rfl
  have e2 : enc 1 = [1] := by unfold enc; rw [show 1 / 128 = 0 from rfl, hi_zero]; rfl
  have e3 : textB (str [97]) = [1, 97] := by
    unfold textB
    rw [show (str [97]).size = 1 from rfl, e2]
    rfl
  simp only [manB, listB, flat_nil, e3, List.length_nil, show ((0 : Nat) : Int) = 0 from rfl, e12]
  rfl
theorem jy_good : goodE (str [97]) jyB = true ∧ relE (str [97]) jyB = [] := by rw [← jy_put]; exact good_put jy_ok
theorem jy_err : errX [] (str [97]) jyB = 0 := by
  rw [errX_zero]
  refine ⟨?_, rfl⟩
  unfold mayX
  rw [fit_one]
  decide
theorem jy_puts : putX [] (str [97]) jyB = jyX := by
  unfold putX
  rw [if_pos jy_err]
  unfold valX
  rw [jy_good.1, jy_good.2]
  rfl
theorem jy_at : atX jyX (str [97]) = some ([], true) := by unfold jyX; rw [atX, if_pos rfl]
theorem jy_okX : OkX jyX := by
  refine ⟨?_, ?_, ?_, ?_, by decide, fun q hq => by rw [List.mem_singleton.1 hq]; exact List.Pairwise.nil⟩
  · intro q hq
    rw [List.mem_singleton.1 hq]
    exact ⟨by decide, fun p hp => by cases hp⟩
  · intro q hq
    rw [List.mem_singleton.1 hq]
    exact fun r hr => by cases hr
  · intro q hq
    rw [List.mem_singleton.1 hq]
    exact fun r hr => by cases hr
  · intro q hq
    rw [List.mem_singleton.1 hq]
    exact fit_one
theorem jy_eight : EightX jyX := fun q hq => by rw [List.mem_singleton.1 hq]; decide
theorem jy_released : releasedC jyX (str [97]) = some [⟨str [97], allS, false⟩] := by
  unfold releasedC
  rw [jy_at]
  show makeC [⟨str [97], notS (versS []), false⟩] = _
  rw [vers_none, not_none]
  exact make_one (by decide) rfl
theorem union_all : unionS [] allS = allS := (is_nf allS_set fun p h0 h1 => by
  show has allS p = (has [] p || has allS p)
  rw [a_has h0 h1]
  simp).symm
theorem make_full {t : Tm} (h1 : emptyT t = false) (h2 : fullT t = true) : makeC [t] = some [] := by
  unfold makeC putsC
  have e : List.foldl (fun c t => putC t false c) [] [t] = [t] := by simp [putC]
  rw [e]
  simp [h1, h2]
def exJ : List Sp := [⟨1, ⟨#[97]⟩, 0, ⟨#[]⟩, 0, 0⟩, ⟨2, ⟨#[97]⟩, 0, ⟨#[]⟩, 0, 0⟩, ⟨4, ⟨#[97]⟩, 0, ⟨#[]⟩, 0, 1⟩]
theorem exJ_ok : okPf exJ = true := by
  refine okPf_of (by decide) (fun i s hs => ?_) (by decide)
  match i, hs with
  | 0, hs => injection hs with hs; subst hs; unfold mayS; simp only [show fitL (runes ⟨#[97]⟩ 0) = true from fit_one]; decide
  | 1, hs => injection hs with hs; subst hs; unfold mayS; simp only [show fitL (runes ⟨#[97]⟩ 0) = true from fit_one]; decide
  | 2, hs => injection hs with hs; subst hs; unfold mayS; simp only [show fitL (runes ⟨#[97]⟩ 0) = true from fit_one]; decide
  | i + 3, hs => cases hs
theorem join_ex : joinC [⟨str [97], [], true⟩] [⟨str [97], allS, false⟩] (str [97]) = some [] := by
  unfold joinC
  rw [show findC [(⟨str [97], [], true⟩ : Tm)] (str [97]) = some ⟨str [97], [], true⟩ by decide, show findC [(⟨str [97], allS, false⟩ : Tm)] (str [97]) = some ⟨str [97], allS, false⟩ by decide]
  simp only []
  rw [show dropC [(⟨str [97], [], true⟩ : Tm)] (str [97]) = [] by decide, show dropC [(⟨str [97], allS, false⟩ : Tm)] (str [97]) = [] by decide]
  have e : joinT ⟨str [97], [], true⟩ ⟨str [97], allS, false⟩ = ⟨str [97], allS, true⟩ := by
    unfold joinT
    rw [if_pos rfl]
    show (⟨str [97], unionS [] allS, true⟩ : Tm) = _
    rw [union_all]
  rw [e]
  exact make_full rfl (by decide)
theorem exJ_clash : clashC jyX fyN exJ [] = [[⟨str [97], [], true⟩], [⟨str [97], allS, false⟩], []] := by
  have h1 : oneC jyX fyN ⟨1, ⟨#[97]⟩, 0, ⟨#[]⟩, 0, 0⟩ [] = some [⟨str [97], [], true⟩] := by unfold oneC; rw [if_pos rfl]; exact fy_asked
  have h2 : oneC jyX fyN ⟨2, ⟨#[97]⟩, 0, ⟨#[]⟩, 0, 0⟩ [[⟨str [97], [], true⟩]] = some [⟨str [97], allS, false⟩] := by unfold oneC; rw [if_neg (show ¬ (2 : Int) = 1 by decide), if_pos rfl]; exact jy_released
  have h3 : oneC jyX fyN ⟨4, ⟨#[97]⟩, 0, ⟨#[]⟩, 0, 1⟩ [[⟨str [97], [], true⟩], [⟨str [97], allS, false⟩]] = some [] := by unfold oneC; rw [if_neg (show ¬ (4 : Int) = 1 by decide), if_neg (show ¬ (4 : Int) = 2 by decide), if_neg (show ¬ (4 : Int) = 3 by decide)]; exact join_ex
  unfold exJ
  rw [clashC, h1]
  simp only [List.nil_append]
  rw [clashC, h2]
  simp only [List.cons_append, List.nil_append]
  rw [clashC, h3]
  rfl
theorem exJ_accept : acceptB jyX fyN exJ = true := by
  unfold acceptB
  rw [exJ_ok, exJ_clash]
  decide
theorem jy_putany (B g : Nat) (w : World) (h : IdxB w B g []) :
    Calls Tryz.prog 27 #[.pointer (some ⟨g, 0, none⟩), .string (str [97]), .slice (some ⟨w.heap.size, 0, none⟩) 3 3] (w.alloc (.cells #[.int .u8 1, .int .u8 97, .int .u8 0] 5 (3, 4))) fun e w' =>
      e = .returned (.int .i64 0) ∧ IdxB w' B g jyX ∧ Below B (w.alloc (.cells #[.int .u8 1, .int .u8 97, .int .u8 0] 5 (3, 4))) w' := by
  have hb := heap_alloc_new w (.cells #[.int .u8 1, .int .u8 97, .int .u8 0] 5 (3, 4))
  have hr : Reads (w.alloc (.cells #[.int .u8 1, .int .u8 97, .int .u8 0] 5 (3, 4))) (w.heap.size + 1) 1 (some ⟨w.heap.size, 0, none⟩) 3 (bcs jyB) := by
    refine ⟨rfl, fun _ => ⟨_, rfl, Nat.lt_succ_self _, fun j u hu => ?_⟩⟩
    have hadd : (⟨w.heap.size, 0, none⟩ : Addr).add j = ⟨w.heap.size, j, none⟩ := by unfold Addr.add; split <;> simp_all
    rw [hadd, World.cell?_alloc_mark]
    rw [← hu]
    simp [bcs, jyB]
  have := putF_any g [] (str [97]) jyB (some ⟨w.heap.size, 0, none⟩) 3 3 B _ (h.below (Proof.alloc_b _ _)) List.Pairwise.nil (by simp) (by rw [World.size_alloc]; exact hr) (fun ad hA _ => by injection hA with hA; subst hA; exact ⟨_, _, hb⟩) (by decide)
  rw [jy_err, jy_puts] at this
  exact this
theorem reads_exJ (w : World) (g : Nat) (hg : g = w.heap.size) : Reads (w.alloc (.cells (pfs exJ).toArray 53)) (g + 1) 6 (some ⟨g, 0, none⟩) 3 (pfs exJ) := by
  subst hg
  have h := Reads.newL w 53 (pfs exJ).toArray
  exact ⟨rfl, fun _ => h.2 (by simp [exJ, pfs])⟩
set_option maxHeartbeats 4000000 in
set_option maxRecDepth 100000 in
theorem awakeJ_any (SA : SpecAcceptJ) (w : World) : Calls Tryz.prog 9 #[] w fun e w' => e = .returned (.bool true) ∧ Below w.heap.size w w' := by
  have HN := hide (new_any w)
  have HA := hide (fun (g g2 : Nat) (Ar : Option Addr) (wx : World) (hI : IdxB wx w.heap.size g jyX) (hr : NdOn wx Ar 1 fyN) (hp : PfOn wx (some ⟨g2, 0, none⟩) 3 exJ) => SA jyX fyN exJ (.pointer (some ⟨g, 0, none⟩)) Ar (some ⟨g2, 0, none⟩) 1 1 3 3 wx ⟨⟨_, rfl⟩, tells_idx hI jy_okX.fine, jy_okX⟩ jy_eight hr (by omega) fy_root hp (by omega) (fun s hs => by simp only [exJ, List.mem_cons, List.not_mem_nil, or_false] at hs; rcases hs with rfl | rfl | rfl <;> exact ⟨by decide, by decide⟩) (by omega))
  rw [exJ_accept] at HA
  have HP := hide (fun (wx : World) (hI : IdxB wx w.heap.size w.heap.size []) => jy_putany w.heap.size w.heap.size wx hI)
  have kc := fun (w : World) (C : Array Value) (n c : Nat) => Lib.run_convert_bytes_const (P := Tryz.prog) w 55 5 C n c Tryz.underlying55 Tryz.underlying5
  have hex : (pfs exJ).toArray = #[.int .i64 1, .string ⟨#[97]⟩, .int .i64 0, .string ⟨#[]⟩, .int .i64 0, .int .i64 0, .int .i64 2, .string ⟨#[97]⟩, .int .i64 0, .string ⟨#[]⟩, .int .i64 0, .int .i64 0, .int .i64 4, .string ⟨#[97]⟩, .int .i64 0, .string ⟨#[]⟩, .int .i64 0, .int .i64 1] := rfl
  have HPf := hide (fun (wx : World) (g : Nat) (hg : g = wx.heap.size) => (show PfOn (wx.alloc (.cells #[.int .i64 1, .string ⟨#[97]⟩, .int .i64 0, .string ⟨#[]⟩, .int .i64 0, .int .i64 0, .int .i64 2, .string ⟨#[97]⟩, .int .i64 0, .string ⟨#[]⟩, .int .i64 0, .int .i64 0, .int .i64 4, .string ⟨#[97]⟩, .int .i64 0, .string ⟨#[]⟩, .int .i64 0, .int .i64 1] 53)) (some ⟨g, 0, none⟩) 3 exJ from by
    rw [← hex]
    exact (reads_exJ wx g hg).more (by rw [World.size_alloc]; omega)))
  clear SA hex
  go_enter Tryz.func9, Tryz.ntmps9
  go_wp2_with (first
    | (go_at_call 12
       refine (HA.out _ (w2.heap.size + 1 + 1) _ _ hI5 hN5 (HPf.out _ _ (by simp))).mono ?_
       rintro e w6 ⟨rfl, hb6⟩
       have hbw6 := hbw5.trans (hb6.mono hbw5.size))
    | (go_at_call 27
       refine (HP.out _ hI1).mono ?_
       rintro e w2 ⟨rfl, hI2, hb2⟩
       have hs1 := Blk.new w2 67 #[.int .i64 0, .int .i64 1000000000]
       have hn1 := Blk.new (w2.alloc (.cells #[.int .i64 0, .int .i64 1000000000] 67)) 60 #[.string (str [97]), .slice (some ⟨w2.heap.size, 0, none⟩) 1 1]
       rw [World.size_alloc] at hn1
       have hN4 := ndOn_fy _ _ _ (hs1.alloc (.cells #[.string (str [97]), .slice (some ⟨w2.heap.size, 0, none⟩) 1 1] 60)) hn1
       have hI4 := (hI2.below (Proof.alloc_b _ (.cells #[.int .i64 0, .int .i64 1000000000] 67))).below (Proof.alloc_b _ (.cells #[.string (str [97]), .slice (some ⟨w2.heap.size, 0, none⟩) 1 1] 60))
       have hbw2 := hb1.trans (((Proof.alloc_b _ _).mono hb1.size).trans hb2)
       have hbw4 := (hbw2.alloc hbw2.size (.cells #[.int .i64 0, .int .i64 1000000000] 67)).alloc (Nat.le_trans hbw2.size (by simp)) (.cells #[.string (str [97]), .slice (some ⟨w2.heap.size, 0, none⟩) 1 1] 60)
       have hI5 := hI4.below (Proof.alloc_b _ (.cells #[.int .i64 1, .string ⟨#[97]⟩, .int .i64 0, .string ⟨#[]⟩, .int .i64 0, .int .i64 0, .int .i64 2, .string ⟨#[97]⟩, .int .i64 0, .string ⟨#[]⟩, .int .i64 0, .int .i64 0, .int .i64 4, .string ⟨#[97]⟩, .int .i64 0, .string ⟨#[]⟩, .int .i64 0, .int .i64 1] 53))
       have hN5 := NdOn.on hN4 (Proof.alloc_b _ (.cells #[.int .i64 1, .string ⟨#[97]⟩, .int .i64 0, .string ⟨#[]⟩, .int .i64 0, .int .i64 0, .int .i64 2, .string ⟨#[97]⟩, .int .i64 0, .string ⟨#[]⟩, .int .i64 0, .int .i64 0, .int .i64 4, .string ⟨#[97]⟩, .int .i64 0, .string ⟨#[]⟩, .int .i64 0, .int .i64 1] 53))
       have hbw5 := hbw4.alloc hbw4.size (.cells #[.int .i64 1, .string ⟨#[97]⟩, .int .i64 0, .string ⟨#[]⟩, .int .i64 0, .int .i64 0, .int .i64 2, .string ⟨#[97]⟩, .int .i64 0, .string ⟨#[]⟩, .int .i64 0, .int .i64 0, .int .i64 4, .string ⟨#[97]⟩, .int .i64 0, .string ⟨#[]⟩, .int .i64 0, .int .i64 1] 53))
    | (go_at_call 26
       refine HN.out.mono ?_
       rintro e w1 ⟨rfl, hI0, hb1⟩
       have hI1 : IdxB w1 w.heap.size w.heap.size [] := ⟨Nat.le_refl _, none, hI0, fun b e => by cases e⟩))
  go_ret
  exact ⟨rfl, hbw6⟩
end Go.Proofs.YtdmejcfnolhplaaGreat.Judge
/-
  The walk of JudgeReads, if the program's Accept, Clashes and Last tell what they have to. Condition: those premises.
-/
namespace Go.Proofs.YtdmejcfnolhplaaGreat.Judge
open Go Go.RowKit Go.Lib Go.Sort Go.Proofs.YtdmejcfnolhplaaGreat.Label Go.Proofs.YtdmejcfnolhplaaGreat.Span Go.Proofs.YtdmejcfnolhplaaGreat.Need Go.Proofs.YtdmejcfnolhplaaGreat.Mani Go.Proofs.YtdmejcfnolhplaaGreat.Depot Go.Proofs.YtdmejcfnolhplaaGreat.Index Go.Proofs.YtdmejcfnolhplaaGreat.Reach Go.Proofs.YtdmejcfnolhplaaGreat.Fit Go.Proofs.YtdmejcfnolhplaaGreat.Term Go.Proofs.YtdmejcfnolhplaaGreat.Clash Go.Proofs.YtdmejcfnolhplaaGreat.Proof
open Go.Proofs.YtdmejcfnolhplaaGreat.Fact (OkX AskX okX_puts FcIn FcOn FinC)
set_option linter.unusedVariables false
theorem namesJ9 {l : List Nd} (h : Fine l) : Names9 l := fun q hq => by have := h.2 q hq; omega
theorem clash_inv {X : List Kn} {root : List Nd} (hX : OkX X) (h8 : EightX X) (hok : okS root = true) {whole : List Sp} : ∀ (r : List Sp) (o : List (List Tm)), (∀ s ∈ r, s ∈ whole ∧ ∃ i, mayS s i = true) → (∀ d ∈ o, InvC (prsS X root whole) (nmsS X root whole) d) → ∀ d ∈ clashC X root r o, InvC (prsS X root whole) (nmsS X root whole) d
  | [], o, _, ho => ho
  | s :: r, o, hr, ho => by
    rw [clashC]
    obtain ⟨hs, i, hm⟩ := hr s (by simp)
    cases e : oneC X root s o with
    | none => exact ho
    | some c =>
      refine clash_inv hX h8 hok r (o ++ [c]) (fun q hq => hr q (by simp [hq])) (fun d hd => ?_)
      rcases List.mem_append.1 hd with hd | hd
      · exact ho d hd
      · rw [List.mem_singleton.1 hd]; exact inv_one hX h8 hok hs hm ho e
theorem clash_fin {X : List Kn} {root : List Nd} (hX : OkX X) (h8 : EightX X) (hok : okS root = true) {l : List Sp} (ho : okPf l = true) (hn : l.length ≤ 120) : ∀ d ∈ clashC X root l [], FinC d ∧ OkC d ∧ FewC d := fun d hd => by
  obtain ⟨_, hst, _⟩ := okPf_steps ho
  have hmay : ∀ s ∈ l, ∃ i, mayS s i = true := fun s hs => by
    obtain ⟨i, hi, e⟩ := List.mem_iff_getElem.1 hs
    exact ⟨i, hst i s (by rw [← e]; simp)⟩
  have hi := clash_inv hX h8 hok l [] (fun s hs => ⟨hs, hmay s hs⟩) (fun d hd => by cases hd) d hd
  have hf := inv_fine hX h8 hok hmay hn hi
  have hok2 : ∀ t ∈ d, okT t = true := fun t ht => (hi.1.2 t ht).1
  refine ⟨⟨fun t ht => ?_, by omega, fun t ht => ok_set (hok2 t ht)⟩, hi.1, hok2, hf⟩
  have := sumC_mem ht
  omega
end Go.Proofs.YtdmejcfnolhplaaGreat.Judge
