/-
  Some texts of this claim, one behind the other: ReachAwake, FactAwake, JudgeAwake, JudgeReadsW. What each proves, and its condition, stands at its head.
-/
import Derived.Test.YtdmejcfnolhplaaGreatZA51
import Derived.Lib.SlBytesConst
import Derived.Lib.SmallJoins
import Derived.Test.YtdmejcfnolhplaaGreatZA40
import Derived.Test.YtdmejcfnolhplaaGreatZA49
import Derived.Test.YtdmejcfnolhplaaGreatZA36
import Derived.Test.YtdmejcfnolhplaaGreatZA21
import Derived.Test.YtdmejcfnolhplaaGreatZA31
import Derived.Test.YtdmejcfnolhplaaGreatZA35
import Derived.Deep.RegionHeld3
/-
  The chapter's example (awake): it holds. No condition.
-/
namespace Go.Proofs.YtdmejcfnolhplaaGreat.Reach
open Go Go.RowKit Go.Lib Go.Sort Go.Proofs.YtdmejcfnolhplaaGreat.Span Go.Proofs.YtdmejcfnolhplaaGreat.Need Go.Proofs.YtdmejcfnolhplaaGreat.Mani Go.Proofs.YtdmejcfnolhplaaGreat.Wire Go.Proofs.YtdmejcfnolhplaaGreat.Depot Go.Proofs.YtdmejcfnolhplaaGreat.Index
set_option linter.unusedVariables false
theorem putF_any (g : Nat) (l : List Kn) (nm : ByteArray) (bd : List UInt8) (A : Option Addr) (n c B : Nat) (w : World) (h : IdxB w B g l) (hl : RisesK l) (hlen : l.length ≤ 100000) (hr : Reads w w.heap.size 1 A n (bcs bd)) (hd : ∀ ad, A = some ad → 0 < n → ∃ cur m, w.heap[ad.block]? = some (.cells cur 5 m)) (hnm : nm.size ≤ 1000000000) :
    Calls Tryz.prog 27 #[.pointer (some ⟨g, 0, none⟩), .string nm, .slice A n c] w fun e w' =>
      e = .returned (.int .i64 (errX l nm bd)) ∧ IdxB w' B g (putX l nm bd) ∧ Below B w w' := by
  have hle := h.le
  obtain ⟨h1, mo, h2, h3⟩ := h
  refine (putT_any g mo l nm bd A n c w h2 hl hlen hr hd hnm).mono ?_
  rintro e w' ⟨he, ⟨mo', h4, h5⟩, hg⟩
  refine ⟨he, ⟨h1, mo', h4, fun b hb => ?_⟩, (Below.refl _ _).grown hg hle (fun k hk => by injection hk with hk; rw [← hk]; exact IdxB.row h1 h3)⟩
  rcases h5 with rfl | ⟨_, b', e2, h6⟩
  · exact h3 b hb
  · rw [hb] at e2
    injection e2 with e2
    rw [e2]; exact Nat.le_trans hle h6
theorem spIn_one (w : World) (x y : Int) (B g : Nat) (h : Blk w g 67 #[.int .i64 x, .int .i64 y]) (hB : g < B) : SpIn w B (some ⟨g, 0, none⟩) 1 [(x, y)] :=
  ⟨rfl, fun _ => ⟨_, rfl, hB, fun i s hs => by
    rcases i with _ | i
    · simp at hs
      subst hs
      exact ⟨h.cell 0, h.cell 1⟩
    · simp at hs⟩⟩
end Go.Proofs.YtdmejcfnolhplaaGreat.Reach
/-
  The chapter's examples (awake): they hold, if the program's Asked and Released tell what they have to. Condition: those two premises.
-/
namespace Go.Proofs.YtdmejcfnolhplaaGreat.Fact
open Go Go.RowKit Go.Lib Go.Sort Go.Proofs.YtdmejcfnolhplaaGreat.Span Go.Proofs.YtdmejcfnolhplaaGreat.Need Go.Proofs.YtdmejcfnolhplaaGreat.Mani Go.Proofs.YtdmejcfnolhplaaGreat.Wire Go.Proofs.YtdmejcfnolhplaaGreat.Depot Go.Proofs.YtdmejcfnolhplaaGreat.Index Go.Proofs.YtdmejcfnolhplaaGreat.Reach Go.Proofs.YtdmejcfnolhplaaGreat.Term Go.Proofs.YtdmejcfnolhplaaGreat.Clash Go.Proofs.YtdmejcfnolhplaaGreat.Fit
open Go.Proofs.YtdmejcfnolhplaaGreat.Vlq (enc hi_zero held)
open Go.Proofs.YtdmejcfnolhplaaGreat.Label (runes fitL)
set_option linter.unusedVariables false
def fyN : List Nd := [(str [97], [(0, 1000000000)])]
theorem fy_root : okS fyN = true := by
  have h1 : nlt ByteArray.empty (str [97]) = true := by
    rw [show ByteArray.empty = str [] from rfl, nlt_str]
    decide
  unfold okS
  rw [show okFrom ByteArray.empty fyN = ((fitL (runes (str [97]) 0) && nlt ByteArray.empty (str [97]) && (isSet (-1) [((0 : Int), (1000000000 : Int))] && decide (([((0 : Int), (1000000000 : Int))] : List S).length ≤ 6))) && true) from rfl, fit_one, h1]
  decide
theorem not_all : notS allS = [] := nf_nil.2 fun p h0 h1 => by
  show (!has allS p) = false
  rw [a_has h0 h1]
  rfl
theorem not_none : notS [] = allS := (is_nf allS_set fun p h0 h1 => by
  show has allS p = (!has [] p)
  rw [a_has h0 h1]
  rfl).symm
theorem vers_none : versS [] = [] := nf_nil.2 fun p _ _ => rfl
theorem make_one {t : Tm} (h1 : emptyT t = false) (h2 : fullT t = false) : makeC [t] = some [t] := by
  unfold makeC putsC
  have e : List.foldl (fun c t => putC t false c) [] [t] = [t] := by simp [putC]
  rw [e]
  simp [h1, h2]
theorem fy_asked : askedC fyN (str [97]) = some [⟨str [97], [], true⟩] := by
  unfold askedC
  rw [show findS fyN (str [97]) = some allS from rfl]
  show makeC [⟨str [97], notS allS, true⟩] = _
  rw [not_all]
  exact make_one rfl (by decide)
theorem ndOn_fy (w : World) (g g2 : Nat) (h : Blk w g 67 #[.int .i64 0, .int .i64 1000000000]) (h2 : Blk w g2 60 #[.string (str [97]), .slice (some ⟨g, 0, none⟩) 1 1]) : NdOn w (some ⟨g2, 0, none⟩) 1 fyN := by
  refine ⟨[(str [97], .slice (some ⟨g, 0, none⟩) 1 1)], ⟨rfl, fun _ => ⟨_, rfl, h2.lt, fun j u hu => ?_⟩⟩, rfl, fun i r q hr hq => ?_⟩
  · rcases j with _ | j
    · simp [rcs] at hu
      subst hu
      exact h2.cell 0
    · rcases j with _ | j
      · simp [rcs] at hu
        subst hu
        exact h2.cell 1
      · simp [rcs] at hu
  · rcases i with _ | i
    · simp [fyN] at hr hq
      subst hr hq
      exact ⟨rfl, _, 1, 1, rfl, spIn_one w 0 1000000000 _ g h h.lt⟩
    · simp at hr
end Go.Proofs.YtdmejcfnolhplaaGreat.Fact
/-
  The chapter's example (awake) of judging: it holds, if the program's Accept tells what it has to. Condition: that premise.
-/
namespace Go.Proofs.YtdmejcfnolhplaaGreat.Judge
open Go Go.RowKit Go.Lib Go.Sort Go.Proofs.YtdmejcfnolhplaaGreat.Label Go.Proofs.YtdmejcfnolhplaaGreat.Span Go.Proofs.YtdmejcfnolhplaaGreat.Need Go.Proofs.YtdmejcfnolhplaaGreat.Mani Go.Proofs.YtdmejcfnolhplaaGreat.Wire Go.Proofs.YtdmejcfnolhplaaGreat.Depot Go.Proofs.YtdmejcfnolhplaaGreat.Index Go.Proofs.YtdmejcfnolhplaaGreat.Reach Go.Proofs.YtdmejcfnolhplaaGreat.Pick Go.Proofs.YtdmejcfnolhplaaGreat.Fit Go.Proofs.YtdmejcfnolhplaaGreat.Term Go.Proofs.YtdmejcfnolhplaaGreat.Clash Go.Proofs.YtdmejcfnolhplaaGreat.Proof
open Go.Proofs.YtdmejcfnolhplaaGreat.Vlq (enc hi_zero held)
open Go.Proofs.YtdmejcfnolhplaaGreat.Fact (OkX AskX askedC releasedC fyN fy_root fy_asked ndOn_fy not_none vers_none make_one)
set_option linter.unusedVariables false
def jyB : List UInt8 := [1, 97, 0]
def jyX : List Kn := [(str [97], ([], true))]
theorem jy_ok : okM (str [97]) [] = true := by
  unfold okM
  rw [fit_one]
  decide
theorem jy_put : putB (str [97]) [] = jyB := by
  unfold putB
  rw [if_pos jy_ok]
  have e02 : held 0 = 0 := by decide
  have e12 : encN 0 = [0] := by unfold encN; rw [e02]; unfold enc; rw [show 0 / 128 = 0 from rfl, hi_zero]; rfl
  have e2 : enc 1 = [1] := by unfold enc; rw [show 1 / 128 = 0 from rfl, hi_zero]; rfl
  have e3 : textB (str [97]) = [1, 97] := by
    unfold textB
    rw [show (str [97]).size = 1 from rfl, e2]
    rfl
  simp only [manB, listB, flat_nil, e3, List.length_nil, show ((0 : Nat) : Int) = 0 from rfl, e12]
  rfl
theorem jy_good : goodE (str [97]) jyB = true ∧ relE (str [97]) jyB = [] := by rw [← jy_put]; exact good_put jy_ok
theorem jy_err : errX [] (str [97]) jyB = 0 := by
  rw [errX_zero]
  refine ⟨?_, rfl⟩
  unfold mayX
  rw [fit_one]
  decide
theorem jy_puts : putX [] (str [97]) jyB = jyX := by
  unfold putX
  rw [if_pos jy_err]
  unfold valX
  rw [jy_good.1, jy_good.2]
  rfl
theorem jy_at : atX jyX (str [97]) = some ([], true) := by unfold jyX; rw [atX, if_pos rfl]
theorem jy_okX : OkX jyX := by
  refine ⟨?_, ?_, ?_, ?_, by decide, fun q hq => by rw [List.mem_singleton.1 hq]; exact List.Pairwise.nil⟩
  · intro q hq
    rw [List.mem_singleton.1 hq]
    exact ⟨by decide, fun p hp => by cases hp⟩
  · intro q hq
    rw [List.mem_singleton.1 hq]
    exact fun r hr => by cases hr
  · intro q hq
    rw [List.mem_singleton.1 hq]
    exact fun r hr => by cases hr
  · intro q hq
    rw [List.mem_singleton.1 hq]
    exact fit_one
theorem jy_eight : EightX jyX := fun q hq => by rw [List.mem_singleton.1 hq]; decide
theorem jy_released : releasedC jyX (str [97]) = some [⟨str [97], allS, false⟩] := by
  unfold releasedC
  rw [jy_at]
  show makeC [⟨str [97], notS (versS []), false⟩] = _
  rw [vers_none, not_none]
  exact make_one (by decide) rfl
theorem union_all : unionS [] allS = allS := (is_nf allS_set fun p h0 h1 => by
  show has allS p = (has [] p || has allS p)
  rw [a_has h0 h1]
  simp).symm
theorem make_full {t : Tm} (h1 : emptyT t = false) (h2 : fullT t = true) : makeC [t] = some [] := by
  unfold makeC putsC
  have e : List.foldl (fun c t => putC t false c) [] [t] = [t] := by simp [putC]
  rw [e]
  simp [h1, h2]
def exJ : List Sp := [⟨1, ⟨#[97]⟩, 0, ⟨#[]⟩, 0, 0⟩, ⟨2, ⟨#[97]⟩, 0, ⟨#[]⟩, 0, 0⟩, ⟨4, ⟨#[97]⟩, 0, ⟨#[]⟩, 0, 1⟩]
theorem exJ_ok : okPf exJ = true := by
  refine okPf_of (by decide) (fun i s hs => ?_) (by decide)
  match i, hs with
  | 0, hs => injection hs with hs; subst hs; unfold mayS; simp only [show fitL (runes ⟨#[97]⟩ 0) = true from fit_one]; decide
  | 1, hs => injection hs with hs; subst hs; unfold mayS; simp only [show fitL (runes ⟨#[97]⟩ 0) = true from fit_one]; decide
  | 2, hs => injection hs with hs; subst hs; unfold mayS; simp only [show fitL (runes ⟨#[97]⟩ 0) = true from fit_one]; decide
  | i + 3, hs => cases hs
theorem join_ex : joinC [⟨str [97], [], true⟩] [⟨str [97], allS, false⟩] (str [97]) = some [] := by
  unfold joinC
  rw [show findC [(⟨str [97], [], true⟩ : Tm)] (str [97]) = some ⟨str [97], [], true⟩ by decide, show findC [(⟨str [97], allS, false⟩ : Tm)] (str [97]) = some ⟨str [97], allS, false⟩ by decide]
  simp only []
  rw [show dropC [(⟨str [97], [], true⟩ : Tm)] (str [97]) = [] by decide, show dropC [(⟨str [97], allS, false⟩ : Tm)] (str [97]) = [] by decide]
  have e : joinT ⟨str [97], [], true⟩ ⟨str [97], allS, false⟩ = ⟨str [97], allS, true⟩ := by
    unfold joinT
    rw [if_pos rfl]
    show (⟨str [97], unionS [] allS, true⟩ : Tm) = _
    rw [union_all]
  rw [e]
  exact make_full rfl (by decide)
theorem exJ_clash : clashC jyX fyN exJ [] = [[⟨str [97], [], true⟩], [⟨str [97], allS, false⟩], []] := by
  have h1 : oneC jyX fyN ⟨1, ⟨#[97]⟩, 0, ⟨#[]⟩, 0, 0⟩ [] = some [⟨str [97], [], true⟩] := by unfold oneC; rw [if_pos rfl]; exact fy_asked
  have h2 : oneC jyX fyN ⟨2, ⟨#[97]⟩, 0, ⟨#[]⟩, 0, 0⟩ [[⟨str [97], [], true⟩]] = some [⟨str [97], allS, false⟩] := by unfold oneC; rw [if_neg (show ¬ (2 : Int) = 1 by decide), if_pos rfl]; exact jy_released
  have h3 : oneC jyX fyN ⟨4, ⟨#[97]⟩, 0, ⟨#[]⟩, 0, 1⟩ [[⟨str [97], [], true⟩], [⟨str [97], allS, false⟩]] = some [] := by unfold oneC; rw [if_neg (show ¬ (4 : Int) = 1 by decide), if_neg (show ¬ (4 : Int) = 2 by decide), if_neg (show ¬ (4 : Int) = 3 by decide)]; exact join_ex
  unfold exJ
  rw [clashC, h1]
  simp only [List.nil_append]
  rw [clashC, h2]
  simp only [List.cons_append, List.nil_append]
  rw [clashC, h3]
  rfl
theorem exJ_accept : acceptB jyX fyN exJ = true := by
  unfold acceptB
  rw [exJ_ok, exJ_clash]
  decide
theorem jy_putany (B g : Nat) (w : World) (h : IdxB w B g []) :
    Calls Tryz.prog 27 #[.pointer (some ⟨g, 0, none⟩), .string (str [97]), .slice (some ⟨w.heap.size, 0, none⟩) 3 3] (w.alloc (.cells #[.int .u8 1, .int .u8 97, .int .u8 0] 5 (3, 4))) fun e w' =>
      e = .returned (.int .i64 0) ∧ IdxB w' B g jyX ∧ Below B (w.alloc (.cells #[.int .u8 1, .int .u8 97, .int .u8 0] 5 (3, 4))) w' := by
  have hb := heap_alloc_new w (.cells #[.int .u8 1, .int .u8 97, .int .u8 0] 5 (3, 4))
  have hr : Reads (w.alloc (.cells #[.int .u8 1, .int .u8 97, .int .u8 0] 5 (3, 4))) (w.heap.size + 1) 1 (some ⟨w.heap.size, 0, none⟩) 3 (bcs jyB) := by
    refine ⟨rfl, fun _ => ⟨_, rfl, Nat.lt_succ_self _, fun j u hu => ?_⟩⟩
    have hadd : (⟨w.heap.size, 0, none⟩ : Addr).add j = ⟨w.heap.size, j, none⟩ := by unfold Addr.add; split <;> simp_all
    rw [hadd, World.cell?_alloc_mark]
    rw [← hu]
    simp [bcs, jyB]
  have := putF_any g [] (str [97]) jyB (some ⟨w.heap.size, 0, none⟩) 3 3 B _ (h.below (Proof.alloc_b _ _)) List.Pairwise.nil (by simp) (by rw [World.size_alloc]; exact hr) (fun ad hA _ => by injection hA with hA; subst hA; exact ⟨_, _, hb⟩) (by decide)
  rw [jy_err, jy_puts] at this
  exact this
theorem reads_exJ (w : World) (g : Nat) (hg : g = w.heap.size) : Reads (w.alloc (.cells (pfs exJ).toArray 53)) (g + 1) 6 (some ⟨g, 0, none⟩) 3 (pfs exJ) := by
  subst hg
  have h := Reads.newL w 53 (pfs exJ).toArray
  exact ⟨rfl, fun _ => h.2 (by simp [exJ, pfs])⟩
set_option maxHeartbeats 4000000 in
set_option maxRecDepth 100000 in
theorem awakeJ_any (SA : SpecAcceptJ) (w : World) : Calls Tryz.prog 9 #[] w fun e w' => e = .returned (.bool true) ∧ Below w.heap.size w w' := by
  have HN := hide (new_any w)
  have HA := hide (fun (g g2 : Nat) (Ar : Option Addr) (wx : World) (hI : IdxB wx w.heap.size g jyX) (hr : NdOn wx Ar 1 fyN) (hp : PfOn wx (some ⟨g2, 0, none⟩) 3 exJ) => SA jyX fyN exJ (.pointer (some ⟨g, 0, none⟩)) Ar (some ⟨g2, 0, none⟩) 1 1 3 3 wx ⟨⟨_, rfl⟩, tells_idx hI jy_okX.fine, jy_okX⟩ jy_eight hr (by omega) fy_root hp (by omega) (fun s hs => by simp only [exJ, List.mem_cons, List.not_mem_nil, or_false] at hs; rcases hs with rfl | rfl | rfl <;> exact ⟨by decide, by decide⟩) (by omega))
  rw [exJ_accept] at HA
  have HP := hide (fun (wx : World) (hI : IdxB wx w.heap.size w.heap.size []) => jy_putany w.heap.size w.heap.size wx hI)
  have kc := fun (w : World) (C : Array Value) (n c : Nat) => Lib.run_convert_bytes_const (P := Tryz.prog) w 55 5 C n c Tryz.underlying55 Tryz.underlying5
  have hex : (pfs exJ).toArray = #[.int .i64 1, .string ⟨#[97]⟩, .int .i64 0, .string ⟨#[]⟩, .int .i64 0, .int .i64 0, .int .i64 2, .string ⟨#[97]⟩, .int .i64 0, .string ⟨#[]⟩, .int .i64 0, .int .i64 0, .int .i64 4, .string ⟨#[97]⟩, .int .i64 0, .string ⟨#[]⟩, .int .i64 0, .int .i64 1] := rfl
  have HPf := hide (fun (wx : World) (g : Nat) (hg : g = wx.heap.size) => (show PfOn (wx.alloc (.cells #[.int .i64 1, .string ⟨#[97]⟩, .int .i64 0, .string ⟨#[]⟩, .int .i64 0, .int .i64 0, .int .i64 2, .string ⟨#[97]⟩, .int .i64 0, .string ⟨#[]⟩, .int .i64 0, .int .i64 0, .int .i64 4, .string ⟨#[97]⟩, .int .i64 0, .string ⟨#[]⟩, .int .i64 0, .int .i64 1] 53)) (some ⟨g, 0, none⟩) 3 exJ from by
    rw [← hex]
    exact (reads_exJ wx g hg).more (by rw [World.size_alloc]; omega)))
  clear SA hex
  go_enter Tryz.func9, Tryz.ntmps9
  go_wp2_with (first
    | (go_at_call 12
       refine (HA.out _ (w2.heap.size + 1 + 1) _ _ hI5 hN5 (HPf.out _ _ (by simp))).mono ?_
       rintro e w6 ⟨rfl, hb6⟩
       have hbw6 := hbw5.trans (hb6.mono hbw5.size))
    | (go_at_call 27
       refine (HP.out _ hI1).mono ?_
       rintro e w2 ⟨rfl, hI2, hb2⟩
       have hs1 := Blk.new w2 67 #[.int .i64 0, .int .i64 1000000000]
       have hn1 := Blk.new (w2.alloc (.cells #[.int .i64 0, .int .i64 1000000000] 67)) 60 #[.string (str [97]), .slice (some ⟨w2.heap.size, 0, none⟩) 1 1]
       rw [World.size_alloc] at hn1
       have hN4 := ndOn_fy _ _ _ (hs1.alloc (.cells #[.string (str [97]), .slice (some ⟨w2.heap.size, 0, none⟩) 1 1] 60)) hn1
       have hI4 := (hI2.below (Proof.alloc_b _ (.cells #[.int .i64 0, .int .i64 1000000000] 67))).below (Proof.alloc_b _ (.cells #[.string (str [97]), .slice (some ⟨w2.heap.size, 0, none⟩) 1 1] 60))
       have hbw2 := hb1.trans (((Proof.alloc_b _ _).mono hb1.size).trans hb2)
       have hbw4 := (hbw2.alloc hbw2.size (.cells #[.int .i64 0, .int .i64 1000000000] 67)).alloc (Nat.le_trans hbw2.size (by simp)) (.cells #[.string (str [97]), .slice (some ⟨w2.heap.size, 0, none⟩) 1 1] 60)
       have hI5 := hI4.below (Proof.alloc_b _ (.cells #[.int .i64 1, .string ⟨#[97]⟩, .int .i64 0, .string ⟨#[]⟩, .int .i64 0, .int .i64 0, .int .i64 2, .string ⟨#[97]⟩, .int .i64 0, .string ⟨#[]⟩, .int .i64 0, .int .i64 0, .int .i64 4, .string ⟨#[97]⟩, .int .i64 0, .string ⟨#[]⟩, .int .i64 0, .int .i64 1] 53))
       have hN5 := NdOn.on hN4 (Proof.alloc_b _ (.cells #[.int .i64 1, .string ⟨#[97]⟩, .int .i64 0, .string ⟨#[]⟩, .int .i64 0, .int .i64 0, .int .i64 2, .string ⟨#[97]⟩, .int .i64 0, .string ⟨#[]⟩, .int .i64 0, .int .i64 0, .int .i64 4, .string ⟨#[97]⟩, .int .i64 0, .string ⟨#[]⟩, .int .i64 0, .int .i64 1] 53))
       have hbw5 := hbw4.alloc hbw4.size (.cells #[.int .i64 1, .string ⟨#[97]⟩, .int .i64 0, .string ⟨#[]⟩, .int .i64 0, .int .i64 0, .int .i64 2, .string ⟨#[97]⟩, .int .i64 0, .string ⟨#[]⟩, .int .i64 0, .int .i64 0, .int .i64 4, .string ⟨#[97]⟩, .int .i64 0, .string ⟨#[]⟩, .int .i64 0, .int .i64 1] 53))
    | (go_at_call 26
       refine HN.out.mono ?_
       rintro e w1 ⟨rfl, hI0, hb1⟩
       have hI1 : IdxB w1 w.heap.size w.heap.size [] := ⟨Nat.le_refl _, none, hI0, fun b e => by cases e⟩))
  go_ret
  exact ⟨rfl, hbw6⟩
end Go.Proofs.YtdmejcfnolhplaaGreat.Judge
/-
  The walk of JudgeReads, if the program's Accept, Clashes and Last tell what they have to. Condition: those premises.
-/
namespace Go.Proofs.YtdmejcfnolhplaaGreat.Judge
open Go Go.RowKit Go.Lib Go.Sort Go.Proofs.YtdmejcfnolhplaaGreat.Label Go.Proofs.YtdmejcfnolhplaaGreat.Span Go.Proofs.YtdmejcfnolhplaaGreat.Need Go.Proofs.YtdmejcfnolhplaaGreat.Mani Go.Proofs.YtdmejcfnolhplaaGreat.Depot Go.Proofs.YtdmejcfnolhplaaGreat.Index Go.Proofs.YtdmejcfnolhplaaGreat.Reach Go.Proofs.YtdmejcfnolhplaaGreat.Fit Go.Proofs.YtdmejcfnolhplaaGreat.Term Go.Proofs.YtdmejcfnolhplaaGreat.Clash Go.Proofs.YtdmejcfnolhplaaGreat.Proof
open Go.Proofs.YtdmejcfnolhplaaGreat.Fact (OkX AskX okX_puts FcIn FcOn FinC sameC_yes)
set_option linter.unusedVariables false
theorem namesJ9 {l : List Nd} (h : Fine l) : Names9 l := fun q hq => by have := h.2 q hq; omega
theorem clash_inv {X : List Kn} {root : List Nd} (hX : OkX X) (h8 : EightX X) (hok : okS root = true) {whole : List Sp} : ∀ (r : List Sp) (o : List (List Tm)), (∀ s ∈ r, s ∈ whole ∧ ∃ i, mayS s i = true) → (∀ d ∈ o, InvC (prsS X root whole) (nmsS X root whole) d) → ∀ d ∈ clashC X root r o, InvC (prsS X root whole) (nmsS X root whole) d
  | [], o, _, ho => ho
  | s :: r, o, hr, ho => by
    rw [clashC]
    obtain ⟨hs, i, hm⟩ := hr s (by simp)
    cases e : oneC X root s o with
    | none => exact ho
    | some c =>
      refine clash_inv hX h8 hok r (o ++ [c]) (fun q hq => hr q (by simp [hq])) (fun d hd => ?_)
      rcases List.mem_append.1 hd with hd | hd
      · exact ho d hd
      · rw [List.mem_singleton.1 hd]; exact inv_one hX h8 hok hs hm ho e
theorem clash_fin {X : List Kn} {root : List Nd} (hX : OkX X) (h8 : EightX X) (hok : okS root = true) {l : List Sp} (ho : okPf l = true) (hn : l.length ≤ 120) : ∀ d ∈ clashC X root l [], FinC d ∧ OkC d ∧ FewC d := fun d hd => by
  obtain ⟨_, hst, _⟩ := okPf_steps ho
  have hmay : ∀ s ∈ l, ∃ i, mayS s i = true := fun s hs => by
    obtain ⟨i, hi, e⟩ := List.mem_iff_getElem.1 hs
    exact ⟨i, hst i s (by rw [← e]; simp)⟩
  have hi := clash_inv hX h8 hok l [] (fun s hs => ⟨hs, hmay s hs⟩) (fun d hd => by cases hd) d hd
  have hf := inv_fine hX h8 hok hmay hn hi
  have hok2 : ∀ t ∈ d, okT t = true := fun t ht => (hi.1.2 t ht).1
  refine ⟨⟨fun t ht => ?_, by omega, fun t ht => ok_set (hok2 t ht)⟩, hi.1, hok2, hf⟩
  have := sumC_mem ht
  omega
def skipJ (l : List En) (root : List Nd) (s : List Sp) : Bool := largeE l || (large root || (!okS root || largeJ s))
set_option maxHeartbeats 4000000 in
set_option maxRecDepth 100000 in
theorem jreads_skip (SA : SpecAcceptJ) (l : List En) (root : List Nd) (s : List Sp) (A0 A1 A2 : Option Addr) (n0 c0 n1 c1 n2 c2 : Nat) (w : World) (h : EnOn w A0 n0 l) (h' : NdOn w A1 n1 root) (h'' : PfOn w A2 n2 s) (hn : n0 ≤ 9223372036854775807) (hn' : n1 ≤ 9223372036854775807) (hn'' : n2 ≤ 9223372036854775807) (hsk : skipJ l root s = true) :
    Calls Tryz.prog 3 #[.slice A0 n0 c0, .slice A1 n1 c1, .slice A2 n2 c2] w fun e w' => e = .returned (.bool true) ∧ Below w.heap.size w w' := by
  have hb0 : Below w.heap.size w w := Below.refl _ _
  have HW := hide (fun wx => awakeJ_any SA wx)
  have HL := hide (fun (wx : World) (hb : Below w.heap.size w wx) => largeE_any l A0 n0 c0 wx (h.on hb) (by omega))
  unfold Tells at HL
  have HR := hide (fun (wx : World) (hb : Below w.heap.size w wx) => large_any root A1 n1 c1 wx (h'.on hb) (by omega))
  have HJ := hide (fun (wx : World) (hb : Below w.heap.size w wx) => (show Calls Tryz.prog 8 #[.slice A2 n2 c2] wx fun e w' => e = .returned (.bool (largeJ s)) ∧ Below wx.heap.size wx w' from (largeJ_any s A2 n2 c2 wx (h''.on hb) hn'').mono fun _ _ ⟨e1, e2⟩ => ⟨e1, by rw [e2]; exact Below.refl _ _⟩))
  clear SA
  cases g1 : largeE l with
  | true =>
    rw [g1] at HL
    clear h h' h'' hn hn' hn'' hsk HR HJ
    go_enter Tryz.func3, Tryz.ntmps3
    go_wp2_with (first
      | (go_at_call 9
         refine (HW.out _).mono ?_
         rintro e w9 ⟨rfl, hb9⟩
         have hbe := hb1.trans (hb9.mono hb1.size))
      | (go_at_call 5
         refine (HL.out _ hb0).mono ?_
         rintro e w1 ⟨rfl, hb1x⟩
         have hb1 := hb0.trans (hb1x.mono hb0.size)))
    go_ret
    exact ⟨rfl, hbe⟩
  | false =>
  rw [g1] at HL
  cases g2 : large root with
  | true =>
    rw [g2] at HR
    clear h h' h'' hn hn' hn'' hsk HJ
    go_enter Tryz.func3, Tryz.ntmps3
    go_wp2_with (first
      | (go_at_call 9
         refine (HW.out _).mono ?_
         rintro e w9 ⟨rfl, hb9⟩
         have hbe := hb2.trans (hb9.mono hb2.size))
      | (go_at_call 6
         refine (HR.out _ hb1).mono ?_
         rintro e w2 ⟨rfl, hb2x⟩
         have hb2 := hb1.trans (hb2x.mono hb1.size))
      | (go_at_call 5
         refine (HL.out _ hb0).mono ?_
         rintro e w1 ⟨rfl, hb1x⟩
         have hb1 := hb0.trans (hb1x.mono hb0.size)))
    go_ret
    exact ⟨rfl, hbe⟩
  | false =>
  rw [g2] at HR
  have hfn := fine_of g2
  have hn40 : n1 ≤ 40 := by rw [← h'.len]; exact hfn.1
  have HK := hide (fun (wx : World) (hb : Below w.heap.size w wx) => refCheckN_any root A1 n1 c1 wx (h'.on hb) (namesJ9 hfn) (by omega))
  cases g3 : okS root with
  | false =>
    rw [g3] at HK
    clear h h' h'' hn hn' hn'' hsk hfn hn40 HJ
    go_enter Tryz.func3, Tryz.ntmps3
    go_wp2_with (first
      | (go_at_call 9
         refine (HW.out _).mono ?_
         rintro e w9 ⟨rfl, hb9⟩
         have hbe := hb3.trans (hb9.mono hb3.size))
      | (go_at_call 7
         refine (HK.out _ hb2).mono ?_
         rintro e w3 ⟨rfl, hb3x⟩
         have hb3 := hb2.trans (hb3x.mono hb2.size))
      | (go_at_call 6
         refine (HR.out _ hb1).mono ?_
         rintro e w2 ⟨rfl, hb2x⟩
         have hb2 := hb1.trans (hb2x.mono hb1.size))
      | (go_at_call 5
         refine (HL.out _ hb0).mono ?_
         rintro e w1 ⟨rfl, hb1x⟩
         have hb1 := hb0.trans (hb1x.mono hb0.size)))
    go_ret
    exact ⟨rfl, hbe⟩
  | true =>
  rw [g3] at HK
  have g4 : largeJ s = true := by
    unfold skipJ at hsk
    rw [g1, g2, g3] at hsk
    simpa using hsk
  rw [g4] at HJ
  clear h h' h'' hn hn' hn'' hsk hfn hn40
  go_enter Tryz.func3, Tryz.ntmps3
  go_wp2_with (first
    | (go_at_call 9
       refine (HW.out _).mono ?_
       rintro e w9 ⟨rfl, hb9⟩
       have hbe := hb4.trans (hb9.mono hb4.size))
    | (go_at_call 8
       refine (HJ.out _ hb3).mono ?_
       rintro e w4 ⟨rfl, hb4x⟩
       have hb4 := hb3.trans (hb4x.mono hb3.size))
    | (go_at_call 7
       refine (HK.out _ hb2).mono ?_
       rintro e w3 ⟨rfl, hb3x⟩
       have hb3 := hb2.trans (hb3x.mono hb2.size))
    | (go_at_call 6
       refine (HR.out _ hb1).mono ?_
       rintro e w2 ⟨rfl, hb2x⟩
       have hb2 := hb1.trans (hb2x.mono hb1.size))
    | (go_at_call 5
       refine (HL.out _ hb0).mono ?_
       rintro e w1 ⟨rfl, hb1x⟩
       have hb1 := hb0.trans (hb1x.mono hb0.size)))
  go_ret
  exact ⟨rfl, hbe⟩
set_option maxHeartbeats 8000000 in
set_option maxRecDepth 100000 in
theorem jreads_main (SA : SpecAcceptJ) (SC : SpecClashesJ) (SL : SpecLastJ) (l : List En) (root : List Nd) (s : List Sp) (A0 A1 A2 : Option Addr) (n0 c0 n1 c1 n2 c2 : Nat) (w : World) (h : EnOn w A0 n0 l) (h' : NdOn w A1 n1 root) (h'' : PfOn w A2 n2 s) (hn : n0 ≤ 9223372036854775807) (hn' : n1 ≤ 9223372036854775807) (hn'' : n2 ≤ 9223372036854775807) (hc2 : n2 ≤ c2) (hsk : skipJ l root s = false) :
    Calls Tryz.prog 3 #[.slice A0 n0 c0, .slice A1 n1 c1, .slice A2 n2 c2] w fun e w' => e = .returned (.bool true) ∧ Below w.heap.size w w' := by
  unfold skipJ at hsk
  simp only [Bool.or_eq_false_iff, Bool.not_eq_false'] at hsk
  obtain ⟨g1, g2, g3, g4⟩ := hsk
  have hb0 : Below w.heap.size w w := Below.refl _ _
  have HW := hide (fun wx => awakeJ_any SA wx)
  have HL := hide (fun (wx : World) (hb : Below w.heap.size w wx) => largeE_any l A0 n0 c0 wx (h.on hb) (by omega))
  unfold Tells at HL
  have HR := hide (fun (wx : World) (hb : Below w.heap.size w wx) => large_any root A1 n1 c1 wx (h'.on hb) (by omega))
  have HJ := hide (fun (wx : World) (hb : Below w.heap.size w wx) => (show Calls Tryz.prog 8 #[.slice A2 n2 c2] wx fun e w' => e = .returned (.bool (largeJ s)) ∧ Below wx.heap.size wx w' from (largeJ_any s A2 n2 c2 wx (h''.on hb) hn'').mono fun _ _ ⟨e1, e2⟩ => ⟨e1, by rw [e2]; exact Below.refl _ _⟩))
  rw [g1] at HL
  rw [g2] at HR
  rw [g4] at HJ
  have hfn := fine_of g2
  have hn40 : n1 ≤ 40 := by rw [← h'.len]; exact hfn.1
  have HK := hide (fun (wx : World) (hb : Below w.heap.size w wx) => refCheckN_any root A1 n1 c1 wx (h'.on hb) (namesJ9 hfn) (by omega))
  rw [g3] at HK
  obtain ⟨hs120, hsn⟩ := largeJ_no g4
  have hslen := h''.len
  have hn120 : n2 ≤ 120 := by omega
  obtain ⟨h30, hs⟩ := fineE_of g1
  obtain ⟨hr, hf, hsh, hXl⟩ := take_bounds l l.length h30 hs
  rw [List.take_of_length_le (Nat.le_refl _)] at hr hf hsh hXl
  have hX : OkX (putsX [] l) := okX_puts hf (by omega)
  have h8 : EightX (putsX [] l) := EightX.nil.puts l
  have hlen := h.len
  have HIO := hide (fun (wx : World) (hb : Below w.heap.size w wx) => indexOf_any l A0 n0 c0 wx (h.on hb) (by omega) fun e he => by have := hs e he; omega)
  have HIR := hide (fun (wx : World) (hb : Below w.heap.size w wx) => refOfX_any l A0 n0 c0 wx (h.on hb) (by omega) fun e he => by have := hs e he; omega)
  generalize putsX [] l = X at *
  have HN := hide (fun (wx : World) (hb : Below w.heap.size w wx) => (show NdOn wx A1 n1 root ∧ PfOn wx A2 n2 s from ⟨h'.on hb, h''.on hb⟩))
  have HPc := hide (fun (wx : World) (hb : Below w.heap.size w wx) => refCheckPf_any s A2 n2 c2 wx (h''.on hb) hsn (by omega))
  have HF := hide (fun (ho : okPf s = true) => clash_fin (root := root) hX h8 g3 ho hs120)
  have HX0 := hide hX
  have H80 := hide h8
  clear h hs hr hf hsh hXl hlen h30 h' hn hn' hn'' hfn g1 g2 g4 h'' hX h8
  go_enter Tryz.func3, Tryz.ntmps3
  go_upto_region 3 with (first
    | (go_at_call 8
       refine (HJ.out _ hb3).mono ?_
       rintro e w4 ⟨rfl, hb4x⟩
       have hb4 := hb3.trans (hb4x.mono hb3.size))
    | (go_at_call 7
       refine (HK.out _ hb2).mono ?_
       rintro e w3 ⟨rfl, hb3x⟩
       have hb3 := hb2.trans (hb3x.mono hb2.size))
    | (go_at_call 6
       refine (HR.out _ hb1).mono ?_
       rintro e w2 ⟨rfl, hb2x⟩
       have hb2 := hb1.trans (hb2x.mono hb1.size))
    | (go_at_call 5
       refine (HL.out _ hb0).mono ?_
       rintro e w1 ⟨rfl, hb1x⟩
       have hb1 := hb0.trans (hb1x.mono hb0.size)))
  clear HL HR HK HJ hb1x hb2x hb3x hb4x hb1 hb2 hb3
  go_upto_region 4 with (first
    | (go_at_call 10
       refine (HIO.out _ hb4).mono ?_
       rintro e w5 ⟨g, rfl, hI5, hb5x⟩
       have hb5 := hb4.trans (hb5x.mono hb4.size)))
  go_upto_region 5 with (first
    | (go_at_call 11
       refine (HIR.out _ hb5).mono ?_
       rintro e w6 ⟨Ax, nx, cx, rfl, hK6, hb6x⟩
       have hb6 := hb5.trans (hb6x.mono hb5.size)
       have hI6 := hI5.below hb6x))
  obtain ⟨V, hV⟩ : ∃ W, W = w6.alloc (.cells #[.slice Ax nx cx] 33) := ⟨_, rfl⟩
  obtain ⟨gX, hgX⟩ : ∃ g, g = w6.heap.size := ⟨_, rfl⟩
  have hA7 : Below w6.heap.size w6 V := by rw [hV]; exact Proof.alloc_b _ _
  have hBx : Blk V gX 33 #[.slice Ax nx cx] := by rw [hV, hgX]; exact Blk.new _ _ _
  have hbV : Below w.heap.size w V := hb6.trans (hA7.mono hb6.size)
  have hIV := hI6.below hA7
  have hKV := hK6.below hA7
  have HASK : Hid (AskX X (.pointer (some ⟨g, 0, none⟩)) V) := hide ⟨⟨_, rfl⟩, tells_idx hIV HX0.out.fine, HX0.out⟩
  have hNV := HN.out _ hbV
  have HQ := hide (fun (wx : World) (hx : Below V.heap.size V wx) => (show wx.cell? ⟨gX, 0, none⟩ = some (Value.slice Ax nx cx) from ((hBx.below hx hBx.lt).cell 0).trans rfl))
  have CA := hide (fun (wx : World) (hx : Below V.heap.size V wx) => SA X root s (.pointer (some ⟨g, 0, none⟩)) A1 A2 n1 c1 n2 c2 wx (HASK.out.on hx) H80.out (hNV.1.on hx) hn40 g3 (hNV.2.on hx) hc2 hsn hn120)
  have DA := hide (fun (wx : World) (hx : Below V.heap.size V wx) => refAccept_any X root s Ax A1 A2 nx cx n1 c1 n2 c2 wx (hKV.below hx) HX0.out H80.out (hNV.1.on hx) hn40 g3 (hNV.2.on hx) hsn hn120)
  have CC := hide (fun (wx : World) (hx : Below V.heap.size V wx) (ho : okPf s = true) => SC X root s (.pointer (some ⟨g, 0, none⟩)) A1 A2 n1 c1 n2 c2 wx (HASK.out.on hx) H80.out (hNV.1.on hx) hn40 g3 (hNV.2.on hx) hc2 ho hn120)
  have DC := hide (fun (wx : World) (hx : Below V.heap.size V wx) (ho : okPf s = true) => refClashes_any X root s Ax A1 A2 nx cx n1 c1 n2 c2 wx (hKV.below hx) HX0.out H80.out (hNV.1.on hx) hn40 g3 (hNV.2.on hx) (okPf_steps ho).2.1 hn120)
  have CL := hide (fun (wx : World) (hx : Below V.heap.size V wx) (ho : okPf s = true) => SL X root s (.pointer (some ⟨g, 0, none⟩)) A1 A2 n1 c1 n2 c2 wx (HASK.out.on hx) H80.out (hNV.1.on hx) hn40 g3 (hNV.2.on hx) hc2 ho hn120)
  have up := hide (fun (wx : World) (hx : Below V.heap.size V wx) => hbV.trans (hx.mono hbV.size))
  have kdV : Below V.heap.size V V.drew := (Below.refl _ _).drew
  have q0 := HQ.out _ (Below.refl _ _)
  generalize acceptB X root s = ac at *
  have hac : (ac != ac) = false := bne_self_eq_false ac
  try rw [← hgX]
  try rw [← hV]
  clear hV hgX hA7 hBx hb4 hb5 hb6 hb5x hb6x hI5 hI6 hIV hK6 hKV HIO HIR HX0 H80 HASK hNV HN SA SC SL g3 hsn
  go_region_held3 (fun w' => w'.cell? ⟨gX, 0, none⟩ = some (Value.slice Ax nx cx)) (first | exact HQ.out _ hk8 | exact HQ.out _ hk7 | exact HQ.out _ kdV | go_keep)
    (first
      | (go_at_call 12
         refine (CA.out _ kdV).mono ?_
         rintro e w7 ⟨rfl, hb7x⟩
         have hk7 : Below V.heap.size V w7 := kdV.trans hb7x)
      | (go_at_call 13
         refine (DA.out _ hk7).mono ?_
         rintro e w8 ⟨rfl, hb8x⟩
         have hk8 : Below V.heap.size V w8 := hk7.trans (hb8x.mono hk7.size)))
  all_goals
    have q8 := HQ.out _ hk8
    have hbw8 := up.out _ hk8
    clear q0 kdV hk7 hb7x hb8x CA DA
    cases ho : okPf s with
    | false =>
      rw [ho] at HPc
      clear ho CC DC CL HF
      go_wp2_with (first
        | (go_at_call 14
           refine (HPc.out _ hbw8).mono ?_
           rintro e w9 ⟨rfl, hb9x⟩
           have hbw9 := hbw8.trans (hb9x.mono hbw8.size))
        | (go_at_call 9
           refine (HW.out _).mono ?_
           rintro e w10 ⟨rfl, hb10x⟩
           have hbe := hbw9.trans (hb10x.mono hbw9.size)))
      go_ret
      exact ⟨rfl, hbe⟩
    | true =>
      rw [ho] at HPc
      have HFo := hide (HF.out ho)
      have CCo := hide (fun (wx : World) (hx : Below V.heap.size V wx) => CC.out wx hx ho)
      have DCo := hide (fun (wx : World) (hx : Below V.heap.size V wx) => DC.out wx hx ho)
      have CLo := hide (fun (wx : World) (hx : Below V.heap.size V wx) => CL.out wx hx ho)
      unfold lastC at CLo
      have hs1 : 1 ≤ n2 := by have := (okPf_steps ho).2.2; omega
      have HSl := hide hslen
      rw [hslen] at CLo
      have hLn : (clashC X root s []).length ≤ n2 := by have := (clash_grows (X := X) (root := root) s []).2; simp only [List.length_nil] at this; omega
      generalize clashC X root s [] = L at *
      clear ho CC DC CL HF hslen hs120
      by_cases hall : L.length = n2
      · rw [decide_eq_true hall, if_pos hall] at CLo
        go_upto_region 12 with (first
          | (go_at_call 14
             refine (HPc.out _ hbw8).mono ?_
             rintro e w9 ⟨rfl, hb9x⟩
             have hk9 : Below V.heap.size V w9 := hk8.trans ((hb9x).mono hk8.size)
             have q9 := HQ.out _ hk9)
          | (go_at_call 15
             refine (CCo.out _ hk9).mono ?_
             rintro e w10 ⟨A10, n10, c10, rfl, hc10, h10, hb10x⟩
             have hk10 : Below V.heap.size V w10 := hk9.trans (hb10x.mono hk9.size)
             have q10 := HQ.out _ hk10)
          | (go_at_call 16
             refine (DCo.out _ hk10).mono ?_
             rintro e w11 ⟨A11, n11, c11, rfl, hc11, h11, hb11x⟩
             have hk11 : Below V.heap.size V w11 := hk10.trans (hb11x.mono hk10.size)
             have h10b := FcOn.on h10 hb11x)
          | (go_at_call 17
             refine (CLo.out _ hk11).mono ?_
             rintro e w12 ⟨A12, n12, c12, rfl, h12, hb12x⟩
             have hk12 : Below V.heap.size V w12 := hk11.trans (hb12x.mono hk11.size)
             have h10c := FcOn.on h10b hb12x
             have h11c := FcOn.on h11 hb12x))
        have hl10 := FcIn.len h10c
        have hl11 := FcIn.len h11c
        obtain rfl : n10 = n11 := by omega
        have hbw12 := up.out _ hk12
        have e1 : ((n10 : Int) != (n10 : Int)) = false := bne_self_eq_false _
        have HLoop : Hid (∀ d, d ∈ L → FinC d) := hide (fun d hd => (HFo.out d hd).1)
        have HSame := hide (fun (d : List Tm) (hd : FinC d) (Aa Ab : Option Addr) (na ca nb cb : Nat) (wx : World) (ha : TmOn wx Aa na d) (hb : TmOn wx Ab nb d) => sameC_yes d Aa Ab na ca nb cb wx ha hb hd)
        clear h10 h10b h11 hb9x hb10x hb11x hb12x q8 q9 q10 hk8 hk9 hk10 hk11 CCo DCo CLo HPc hl10 HFo HQ up
        obtain rfl : n10 = n2 := by omega
        obtain ⟨m, hm⟩ : ∃ m, m = n10 - 1 := ⟨_, rfl⟩
        have hmn : m < n10 := by omega
        rw [← hm] at h12
        obtain ⟨ad', cc, A3, n3, c3, rfl, hbl, hx, ht, q3⟩ := FcIn.at_ h11c hmn
        rw [hx] at h12
        have h12' : TmOn w12 A12 n12 cc := h12
        have hfin := HLoop.out cc (List.mem_of_getElem? hx)
        have HSc := hide (HSame.out cc hfin A12 A3 n12 c12 n3 c3 w12 h12' ht)
        have w0 : IntKind.i64.wrap ((n10 : Int) - 1) = (m : Int) := by rw [IntKind.wrap_i64]; omega
        have hm1 : (0 : Int) ≤ (m : Int) := by omega
        have hm2 : (m : Int) < (n10 : Int) := by omega
        have e2 : ((n10 : Int) == (n10 : Int)) = true := beq_self_eq_true _
        clear hm hx ht h12 h12' hfin hall hl11 HSl hbl hLn
        go_wp2_with (first
          | (go_at_call 18
             refine HSc.out.mono ?_
             rintro e w13 ⟨rfl, hb13x⟩
             have hbZ := hbw12.trans (hb13x.mono hbw12.size)
             have hX1 := FcOn.on h10c hb13x
             have hX2 := FcOn.on h11c hb13x))
        clear q3 w0 hm1 hm2 HSc h10c h11c
        go_loopw [14] (fun v wr => ∃ i : Nat, i ≤ n10 ∧ v = .int .i64 (i : Int) ∧ Below w13.heap.size w13 wr) (fun v _ => n10 - (RowKit.intOf v).toNat)
        case atStart => exact ⟨0, by omega, rfl, Below.refl _ _⟩
        case round =>
          obtain ⟨i, hi, rfl, hb⟩ := hrel
          have hbs := hb.size
          by_cases hlt : i < n10
          · obtain ⟨ad, d, Aa, na, ca, rfl, hbl, hx, ht, q1⟩ := FcIn.at_ (FcOn.on hX1 hb) hlt
            obtain ⟨ad2, d', Ab, nb, cb, eB, hbl', hx', ht', q2⟩ := FcIn.at_ (FcOn.on hX2 hb) hlt
            injection eB with eB
            subst eB
            obtain rfl : d = d' := by rw [hx] at hx'; injection hx'
            have hfin := HLoop.out d (List.mem_of_getElem? hx)
            have hd0 : Below wr.heap.size wr wr.drew := (Below.refl _ _).drew
            have HSm := hide (fun (wx : World) (hbx : Below wr.heap.size wr wx) => HSame.out d hfin Aa Ab na ca nb cb wx (TmOn.on ht hbx) (TmOn.on ht' hbx))
            have HCc := hide (fun (wx : World) (hbx : Below wr.heap.size wr wx) => (show wx.cell? (ad.add i) = some (.slice Aa na ca) ∧ wx.cell? (ad'.add i) = some (.slice Ab nb cb) from ⟨(hbx.cell (p := ad.add i) (by rw [block_of_add]; exact hbl)).trans q1, (hbx.cell (p := ad'.add i) (by rw [block_of_add]; exact hbl')).trans q2⟩))
            have hi1 : (0 : Int) ≤ (i : Int) := by omega
            have hi2 : (i : Int) < (n10 : Int) := by omega
            clear hx hx' ht ht' q1 q2 hfin HSame HLoop hX1 hX2 HW
            go_upto_region 17 with fail
            go_region_held3 (fun w' => w'.cell? (ad.add i) = some (.slice Aa na ca) ∧ w'.cell? (ad'.add i) = some (.slice Ab nb cb)) (first | exact HCc.out _ hk1 | exact HCc.out _ hd0 | go_keep)
              (first
                | (go_at_call 18
                   refine (HSm.out _ hd0).mono ?_
                   rintro e w14 ⟨rfl, hb14⟩
                   have hk1 : Below wr.heap.size wr w14 := hd0.trans hb14))
            all_goals
              go_wp2
              go_roundw
              case rel => exact ⟨i + 1, by omega, by go_num, hb.trans (hk1.mono hbs)⟩
              case measure => simp [RowKit.intOf]; omega
          · have hbz := hbZ.trans (hb.mono hbZ.size)
            clear hX1 hX2 HSame HLoop
            go_wp2_with (first
              | (go_at_call 9
                 refine (HW.out _).mono ?_
                 rintro e w15 ⟨rfl, hb15⟩
                 have hbe := hbz.trans (hb15.mono hbz.size)))
            go_ret
            exact ⟨rfl, hbe⟩
      · rw [decide_eq_false hall, if_neg hall] at CLo
        go_upto_region 12 with (first
          | (go_at_call 14
             refine (HPc.out _ hbw8).mono ?_
             rintro e w9 ⟨rfl, hb9x⟩
             have hk9 : Below V.heap.size V w9 := hk8.trans ((hb9x).mono hk8.size)
             have q9 := HQ.out _ hk9)
          | (go_at_call 15
             refine (CCo.out _ hk9).mono ?_
             rintro e w10 ⟨A10, n10, c10, rfl, hc10, h10, hb10x⟩
             have hk10 : Below V.heap.size V w10 := hk9.trans (hb10x.mono hk9.size)
             have q10 := HQ.out _ hk10)
          | (go_at_call 16
             refine (DCo.out _ hk10).mono ?_
             rintro e w11 ⟨A11, n11, c11, rfl, hc11, h11, hb11x⟩
             have hk11 : Below V.heap.size V w11 := hk10.trans (hb11x.mono hk10.size)
             have h10b := FcOn.on h10 hb11x)
          | (go_at_call 17
             refine (CLo.out _ hk11).mono ?_
             rintro e w12 ⟨A12, n12, c12, rfl, h12, hb12x⟩
             have hk12 : Below V.heap.size V w12 := hk11.trans (hb12x.mono hk11.size)
             have h10c := FcOn.on h10b hb12x
             have h11c := FcOn.on h11 hb12x))
        have hl10 := FcIn.len h10c
        have hl11 := FcIn.len h11c
        obtain rfl : n10 = n11 := by omega
        have hbw12 := up.out _ hk12
        have e1 : ((n10 : Int) != (n10 : Int)) = false := bne_self_eq_false _
        have HLoop : Hid (∀ d, d ∈ L → FinC d) := hide (fun d hd => (HFo.out d hd).1)
        have HSame := hide (fun (d : List Tm) (hd : FinC d) (Aa Ab : Option Addr) (na ca nb cb : Nat) (wx : World) (ha : TmOn wx Aa na d) (hb : TmOn wx Ab nb d) => sameC_yes d Aa Ab na ca nb cb wx ha hb hd)
        clear h10 h10b h11 hb9x hb10x hb11x hb12x q8 q9 q10 hk8 hk9 hk10 hk11 CCo DCo CLo HPc hl10 HFo HQ up
        have e2 : ((n10 : Int) == (n2 : Int)) = false := beq_eq_false_iff_ne.2 (by omega)
        have hn10 : n10 ≤ 120 := by omega
        obtain rfl : n12 = 0 := by have := TmIn.len h12; simpa using this.symm
        have hbZ := hbw12
        have hX1 := h10c
        have hX2 := h11c
        clear h12 hall hl11 HSl h10c h11c hLn
        go_wp2
        go_loopw [14] (fun v wr => ∃ i : Nat, i ≤ n10 ∧ v = .int .i64 (i : Int) ∧ Below w12.heap.size w12 wr) (fun v _ => n10 - (RowKit.intOf v).toNat)
        case atStart => exact ⟨0, by omega, rfl, Below.refl _ _⟩
        case round =>
          obtain ⟨i, hi, rfl, hb⟩ := hrel
          have hbs := hb.size
          by_cases hlt : i < n10
          · obtain ⟨ad, d, Aa, na, ca, rfl, hbl, hx, ht, q1⟩ := FcIn.at_ (FcOn.on hX1 hb) hlt
            obtain ⟨ad', d', Ab, nb, cb, rfl, hbl', hx', ht', q2⟩ := FcIn.at_ (FcOn.on hX2 hb) hlt
            obtain rfl : d = d' := by rw [hx] at hx'; injection hx'
            have hfin := HLoop.out d (List.mem_of_getElem? hx)
            have hd0 : Below wr.heap.size wr wr.drew := (Below.refl _ _).drew
            have HSm := hide (fun (wx : World) (hbx : Below wr.heap.size wr wx) => HSame.out d hfin Aa Ab na ca nb cb wx (TmOn.on ht hbx) (TmOn.on ht' hbx))
            have HCc := hide (fun (wx : World) (hbx : Below wr.heap.size wr wx) => (show wx.cell? (ad.add i) = some (.slice Aa na ca) ∧ wx.cell? (ad'.add i) = some (.slice Ab nb cb) from ⟨(hbx.cell (p := ad.add i) (by rw [block_of_add]; exact hbl)).trans q1, (hbx.cell (p := ad'.add i) (by rw [block_of_add]; exact hbl')).trans q2⟩))
            have hi1 : (0 : Int) ≤ (i : Int) := by omega
            have hi2 : (i : Int) < (n10 : Int) := by omega
            clear hx hx' ht ht' q1 q2 hfin HSame HLoop hX1 hX2 HW
            go_upto_region 17 with fail
            go_region_held3 (fun w' => w'.cell? (ad.add i) = some (.slice Aa na ca) ∧ w'.cell? (ad'.add i) = some (.slice Ab nb cb)) (first | exact HCc.out _ hk1 | exact HCc.out _ hd0 | go_keep)
              (first
                | (go_at_call 18
                   refine (HSm.out _ hd0).mono ?_
                   rintro e w14 ⟨rfl, hb14⟩
                   have hk1 : Below wr.heap.size wr w14 := hd0.trans hb14))
            all_goals
              go_wp2
              go_roundw
              case rel => exact ⟨i + 1, by omega, by go_num, hb.trans (hk1.mono hbs)⟩
              case measure => simp [RowKit.intOf]; omega
          · have hbz := hbZ.trans (hb.mono hbZ.size)
            clear hX1 hX2 HSame HLoop
            go_wp2_with (first
              | (go_at_call 9
                 refine (HW.out _).mono ?_
                 rintro e w15 ⟨rfl, hb15⟩
                 have hbe := hbz.trans (hb15.mono hbz.size)))
            go_ret
            exact ⟨rfl, hbe⟩
theorem jreads_walk (SA : SpecAcceptJ) (SC : SpecClashesJ) (SL : SpecLastJ) (l : List En) (root : List Nd) (s : List Sp) (A0 A1 A2 : Option Addr) (n0 c0 n1 c1 n2 c2 : Nat) (w : World) (h : EnOn w A0 n0 l) (h' : NdOn w A1 n1 root) (h'' : PfOn w A2 n2 s) (hn : n0 ≤ 9223372036854775807) (hn' : n1 ≤ 9223372036854775807) (hn'' : n2 ≤ 9223372036854775807) (hc2 : n2 ≤ c2) :
    Calls Tryz.prog 3 #[.slice A0 n0 c0, .slice A1 n1 c1, .slice A2 n2 c2] w fun e w' => e = .returned (.bool true) ∧ Below w.heap.size w w' := by
  cases hsk : skipJ l root s with
  | true => exact jreads_skip SA l root s A0 A1 A2 n0 c0 n1 c1 n2 c2 w h h' h'' hn hn' hn'' hsk
  | false => exact jreads_main SA SC SL l root s A0 A1 A2 n0 c0 n1 c1 n2 c2 w h h' h'' hn hn' hn'' hc2 hsk
end Go.Proofs.YtdmejcfnolhplaaGreat.Judge
