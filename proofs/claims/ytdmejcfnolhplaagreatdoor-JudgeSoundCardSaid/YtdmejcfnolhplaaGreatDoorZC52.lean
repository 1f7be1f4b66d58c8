/-
  Some texts of this claim, one behind the other: ReachAwake, FactAwake, JudgeAwake, JudgeSoundW. What each proves, and its condition, stands at its head.
-/
import Derived.Test.YtdmejcfnolhplaaGreatDoorZC50
import Derived.Test.YtdmejcfnolhplaaGreatDoorZC44
import Derived.Lib.SlBytesConst
import Derived.Lib.SmallJoins
import Derived.Test.YtdmejcfnolhplaaGreatDoorZC35
import Derived.Test.YtdmejcfnolhplaaGreatDoorZC45
import Derived.Test.YtdmejcfnolhplaaGreatDoorZC42
import Derived.Test.YtdmejcfnolhplaaGreatDoorZC41
import Derived.Test.YtdmejcfnolhplaaGreatDoorZC16
import Derived.Test.YtdmejcfnolhplaaGreatDoorZC18
import Derived.Test.YtdmejcfnolhplaaGreatDoorZC14
import Derived.Shelf.Abstract
import Derived.Test.YtdmejcfnolhplaaGreatDoorZC11
import Derived.Test.YtdmejcfnolhplaaGreatDoorZC9
import Derived.Deep.RegionHeld3
import Derived.Test.YtdmejcfnolhplaaGreatDoorZC23
import Derived.Test.YtdmejcfnolhplaaGreatDoorZC24
import Derived.Test.YtdmejcfnolhplaaGreatDoorZC29
import Derived.Test.YtdmejcfnolhplaaGreatDoorZC47
/-
  The chapter's example (awake): it holds. No condition.
-/
namespace Go.Proofs.YtdmejcfnolhplaaGreatDoor.Reach
open Go Go.RowKit Go.Lib Go.Sort Go.Proofs.YtdmejcfnolhplaaGreatDoor.Span Go.Proofs.YtdmejcfnolhplaaGreatDoor.Need Go.Proofs.YtdmejcfnolhplaaGreatDoor.Mani Go.Proofs.YtdmejcfnolhplaaGreatDoor.Wire Go.Proofs.YtdmejcfnolhplaaGreatDoor.Depot Go.Proofs.YtdmejcfnolhplaaGreatDoor.Index
set_option linter.unusedVariables false
theorem putF_any (g : Nat) (l : List Kn) (nm : ByteArray) (bd : List UInt8) (A : Option Addr) (n c B : Nat) (w : World) (h : IdxB w B g l) (hl : RisesK l) (hlen : l.length ≤ 100000) (hr : Reads w w.heap.size 1 A n (bcs bd)) (hd : ∀ ad, A = some ad → 0 < n → ∃ cur m, w.heap[ad.block]? = some (.cells cur 5 m)) (hnm : nm.size ≤ 1000000000) :
    Calls Tryz.prog 15 #[.pointer (some ⟨g, 0, none⟩), .string nm, .slice A n c] w fun e w' =>
      e = .returned (.int .i64 (errX l nm bd)) ∧ IdxB w' B g (putX l nm bd) ∧ Below B w w' := by
  have hle := h.le
  obtain ⟨h1, mo, h2, h3⟩ := h
  refine (putT_any g mo l nm bd A n c w h2 hl hlen hr hd hnm).mono ?_
  rintro e w' ⟨he, ⟨mo', h4, h5⟩, hg⟩
  refine ⟨he, ⟨h1, mo', h4, fun b hb => ?_⟩, (Below.refl _ _).grown hg hle (fun k hk => by injection hk with hk; rw [← hk]; exact IdxB.row h1 h3)⟩
  rcases h5 with rfl | ⟨_, b', e2, h6⟩
  · exact h3 b hb
  · rw [hb] at e2
    injection e2 with e2
    rw [e2]; exact Nat.le_trans hle h6
theorem spIn_one (w : World) (x y : Int) (B g : Nat) (h : Blk w g 53 #[.int .i64 x, .int .i64 y]) (hB : g < B) : SpIn w B (some ⟨g, 0, none⟩) 1 [(x, y)] :=
  ⟨rfl, fun _ => ⟨_, rfl, hB, fun i s hs => by
    rcases i with _ | i
    · simp at hs
      subst hs
      exact ⟨h.cell 0, h.cell 1⟩
    · simp at hs⟩⟩
end Go.Proofs.YtdmejcfnolhplaaGreatDoor.Reach
/-
  The chapter's examples (awake): they hold, if the program's Asked and Released tell what they have to. Condition: those two premises.
-/
namespace Go.Proofs.YtdmejcfnolhplaaGreatDoor.Fact
open Go Go.RowKit Go.Lib Go.Sort Go.Proofs.YtdmejcfnolhplaaGreatDoor.Span Go.Proofs.YtdmejcfnolhplaaGreatDoor.Need Go.Proofs.YtdmejcfnolhplaaGreatDoor.Mani Go.Proofs.YtdmejcfnolhplaaGreatDoor.Wire Go.Proofs.YtdmejcfnolhplaaGreatDoor.Depot Go.Proofs.YtdmejcfnolhplaaGreatDoor.Index Go.Proofs.YtdmejcfnolhplaaGreatDoor.Reach Go.Proofs.YtdmejcfnolhplaaGreatDoor.Term Go.Proofs.YtdmejcfnolhplaaGreatDoor.Clash Go.Proofs.YtdmejcfnolhplaaGreatDoor.Fit
open Go.Proofs.YtdmejcfnolhplaaGreatDoor.Vlq (enc hi_zero held)
open Go.Proofs.YtdmejcfnolhplaaGreatDoor.Label (runes fitL)
set_option linter.unusedVariables false
def fyN : List Nd := [(str [97], [(0, 1000000000)])]
theorem fy_root : okS fyN = true := by
  have h1 : nlt ByteArray.empty (str [97]) = true := by
    rw [show ByteArray.empty = str [] from rfl, nlt_str]
    decide
  unfold okS
  rw [show okFrom ByteArray.empty fyN = ((fitL (runes (str [97]) 0) && nlt ByteArray.empty (str [97]) && (isSet (-1) [((0 : Int), (1000000000 : Int))] && decide (([((0 : Int), (1000000000 : Int))] : List S).length ≤ 6))) && true) from rfl, fit_one, h1]
  decide
theorem not_all : notS allS = [] := nf_nil.2 fun p h0 h1 => by
  show (!has allS p) = false
  rw [a_has h0 h1]
  rfl
theorem not_none : notS [] = allS := (is_nf allS_set fun p h0 h1 => by
  show has allS p = (!has [] p)
  rw [a_has h0 h1]
  rfl).symm
theorem vers_none : versS [] = [] := nf_nil.2 fun p _ _ => rfl
theorem make_one {t : Tm} (h1 : emptyT t = false) (h2 : fullT t = false) : makeC [t] = some [t] := by
  unfold makeC putsC
  have e : List.foldl (fun c t => putC t false c) [] [t] = [t] := by simp [putC]
  rw [e]
  simp [h1, h2]
theorem fy_asked : askedC fyN (str [97]) = some [⟨str [97], [], true⟩] := by
  unfold askedC
  rw [show findS fyN (str [97]) = some allS from rfl]
  show makeC [⟨str [97], notS allS, true⟩] = _
  rw [not_all]
  exact make_one rfl (by decide)
theorem ndOn_fy (w : World) (g g2 : Nat) (h : Blk w g 53 #[.int .i64 0, .int .i64 1000000000]) (h2 : Blk w g2 46 #[.string (str [97]), .slice (some ⟨g, 0, none⟩) 1 1]) : NdOn w (some ⟨g2, 0, none⟩) 1 fyN := by
  refine ⟨[(str [97], .slice (some ⟨g, 0, none⟩) 1 1)], ⟨rfl, fun _ => ⟨_, rfl, h2.lt, fun j u hu => ?_⟩⟩, rfl, fun i r q hr hq => ?_⟩
  · rcases j with _ | j
    · simp [rcs] at hu
      subst hu
      exact h2.cell 0
    · rcases j with _ | j
      · simp [rcs] at hu
        subst hu
        exact h2.cell 1
      · simp [rcs] at hu
  · rcases i with _ | i
    · simp [fyN] at hr hq
      subst hr hq
      exact ⟨rfl, _, 1, 1, rfl, spIn_one w 0 1000000000 _ g h h.lt⟩
    · simp at hr
end Go.Proofs.YtdmejcfnolhplaaGreatDoor.Fact
/-
  The chapter's example (awake) of judging: it holds, if the program's Accept tells what it has to. Condition: that premise.
-/
namespace Go.Proofs.YtdmejcfnolhplaaGreatDoor.Judge
open Go Go.RowKit Go.Lib Go.Sort Go.Proofs.YtdmejcfnolhplaaGreatDoor.Label Go.Proofs.YtdmejcfnolhplaaGreatDoor.Span Go.Proofs.YtdmejcfnolhplaaGreatDoor.Need Go.Proofs.YtdmejcfnolhplaaGreatDoor.Mani Go.Proofs.YtdmejcfnolhplaaGreatDoor.Wire Go.Proofs.YtdmejcfnolhplaaGreatDoor.Depot Go.Proofs.YtdmejcfnolhplaaGreatDoor.Index Go.Proofs.YtdmejcfnolhplaaGreatDoor.Reach Go.Proofs.YtdmejcfnolhplaaGreatDoor.Pick Go.Proofs.YtdmejcfnolhplaaGreatDoor.Fit Go.Proofs.YtdmejcfnolhplaaGreatDoor.Term Go.Proofs.YtdmejcfnolhplaaGreatDoor.Clash Go.Proofs.YtdmejcfnolhplaaGreatDoor.Proof
open Go.Proofs.YtdmejcfnolhplaaGreatDoor.Vlq (enc hi_zero held)
open Go.Proofs.YtdmejcfnolhplaaGreatDoor.Fact (OkX AskX askedC releasedC fyN fy_root fy_asked ndOn_fy not_none vers_none make_one)
set_option linter.unusedVariables false
def jyB : List UInt8 := [1, 97, 0]
def jyX : List Kn := [(str [97], ([], true))]
theorem jy_ok : okM (str [97]) [] = true := by
  unfold okM
  rw [fit_one]
  decide
theorem jy_put : putB (str [97]) [] = jyB := by
  unfold putB
  rw [if_pos jy_ok]
  have e02 : held 0 = 0 := by decide
  have e12 : encN 0 = [0] := by unfold encN; rw [e02]; unfold enc; rw [show 0 / 128 = 0 from rfl, hi_zero]; rfl
  have e2 : enc 1 = [1] := by unfold enc; rw [show 1 / 128 = 0 from rfl, hi_zero]; rfl
  have e3 : textB (str [97]) = [1, 97] := by
    unfold textB
    rw [show (str [97]).size = 1 from rfl, e2]
    rfl
  simp only [manB, listB, flat_nil, e3, List.length_nil, show ((0 : Nat) : Int) = 0 from rfl, e12]
  rfl
theorem jy_good : goodE (str [97]) jyB = true ∧ relE (str [97]) jyB = [] := by rw [← jy_put]; exact good_put jy_ok
theorem jy_err : errX [] (str [97]) jyB = 0 := by
  rw [errX_zero]
  refine ⟨?_, rfl⟩
  unfold mayX
  rw [fit_one]
  decide
theorem jy_puts : putX [] (str [97]) jyB = jyX := by
  unfold putX
  rw [if_pos jy_err]
  unfold valX
  rw [jy_good.1, jy_good.2]
  rfl
theorem jy_at : atX jyX (str [97]) = some ([], true) := by unfold jyX; rw [atX, if_pos rfl]
theorem jy_okX : OkX jyX := by
  refine ⟨?_, ?_, ?_, ?_, by decide, fun q hq => by rw [List.mem_singleton.1 hq]; exact List.Pairwise.nil⟩
  · intro q hq
    rw [List.mem_singleton.1 hq]
    exact ⟨by decide, fun p hp => by cases hp⟩
  · intro q hq
    rw [List.mem_singleton.1 hq]
    exact fun r hr => by cases hr
  · intro q hq
    rw [List.mem_singleton.1 hq]
    exact fun r hr => by cases hr
  · intro q hq
    rw [List.mem_singleton.1 hq]
    exact fit_one
theorem jy_eight : EightX jyX := fun q hq => by rw [List.mem_singleton.1 hq]; decide
theorem jy_released : releasedC jyX (str [97]) = some [⟨str [97], allS, false⟩] := by
  unfold releasedC
  rw [jy_at]
  show makeC [⟨str [97], notS (versS []), false⟩] = _
  rw [vers_none, not_none]
  exact make_one (by decide) rfl
theorem union_all : unionS [] allS = allS := (is_nf allS_set fun p h0 h1 => by
  show has allS p = (has [] p || has allS p)
  rw [a_has h0 h1]
  simp).symm
theorem make_full {t : Tm} (h1 : emptyT t = false) (h2 : fullT t = true) : makeC [t] = some [] := by
  unfold makeC putsC
  have e : List.foldl (fun c t => putC t false c) [] [t] = [t] := by simp [putC]
  rw [e]
  simp [h1, h2]
def exJ : List Sp := [⟨1, ⟨#[97]⟩, 0, ⟨#[]⟩, 0, 0⟩, ⟨2, ⟨#[97]⟩, 0, ⟨#[]⟩, 0, 0⟩, ⟨4, ⟨#[97]⟩, 0, ⟨#[]⟩, 0, 1⟩]
theorem exJ_ok : okPf exJ = true := by
  refine okPf_of (by decide) (fun i s hs => ?_) (by decide)
  match i, hs with
  | 0, hs => injection hs with hs; subst hs; unfold mayS; simp only [show fitL (runes ⟨#[97]⟩ 0) = true from fit_one]; decide
  | 1, hs => injection hs with hs; subst hs; unfold mayS; simp only [show fitL (runes ⟨#[97]⟩ 0) = true from fit_one]; decide
  | 2, hs => injection hs with hs; subst hs; unfold mayS; simp only [show fitL (runes ⟨#[97]⟩ 0) = true from fit_one]; decide
  | i + 3, hs => cases hs
theorem join_ex : joinC [⟨str [97], [], true⟩] [⟨str [97], allS, false⟩] (str [97]) = some [] := by
  unfold joinC
  rw [show findC [(⟨str [97], [], true⟩ : Tm)] (str [97]) = some ⟨str [97], [], true⟩ by decide, show findC [(⟨str [97], allS, false⟩ : Tm)] (str [97]) = some ⟨str [97], allS, false⟩ by decide]
  simp only []
  rw [show dropC [(⟨str [97], [], true⟩ : Tm)] (str [97]) = [] by decide, show dropC [(⟨str [97], allS, false⟩ : Tm)] (str [97]) = [] by decide]
  have e : joinT ⟨str [97], [], true⟩ ⟨str [97], allS, false⟩ = ⟨str [97], allS, true⟩ := by
    unfold joinT
    rw [if_pos rfl]
    show (⟨str [97], unionS [] allS, true⟩ : Tm) = _
    rw [union_all]
  rw [e]
  exact make_full rfl (by decide)
theorem exJ_clash : clashC jyX fyN exJ [] = [[⟨str [97], [], true⟩], [⟨str [97], allS, false⟩], []] := by
  have h1 : oneC jyX fyN ⟨1, ⟨#[97]⟩, 0, ⟨#[]⟩, 0, 0⟩ [] = some [⟨str [97], [], true⟩] := by unfold oneC; rw [if_pos rfl]; exact fy_asked
  have h2 : oneC jyX fyN ⟨2, ⟨#[97]⟩, 0, ⟨#[]⟩, 0, 0⟩ [[⟨str [97], [], true⟩]] = some [⟨str [97], allS, false⟩] := by unfold oneC; rw [if_neg (show ¬ (2 : Int) = 1 by decide), if_pos rfl]; exact jy_released
  have h3 : oneC jyX fyN ⟨4, ⟨#[97]⟩, 0, ⟨#[]⟩, 0, 1⟩ [[⟨str [97], [], true⟩], [⟨str [97], allS, false⟩]] = some [] := by unfold oneC; rw [if_neg (show ¬ (4 : Int) = 1 by decide), if_neg (show ¬ (4 : Int) = 2 by decide), if_neg (show ¬ (4 : Int) = 3 by decide)]; exact join_ex
  unfold exJ
  rw [clashC, h1]
  simp only [List.nil_append]
  rw [clashC, h2]
  simp only [List.cons_append, List.nil_append]
  rw [clashC, h3]
  rfl
theorem exJ_accept : acceptB jyX fyN exJ = true := by
  unfold acceptB
  rw [exJ_ok, exJ_clash]
  decide
theorem jy_putany (B g : Nat) (w : World) (h : IdxB w B g []) :
    Calls Tryz.prog 15 #[.pointer (some ⟨g, 0, none⟩), .string (str [97]), .slice (some ⟨w.heap.size, 0, none⟩) 3 3] (w.alloc (.cells #[.int .u8 1, .int .u8 97, .int .u8 0] 5 (3, 4))) fun e w' =>
      e = .returned (.int .i64 0) ∧ IdxB w' B g jyX ∧ Below B (w.alloc (.cells #[.int .u8 1, .int .u8 97, .int .u8 0] 5 (3, 4))) w' := by
  have hb := heap_alloc_new w (.cells #[.int .u8 1, .int .u8 97, .int .u8 0] 5 (3, 4))
  have hr : Reads (w.alloc (.cells #[.int .u8 1, .int .u8 97, .int .u8 0] 5 (3, 4))) (w.heap.size + 1) 1 (some ⟨w.heap.size, 0, none⟩) 3 (bcs jyB) := by
    refine ⟨rfl, fun _ => ⟨_, rfl, Nat.lt_succ_self _, fun j u hu => ?_⟩⟩
    have hadd : (⟨w.heap.size, 0, none⟩ : Addr).add j = ⟨w.heap.size, j, none⟩ := by unfold Addr.add; split <;> simp_all
    rw [hadd, World.cell?_alloc_mark]
    rw [← hu]
    simp [bcs, jyB]
  have := putF_any g [] (str [97]) jyB (some ⟨w.heap.size, 0, none⟩) 3 3 B _ (h.below (Proof.alloc_b _ _)) List.Pairwise.nil (by simp) (by rw [World.size_alloc]; exact hr) (fun ad hA _ => by injection hA with hA; subst hA; exact ⟨_, _, hb⟩) (by decide)
  rw [jy_err, jy_puts] at this
  exact this
theorem reads_exJ (w : World) (g : Nat) (hg : g = w.heap.size) : Reads (w.alloc (.cells (pfs exJ).toArray 55)) (g + 1) 6 (some ⟨g, 0, none⟩) 3 (pfs exJ) := by
  subst hg
  have h := Reads.newL w 55 (pfs exJ).toArray
  exact ⟨rfl, fun _ => h.2 (by simp [exJ, pfs])⟩
set_option maxHeartbeats 4000000 in
set_option maxRecDepth 100000 in
theorem awakeJ_any (SA : SpecAcceptJ) (w : World) : Calls Tryz.prog 9 #[] w fun e w' => e = .returned (.bool true) ∧ Below w.heap.size w w' := by
  have HN := hide (new_any w)
  have HA := hide (fun (g g2 : Nat) (Ar : Option Addr) (wx : World) (hI : IdxB wx w.heap.size g jyX) (hr : NdOn wx Ar 1 fyN) (hp : PfOn wx (some ⟨g2, 0, none⟩) 3 exJ) => SA jyX fyN exJ (.pointer (some ⟨g, 0, none⟩)) Ar (some ⟨g2, 0, none⟩) 1 1 3 3 wx ⟨⟨_, rfl⟩, tells_idx hI jy_okX.fine, jy_okX⟩ jy_eight hr (by omega) fy_root hp (by omega) (fun s hs => by simp only [exJ, List.mem_cons, List.not_mem_nil, or_false] at hs; rcases hs with rfl | rfl | rfl <;> exact ⟨by decide, by decide⟩) (by omega))
  rw [exJ_accept] at HA
  have HP := hide (fun (wx : World) (hI : IdxB wx w.heap.size w.heap.size []) => jy_putany w.heap.size w.heap.size wx hI)
  have kc := fun (w : World) (C : Array Value) (n c : Nat) => Lib.run_convert_bytes_const (P := Tryz.prog) w 40 5 C n c Tryz.underlying40 Tryz.underlying5
  have hex : (pfs exJ).toArray = #[.int .i64 1, .string ⟨#[97]⟩, .int .i64 0, .string ⟨#[]⟩, .int .i64 0, .int .i64 0, .int .i64 2, .string ⟨#[97]⟩, .int .i64 0, .string ⟨#[]⟩, .int .i64 0, .int .i64 0, .int .i64 4, .string ⟨#[97]⟩, .int .i64 0, .string ⟨#[]⟩, .int .i64 0, .int .i64 1] := rfl
  have HPf := hide (fun (wx : World) (g : Nat) (hg : g = wx.heap.size) => (show PfOn (wx.alloc (.cells #[.int .i64 1, .string ⟨#[97]⟩, .int .i64 0, .string ⟨#[]⟩, .int .i64 0, .int .i64 0, .int .i64 2, .string ⟨#[97]⟩, .int .i64 0, .string ⟨#[]⟩, .int .i64 0, .int .i64 0, .int .i64 4, .string ⟨#[97]⟩, .int .i64 0, .string ⟨#[]⟩, .int .i64 0, .int .i64 1] 55)) (some ⟨g, 0, none⟩) 3 exJ from by
    rw [← hex]
    exact (reads_exJ wx g hg).more (by rw [World.size_alloc]; omega)))
  clear SA hex
  go_enter Tryz.func9, Tryz.ntmps9
  go_wp2_with (first
    | (go_at_call 11
       refine (HA.out _ (w2.heap.size + 1 + 1) _ _ hI5 hN5 (HPf.out _ _ (by simp))).mono ?_
       rintro e w6 ⟨rfl, hb6⟩
       have hbw6 := hbw5.trans (hb6.mono hbw5.size))
    | (go_at_call 15
       refine (HP.out _ hI1).mono ?_
       rintro e w2 ⟨rfl, hI2, hb2⟩
       have hs1 := Blk.new w2 53 #[.int .i64 0, .int .i64 1000000000]
       have hn1 := Blk.new (w2.alloc (.cells #[.int .i64 0, .int .i64 1000000000] 53)) 46 #[.string (str [97]), .slice (some ⟨w2.heap.size, 0, none⟩) 1 1]
       rw [World.size_alloc] at hn1
       have hN4 := ndOn_fy _ _ _ (hs1.alloc (.cells #[.string (str [97]), .slice (some ⟨w2.heap.size, 0, none⟩) 1 1] 46)) hn1
       have hI4 := (hI2.below (Proof.alloc_b _ (.cells #[.int .i64 0, .int .i64 1000000000] 53))).below (Proof.alloc_b _ (.cells #[.string (str [97]), .slice (some ⟨w2.heap.size, 0, none⟩) 1 1] 46))
       have hbw2 := hb1.trans (((Proof.alloc_b _ _).mono hb1.size).trans hb2)
       have hbw4 := (hbw2.alloc hbw2.size (.cells #[.int .i64 0, .int .i64 1000000000] 53)).alloc (Nat.le_trans hbw2.size (by simp)) (.cells #[.string (str [97]), .slice (some ⟨w2.heap.size, 0, none⟩) 1 1] 46)
       have hI5 := hI4.below (Proof.alloc_b _ (.cells #[.int .i64 1, .string ⟨#[97]⟩, .int .i64 0, .string ⟨#[]⟩, .int .i64 0, .int .i64 0, .int .i64 2, .string ⟨#[97]⟩, .int .i64 0, .string ⟨#[]⟩, .int .i64 0, .int .i64 0, .int .i64 4, .string ⟨#[97]⟩, .int .i64 0, .string ⟨#[]⟩, .int .i64 0, .int .i64 1] 55))
       have hN5 := NdOn.on hN4 (Proof.alloc_b _ (.cells #[.int .i64 1, .string ⟨#[97]⟩, .int .i64 0, .string ⟨#[]⟩, .int .i64 0, .int .i64 0, .int .i64 2, .string ⟨#[97]⟩, .int .i64 0, .string ⟨#[]⟩, .int .i64 0, .int .i64 0, .int .i64 4, .string ⟨#[97]⟩, .int .i64 0, .string ⟨#[]⟩, .int .i64 0, .int .i64 1] 55))
       have hbw5 := hbw4.alloc hbw4.size (.cells #[.int .i64 1, .string ⟨#[97]⟩, .int .i64 0, .string ⟨#[]⟩, .int .i64 0, .int .i64 0, .int .i64 2, .string ⟨#[97]⟩, .int .i64 0, .string ⟨#[]⟩, .int .i64 0, .int .i64 0, .int .i64 4, .string ⟨#[97]⟩, .int .i64 0, .string ⟨#[]⟩, .int .i64 0, .int .i64 1] 55))
    | (go_at_call 19
       refine HN.out.mono ?_
       rintro e w1 ⟨rfl, hI0, hb1⟩
       have hI1 : IdxB w1 w.heap.size w.heap.size [] := ⟨Nat.le_refl _, none, hI0, fun b e => by cases e⟩))
  go_ret
  exact ⟨rfl, hbw6⟩
end Go.Proofs.YtdmejcfnolhplaaGreatDoor.Judge
/-
  The walk of JudgeSound, if the program's Accept, Check, Trim and Solution tell what they have to. Condition: those premises; the program's own table holds what its text lays in it.
-/
namespace Go.Proofs.YtdmejcfnolhplaaGreatDoor.Judge
open Go Go.RowKit Go.Lib Go.Sort Go.Proofs.YtdmejcfnolhplaaGreatDoor.Grow Go.Proofs.YtdmejcfnolhplaaGreatDoor.Label Go.Proofs.YtdmejcfnolhplaaGreatDoor.Span Go.Proofs.YtdmejcfnolhplaaGreatDoor.Need Go.Proofs.YtdmejcfnolhplaaGreatDoor.Mani Go.Proofs.YtdmejcfnolhplaaGreatDoor.Depot Go.Proofs.YtdmejcfnolhplaaGreatDoor.Index Go.Proofs.YtdmejcfnolhplaaGreatDoor.Reach Go.Proofs.YtdmejcfnolhplaaGreatDoor.Fit Go.Proofs.YtdmejcfnolhplaaGreatDoor.Pick Go.Proofs.YtdmejcfnolhplaaGreatDoor.Term Go.Proofs.YtdmejcfnolhplaaGreatDoor.Clash Go.Proofs.YtdmejcfnolhplaaGreatDoor.Proof
open Go.Proofs.YtdmejcfnolhplaaGreatDoor.Fact (OkX AskX okX_puts)
open Go.Proofs.YtdmejcfnolhplaaGreatDoor.Ver (Units)
set_option linter.unusedVariables false
theorem namesS9 {l : List Nd} (h : Fine l) : Names9 l := fun q hq => by have := h.2 q hq; omega
theorem trim_namesS {l : List Sp} (h : NamesJ l) : NamesJ (trimT l) := fun q hq => by
  obtain ⟨m, hm, e⟩ := List.mem_iff_getElem.1 hq
  obtain ⟨i, s, hs, _, _, rfl⟩ := trim_from m (t := q) (by rw [← e]; exact List.getElem?_eq_getElem hm)
  have := h s (List.mem_of_getElem? hs)
  unfold reS
  split <;> exact this
def isPf (l : List Sp) : Rel := fun w v => ∃ A n c, v = .slice A n c ∧ n ≤ c ∧ PfOn w A n l
theorem isPf_stable (l : List Sp) : ∀ w w' v, Below w.heap.size w w' → isPf l w v → isPf l w' v := fun _ _ _ hb ⟨A, n, c, hv, hn, h⟩ => ⟨A, n, c, hv, hn, PfOn.on h hb⟩
def skipS (l m : List En) (root : List Nd) (s : List Sp) (p : List Pk) : Bool := largeE l || (largeE m || (large root || (!okS root || (largeJ s || largeP p))))
set_option maxHeartbeats 8000000 in
set_option maxRecDepth 100000 in
theorem jsound_skip (SA : SpecAcceptJ) (l m : List En) (root : List Nd) (s : List Sp) (p : List Pk) (A0 A1 A2 A3 A4 : Option Addr) (n0 c0 n1 c1 n2 c2 n3 c3 n4 c4 : Nat) (w : World) (h : EnOn w A0 n0 l) (hm : EnOn w A1 n1 m) (h' : NdOn w A2 n2 root) (h'' : PfOn w A3 n3 s) (h3 : PkOn w A4 n4 p) (hn : n0 ≤ 9223372036854775807) (hnm : n1 ≤ 9223372036854775807) (hn' : n2 ≤ 9223372036854775807) (hn'' : n3 ≤ 9223372036854775807) (hn3 : n4 ≤ 9223372036854775807) (hsk : skipS l m root s p = true) :
    Calls Tryz.prog 3 #[.slice A0 n0 c0, .slice A1 n1 c1, .agg #[.slice A2 n2 c2, .slice A3 n3 c3, .slice A4 n4 c4]] w fun e w' => e = .returned (.bool true) ∧ Below w.heap.size w w' := by
  obtain ⟨W0, hW0⟩ : ∃ W0, W0 = w.alloc (.cells #[.slice A2 n2 c2, .slice A3 n3 c3, .slice A4 n4 c4] 27) := ⟨_, rfl⟩
  obtain ⟨g0, hg0⟩ : ∃ g, g = w.heap.size := ⟨_, rfl⟩
  have hbw0 : Below w.heap.size w W0 := by rw [hW0]; exact Proof.alloc_b _ _
  have hBx : Blk W0 g0 27 #[.slice A2 n2 c2, .slice A3 n3 c3, .slice A4 n4 c4] := by rw [hW0, hg0]; exact Blk.new _ _ _
  have hb0 : Below W0.heap.size W0 W0 := Below.refl _ _
  have HQ0 := hide (fun (wx : World) (hx : Below W0.heap.size W0 wx) => (show wx.cell? ⟨g0, 0, none⟩ = some (Value.slice A2 n2 c2) from ((hBx.below hx hBx.lt).cell 0).trans rfl))
  have HQ1 := hide (fun (wx : World) (hx : Below W0.heap.size W0 wx) => (show wx.cell? ⟨g0, 1, none⟩ = some (Value.slice A3 n3 c3) from ((hBx.below hx hBx.lt).cell 1).trans rfl))
  have HQ2 := hide (fun (wx : World) (hx : Below W0.heap.size W0 wx) => (show wx.cell? ⟨g0, 2, none⟩ = some (Value.slice A4 n4 c4) from ((hBx.below hx hBx.lt).cell 2).trans rfl))
  have hgb : g0 < W0.heap.size := hBx.lt
  replace h : EnOn W0 A0 n0 l := h.on hbw0
  replace hm : EnOn W0 A1 n1 m := hm.on hbw0
  replace h' : NdOn W0 A2 n2 root := h'.on hbw0
  replace h'' : PfOn W0 A3 n3 s := h''.on hbw0
  replace h3 : PkOn W0 A4 n4 p := h3.on hbw0
  clear hBx
  have HW := hide (fun wx => awakeJ_any SA wx)
  have HL := hide (fun (wx : World) (hb : Below W0.heap.size W0 wx) => largeE_any l A0 n0 c0 wx (h.on hb) (by omega))
  have HM := hide (fun (wx : World) (hb : Below W0.heap.size W0 wx) => largeE_any m A1 n1 c1 wx (hm.on hb) (by omega))
  unfold Tells at HL HM
  have HR := hide (fun (wx : World) (hb : Below W0.heap.size W0 wx) => large_any root A2 n2 c2 wx (h'.on hb) (by omega))
  have HJ := hide (fun (wx : World) (hb : Below W0.heap.size W0 wx) => (show Calls Tryz.prog 7 #[.slice A3 n3 c3] wx fun e w' => e = .returned (.bool (largeJ s)) ∧ Below wx.heap.size wx w' from (largeJ_any s A3 n3 c3 wx (h''.on hb) hn'').mono fun _ _ ⟨e1, e2⟩ => ⟨e1, by rw [e2]; exact Below.refl _ _⟩))
  have HP := hide (fun (wx : World) (hb : Below W0.heap.size W0 wx) => (show Calls Tryz.prog 8 #[.slice A4 n4 c4] wx fun e w' => e = .returned (.bool (largeP p)) ∧ Below wx.heap.size wx w' from (largeP_any p A4 n4 c4 wx (h3.on hb) hn3).mono fun _ _ ⟨e1, e2⟩ => ⟨e1, by rw [e2]; exact Below.refl _ _⟩))
  clear SA
  cases g1 : largeE l with
  | true =>
    rw [g1] at HL
    clear h hm h' h'' h3 hn hnm hn' hn'' hn3 hsk HM HR HJ HP
    go_enter Tryz.func3, Tryz.ntmps3
    go_upto_region 1 with fail
    try rw [← hW0]
    try rw [← hg0]
    clear hW0 hg0
    go_wp2_with (first
      | (go_at_call 9
         refine (HW.out _).mono ?_
         rintro e w9 ⟨rfl, hb9⟩
         have hbe := hb1.trans (hb9.mono hb1.size))
      | (go_at_call_of 4 (Value.slice A0 n0 c0)
         have hdone := hb0
         refine (HL.out _ hb0).mono ?_
         rintro e w1 ⟨rfl, hb1x⟩
         have hb1 := hb0.trans (hb1x.mono hb0.size)
         have q1a := HQ0.out _ hb1
         have q1b := HQ1.out _ hb1
         have q1c := HQ2.out _ hb1))
    go_ret
    exact ⟨rfl, hbw0.trans (hbe.mono hbw0.size)⟩
  | false =>
  rw [g1] at HL
  cases g2 : largeE m with
  | true =>
    rw [g2] at HM
    clear h hm h' h'' h3 hn hnm hn' hn'' hn3 hsk HR HJ HP
    go_enter Tryz.func3, Tryz.ntmps3
    go_upto_region 1 with fail
    try rw [← hW0]
    try rw [← hg0]
    clear hW0 hg0
    go_wp2_with (first
      | (go_at_call 9
         refine (HW.out _).mono ?_
         rintro e w9 ⟨rfl, hb9⟩
         have hbe := hb2.trans (hb9.mono hb2.size))
      | (go_at_call_of 4 (Value.slice A1 n1 c1)
         have hdone := hb1
         refine (HM.out _ hb1).mono ?_
         rintro e w2 ⟨rfl, hb2x⟩
         have hb2 := hb1.trans (hb2x.mono hb1.size)
         have q2a := HQ0.out _ hb2
         have q2b := HQ1.out _ hb2
         have q2c := HQ2.out _ hb2)
      | (go_at_call_of 4 (Value.slice A0 n0 c0)
         have hdone := hb0
         refine (HL.out _ hb0).mono ?_
         rintro e w1 ⟨rfl, hb1x⟩
         have hb1 := hb0.trans (hb1x.mono hb0.size)
         have q1a := HQ0.out _ hb1
         have q1b := HQ1.out _ hb1
         have q1c := HQ2.out _ hb1))
    go_ret
    exact ⟨rfl, hbw0.trans (hbe.mono hbw0.size)⟩
  | false =>
  rw [g2] at HM
  cases g3 : large root with
  | true =>
    rw [g3] at HR
    clear h hm h' h'' h3 hn hnm hn' hn'' hn3 hsk HJ HP
    go_enter Tryz.func3, Tryz.ntmps3
    go_upto_region 1 with fail
    try rw [← hW0]
    try rw [← hg0]
    clear hW0 hg0
    go_wp2_with (first
      | (go_at_call 9
         refine (HW.out _).mono ?_
         rintro e w9 ⟨rfl, hb9⟩
         have hbe := hb3.trans (hb9.mono hb3.size))
      | (go_at_call 5
         have hdone := hb2
         refine (HR.out _ hb2).mono ?_
         rintro e w3 ⟨rfl, hb3x⟩
         have hb3 := hb2.trans (hb3x.mono hb2.size)
         have q3a := HQ0.out _ hb3
         have q3b := HQ1.out _ hb3
         have q3c := HQ2.out _ hb3)
      | (go_at_call_of 4 (Value.slice A1 n1 c1)
         have hdone := hb1
         refine (HM.out _ hb1).mono ?_
         rintro e w2 ⟨rfl, hb2x⟩
         have hb2 := hb1.trans (hb2x.mono hb1.size)
         have q2a := HQ0.out _ hb2
         have q2b := HQ1.out _ hb2
         have q2c := HQ2.out _ hb2)
      | (go_at_call_of 4 (Value.slice A0 n0 c0)
         have hdone := hb0
         refine (HL.out _ hb0).mono ?_
         rintro e w1 ⟨rfl, hb1x⟩
         have hb1 := hb0.trans (hb1x.mono hb0.size)
         have q1a := HQ0.out _ hb1
         have q1b := HQ1.out _ hb1
         have q1c := HQ2.out _ hb1))
    go_ret
    exact ⟨rfl, hbw0.trans (hbe.mono hbw0.size)⟩
  | false =>
  rw [g3] at HR
  have hfn := fine_of g3
  have hn40 : n2 ≤ 40 := by rw [← h'.len]; exact hfn.1
  have HK := hide (fun (wx : World) (hb : Below W0.heap.size W0 wx) => refCheckN_any root A2 n2 c2 wx (h'.on hb) (namesS9 hfn) (by omega))
  cases g4 : okS root with
  | false =>
    rw [g4] at HK
    clear h hm h' h'' h3 hn hnm hn' hn'' hn3 hsk hfn hn40 HJ HP
    go_enter Tryz.func3, Tryz.ntmps3
    go_upto_region 1 with fail
    try rw [← hW0]
    try rw [← hg0]
    clear hW0 hg0
    go_wp2_with (first
      | (go_at_call 9
         refine (HW.out _).mono ?_
         rintro e w9 ⟨rfl, hb9⟩
         have hbe := hb4.trans (hb9.mono hb4.size))
      | (go_at_call 6
         have hdone := hb3
         refine (HK.out _ hb3).mono ?_
         rintro e w4 ⟨rfl, hb4x⟩
         have hb4 := hb3.trans (hb4x.mono hb3.size)
         have q4a := HQ0.out _ hb4
         have q4b := HQ1.out _ hb4
         have q4c := HQ2.out _ hb4)
      | (go_at_call 5
         have hdone := hb2
         refine (HR.out _ hb2).mono ?_
         rintro e w3 ⟨rfl, hb3x⟩
         have hb3 := hb2.trans (hb3x.mono hb2.size)
         have q3a := HQ0.out _ hb3
         have q3b := HQ1.out _ hb3
         have q3c := HQ2.out _ hb3)
      | (go_at_call_of 4 (Value.slice A1 n1 c1)
         have hdone := hb1
         refine (HM.out _ hb1).mono ?_
         rintro e w2 ⟨rfl, hb2x⟩
         have hb2 := hb1.trans (hb2x.mono hb1.size)
         have q2a := HQ0.out _ hb2
         have q2b := HQ1.out _ hb2
         have q2c := HQ2.out _ hb2)
      | (go_at_call_of 4 (Value.slice A0 n0 c0)
         have hdone := hb0
         refine (HL.out _ hb0).mono ?_
         rintro e w1 ⟨rfl, hb1x⟩
         have hb1 := hb0.trans (hb1x.mono hb0.size)
         have q1a := HQ0.out _ hb1
         have q1b := HQ1.out _ hb1
         have q1c := HQ2.out _ hb1))
    go_ret
    exact ⟨rfl, hbw0.trans (hbe.mono hbw0.size)⟩
  | true =>
  rw [g4] at HK
  cases g5 : largeJ s with
  | true =>
    rw [g5] at HJ
    clear h hm h' h'' h3 hn hnm hn' hn'' hn3 hsk hfn hn40 HP
    go_enter Tryz.func3, Tryz.ntmps3
    go_upto_region 1 with fail
    try rw [← hW0]
    try rw [← hg0]
    clear hW0 hg0
    go_wp2_with (first
      | (go_at_call 9
         refine (HW.out _).mono ?_
         rintro e w9 ⟨rfl, hb9⟩
         have hbe := hb5.trans (hb9.mono hb5.size))
      | (go_at_call 7
         have hdone := hb4
         refine (HJ.out _ hb4).mono ?_
         rintro e w5 ⟨rfl, hb5x⟩
         have hb5 := hb4.trans (hb5x.mono hb4.size)
         have q5a := HQ0.out _ hb5
         have q5b := HQ1.out _ hb5
         have q5c := HQ2.out _ hb5)
      | (go_at_call 6
         have hdone := hb3
         refine (HK.out _ hb3).mono ?_
         rintro e w4 ⟨rfl, hb4x⟩
         have hb4 := hb3.trans (hb4x.mono hb3.size)
         have q4a := HQ0.out _ hb4
         have q4b := HQ1.out _ hb4
         have q4c := HQ2.out _ hb4)
      | (go_at_call 5
         have hdone := hb2
         refine (HR.out _ hb2).mono ?_
         rintro e w3 ⟨rfl, hb3x⟩
         have hb3 := hb2.trans (hb3x.mono hb2.size)
         have q3a := HQ0.out _ hb3
         have q3b := HQ1.out _ hb3
         have q3c := HQ2.out _ hb3)
      | (go_at_call_of 4 (Value.slice A1 n1 c1)
         have hdone := hb1
         refine (HM.out _ hb1).mono ?_
         rintro e w2 ⟨rfl, hb2x⟩
         have hb2 := hb1.trans (hb2x.mono hb1.size)
         have q2a := HQ0.out _ hb2
         have q2b := HQ1.out _ hb2
         have q2c := HQ2.out _ hb2)
      | (go_at_call_of 4 (Value.slice A0 n0 c0)
         have hdone := hb0
         refine (HL.out _ hb0).mono ?_
         rintro e w1 ⟨rfl, hb1x⟩
         have hb1 := hb0.trans (hb1x.mono hb0.size)
         have q1a := HQ0.out _ hb1
         have q1b := HQ1.out _ hb1
         have q1c := HQ2.out _ hb1))
    go_ret
    exact ⟨rfl, hbw0.trans (hbe.mono hbw0.size)⟩
  | false =>
  rw [g5] at HJ
  have g6 : largeP p = true := by
    unfold skipS at hsk
    rw [g1, g2, g3, g4, g5] at hsk
    simpa using hsk
  rw [g6] at HP
  clear h hm h' h'' h3 hn hnm hn' hn'' hn3 hsk hfn hn40
  go_enter Tryz.func3, Tryz.ntmps3
  go_upto_region 1 with fail
  try rw [← hW0]
  try rw [← hg0]
  clear hW0 hg0
  go_wp2_with (first
    | (go_at_call 9
       refine (HW.out _).mono ?_
       rintro e w9 ⟨rfl, hb9⟩
       have hbe := hb6.trans (hb9.mono hb6.size))
    | (go_at_call 8
       have hdone := hb5
       refine (HP.out _ hb5).mono ?_
       rintro e w6 ⟨rfl, hb6x⟩
       have hb6 := hb5.trans (hb6x.mono hb5.size)
       have q6a := HQ0.out _ hb6
       have q6b := HQ1.out _ hb6
       have q6c := HQ2.out _ hb6)
    | (go_at_call 7
       have hdone := hb4
       refine (HJ.out _ hb4).mono ?_
       rintro e w5 ⟨rfl, hb5x⟩
       have hb5 := hb4.trans (hb5x.mono hb4.size)
       have q5a := HQ0.out _ hb5
       have q5b := HQ1.out _ hb5
       have q5c := HQ2.out _ hb5)
    | (go_at_call 6
       have hdone := hb3
       refine (HK.out _ hb3).mono ?_
       rintro e w4 ⟨rfl, hb4x⟩
       have hb4 := hb3.trans (hb4x.mono hb3.size)
       have q4a := HQ0.out _ hb4
       have q4b := HQ1.out _ hb4
       have q4c := HQ2.out _ hb4)
    | (go_at_call 5
       have hdone := hb2
       refine (HR.out _ hb2).mono ?_
       rintro e w3 ⟨rfl, hb3x⟩
       have hb3 := hb2.trans (hb3x.mono hb2.size)
       have q3a := HQ0.out _ hb3
       have q3b := HQ1.out _ hb3
       have q3c := HQ2.out _ hb3)
    | (go_at_call_of 4 (Value.slice A1 n1 c1)
       have hdone := hb1
       refine (HM.out _ hb1).mono ?_
       rintro e w2 ⟨rfl, hb2x⟩
       have hb2 := hb1.trans (hb2x.mono hb1.size)
       have q2a := HQ0.out _ hb2
       have q2b := HQ1.out _ hb2
       have q2c := HQ2.out _ hb2)
    | (go_at_call_of 4 (Value.slice A0 n0 c0)
       have hdone := hb0
       refine (HL.out _ hb0).mono ?_
       rintro e w1 ⟨rfl, hb1x⟩
       have hb1 := hb0.trans (hb1x.mono hb0.size)
       have q1a := HQ0.out _ hb1
       have q1b := HQ1.out _ hb1
       have q1c := HQ2.out _ hb1))
  go_ret
  exact ⟨rfl, hbw0.trans (hbe.mono hbw0.size)⟩
set_option maxHeartbeats 16000000 in
set_option maxRecDepth 100000 in
theorem jsound_main (SA : SpecAcceptJ) (SC : SpecCheckPf) (ST : SpecTrimPf) (SS : SpecSol) (l m : List En) (root : List Nd) (s : List Sp) (p : List Pk) (A0 A1 A2 A3 A4 : Option Addr) (n0 c0 n1 c1 n2 c2 n3 c3 n4 c4 : Nat) (w : World) (h : EnOn w A0 n0 l) (hm : EnOn w A1 n1 m) (h' : NdOn w A2 n2 root) (h'' : PfOn w A3 n3 s) (h3 : PkOn w A4 n4 p) (hn : n0 ≤ 9223372036854775807) (hnm : n1 ≤ 9223372036854775807) (hn' : n2 ≤ 9223372036854775807) (hn'' : n3 ≤ 9223372036854775807) (hn3 : n4 ≤ 9223372036854775807) (hc3 : n3 ≤ c3) (hc4 : n4 ≤ c4) (hTb : Units w) (hsk : skipS l m root s p = false) :
    Calls Tryz.prog 3 #[.slice A0 n0 c0, .slice A1 n1 c1, .agg #[.slice A2 n2 c2, .slice A3 n3 c3, .slice A4 n4 c4]] w fun e w' => e = .returned (.bool true) ∧ Below w.heap.size w w' := by
  unfold skipS at hsk
  simp only [Bool.or_eq_false_iff, Bool.not_eq_false'] at hsk
  obtain ⟨g1, g2, g3, g4, g5, g6⟩ := hsk
  obtain ⟨W0, hW0⟩ : ∃ W0, W0 = w.alloc (.cells #[.slice A2 n2 c2, .slice A3 n3 c3, .slice A4 n4 c4] 27) := ⟨_, rfl⟩
  obtain ⟨g0, hg0⟩ : ∃ g, g = w.heap.size := ⟨_, rfl⟩
  have hbw0 : Below w.heap.size w W0 := by rw [hW0]; exact Proof.alloc_b _ _
  have hBx : Blk W0 g0 27 #[.slice A2 n2 c2, .slice A3 n3 c3, .slice A4 n4 c4] := by rw [hW0, hg0]; exact Blk.new _ _ _
  have hb0 : Below W0.heap.size W0 W0 := Below.refl _ _
  have HQ0 := hide (fun (wx : World) (hx : Below W0.heap.size W0 wx) => (show wx.cell? ⟨g0, 0, none⟩ = some (Value.slice A2 n2 c2) from ((hBx.below hx hBx.lt).cell 0).trans rfl))
  have HQ1 := hide (fun (wx : World) (hx : Below W0.heap.size W0 wx) => (show wx.cell? ⟨g0, 1, none⟩ = some (Value.slice A3 n3 c3) from ((hBx.below hx hBx.lt).cell 1).trans rfl))
  have HQ2 := hide (fun (wx : World) (hx : Below W0.heap.size W0 wx) => (show wx.cell? ⟨g0, 2, none⟩ = some (Value.slice A4 n4 c4) from ((hBx.below hx hBx.lt).cell 2).trans rfl))
  have hgb : g0 < W0.heap.size := hBx.lt
  replace h : EnOn W0 A0 n0 l := h.on hbw0
  replace hm : EnOn W0 A1 n1 m := hm.on hbw0
  replace h' : NdOn W0 A2 n2 root := h'.on hbw0
  replace h'' : PfOn W0 A3 n3 s := h''.on hbw0
  replace h3 : PkOn W0 A4 n4 p := h3.on hbw0
  clear hBx
  have HW := hide (fun wx => awakeJ_any SA wx)
  have HL := hide (fun (wx : World) (hb : Below W0.heap.size W0 wx) => largeE_any l A0 n0 c0 wx (h.on hb) (by omega))
  have HM := hide (fun (wx : World) (hb : Below W0.heap.size W0 wx) => largeE_any m A1 n1 c1 wx (hm.on hb) (by omega))
  unfold Tells at HL HM
  have HR := hide (fun (wx : World) (hb : Below W0.heap.size W0 wx) => large_any root A2 n2 c2 wx (h'.on hb) (by omega))
  have HJ := hide (fun (wx : World) (hb : Below W0.heap.size W0 wx) => (show Calls Tryz.prog 7 #[.slice A3 n3 c3] wx fun e w' => e = .returned (.bool (largeJ s)) ∧ Below wx.heap.size wx w' from (largeJ_any s A3 n3 c3 wx (h''.on hb) hn'').mono fun _ _ ⟨e1, e2⟩ => ⟨e1, by rw [e2]; exact Below.refl _ _⟩))
  have HP := hide (fun (wx : World) (hb : Below W0.heap.size W0 wx) => (show Calls Tryz.prog 8 #[.slice A4 n4 c4] wx fun e w' => e = .returned (.bool (largeP p)) ∧ Below wx.heap.size wx w' from (largeP_any p A4 n4 c4 wx (h3.on hb) hn3).mono fun _ _ ⟨e1, e2⟩ => ⟨e1, by rw [e2]; exact Below.refl _ _⟩))
  replace hTb : Units W0 := hTb.below hbw0
  rw [g1] at HL
  rw [g2] at HM
  rw [g3] at HR
  rw [g5] at HJ
  rw [g6] at HP
  have hfn := fine_of g3
  have hn40 : n2 ≤ 40 := by rw [← h'.len]; exact hfn.1
  have HK := hide (fun (wx : World) (hb : Below W0.heap.size W0 wx) => refCheckN_any root A2 n2 c2 wx (h'.on hb) (namesS9 hfn) (by omega))
  rw [g4] at HK
  obtain ⟨hs120, hsn⟩ := largeJ_no g5
  have hslen := h''.len
  have hn120 : n3 ≤ 120 := by omega
  obtain ⟨hp60, hp200⟩ := largeP_no g6
  have hn60 : n4 ≤ 60 := by rw [← h3.len]; exact hp60
  obtain ⟨h30, hs⟩ := fineE_of g1
  obtain ⟨hm30, hms⟩ := fineE_of g2
  obtain ⟨hr, hf, hsh, hXl⟩ := take_bounds l l.length h30 hs
  rw [List.take_of_length_le (Nat.le_refl _)] at hr hf hsh hXl
  have hX : OkX (putsX [] l) := okX_puts hf (by omega)
  have hZl : (putsX [] (l ++ m)).length ≤ 100 := by rw [putsX_append]; have h1 := putsX_len (putsX [] l) m; omega
  have hZ : OkX (putsX [] (l ++ m)) := okX_puts (by rw [putsX_append]; exact hf.puts m) hZl
  rw [putsX_append] at hZ
  have h8 : EightX (putsX [] l) := EightX.nil.puts l
  have h8Z : EightX (putsX (putsX [] l) m) := h8.puts m
  have hlen := h.len
  have hml := hm.len
  have hn130 : n1 ≤ 30 := by rw [← hml]; exact hm30
  have HIO := hide (fun (wx : World) (hb : Below W0.heap.size W0 wx) => indexOf_any l A0 n0 c0 wx (h.on hb) (by omega) fun e he => by have := hs e he; omega)
  clear hZl
  generalize putsX [] l = X at *
  have hr9 : ∀ q ∈ root, q.1.size ≤ 100 := fun q hq => (hfn.2 q hq).1
  have HACC := hide (fun (Y : List Kn) (hY : OkX Y) (hY8 : EightX Y) (u : List Sp) (hu : NamesJ u) (g B : Nat) (Au : Option Addr) (nu cu : Nat) (wx : World) (hx : Below W0.heap.size W0 wx) (hI : IdxB wx B g Y) (hT : PfOn wx Au nu u) (hcu : nu ≤ cu) (hlu : u.length ≤ 120) =>
    SA Y root u (.pointer (some ⟨g, 0, none⟩)) A2 Au n2 c2 nu cu wx ⟨⟨_, rfl⟩, tells_idx hI hY.fine, hY⟩ hY8 (h'.on hx) hn40 g4 hT hcu hu (by have := PfIn.len hT; omega))
  have HSOL := hide (fun (Y : List Kn) (hY : OkX Y) (g B : Nat) (wx : World) (hx : Below W0.heap.size W0 wx) (hI : IdxB wx B g Y) =>
    SS Y root p (.pointer (some ⟨g, 0, none⟩)) A2 n2 c2 A4 n4 c4 wx ⟨⟨⟨_, rfl⟩, tells_idx hI hY.fine⟩, hY.fine, hY.sets, hY.few, h'.on hx, hn40, g4, hr9, h3.on hx, hc4, hn60, hp200, hTb.below hx⟩)
  have HXA := hide (fun (g B : Nat) (wx : World) (hx : Below W0.heap.size W0 wx) (hI : IdxB wx B g X) => HACC.out X hX h8 s hsn g B A3 n3 c3 wx hx hI (h''.on hx) hc3 hs120)
  have HZA := hide (fun (g B : Nat) (wx : World) (hx : Below W0.heap.size W0 wx) (hI : IdxB wx B g (putsX X m)) => HACC.out _ hZ h8Z s hsn g B A3 n3 c3 wx hx hI (h''.on hx) hc3 hs120)
  have HXS := hide (fun (g B : Nat) (wx : World) (hx : Below W0.heap.size W0 wx) (hI : IdxB wx B g X) => HSOL.out X hX g B wx hx hI)
  have HZS := hide (fun (g B : Nat) (wx : World) (hx : Below W0.heap.size W0 wx) (hI : IdxB wx B g (putsX X m)) => HSOL.out _ hZ g B wx hx hI)
  have HCx := hide (fun (wx : World) (hx : Below W0.heap.size W0 wx) => SC s A3 n3 c3 wx (h''.on hx) (by omega) hsn)
  have HTx := hide (fun (ho : okPf s = true) (wx : World) (hx : Below W0.heap.size W0 wx) => ST s A3 n3 c3 wx (h''.on hx) hc3 ho)
  unfold TellsPf at HTx
  have HAx := hide (fun (g B : Nat) (A : Option Addr) (n c : Nat) (wx : World) (hx : Below W0.heap.size W0 wx) (hI : IdxB wx B g X) (hT : PfOn wx A n (trimT s)) (hnc : n ≤ c) => HACC.out X hX h8 (trimT s) (trim_namesS hsn) g B A n c wx hx hI hT hnc (Nat.le_trans trim_le hs120))
  have Hac := hide (fun (ha : acceptB X root s = true) => (show okPf s = true ∧ acceptB X root (trimT s) = true ∧ acceptB (putsX X m) root s = true ∧ solX X root p = false ∧ solX (putsX X m) root p = false from by
    obtain ⟨q1, q2⟩ := accept_iff.1 ha
    have q3 := accept_grows hr m q2
    exact ⟨q1, accept_iff.2 ⟨okPf_trim q1, accept_trim q2⟩, accept_iff.2 ⟨q1, q3⟩, accept_sound hX.sets g4 q2 p, accept_sound hZ.sets g4 q3 p⟩))
  have Hr := hide (fun i => putsX_rises hr (m.take i))
  have Hl := hide (fun i => (show (putsX X (m.take i)).length ≤ 100 by
    have h1 := putsX_len X (m.take i)
    have h2 : (m.take i).length ≤ m.length := by rw [List.length_take]; omega
    omega))
  have Hms := hide hms
  have Hlen := hide hml
  have Hm := hide hm
  clear h hm h' h'' h3 hs hms hp200 hr9 hr hf hsh g1 g2 g3 g4 g5 g6 h30 hm30 hp60 hml hlen hX hZ h8 h8Z hTb SC ST SS SA hsn hs120 hslen hfn HACC HSOL hXl hn40 hn120 hn60 hn hnm hn' hn'' hn3
  obtain ⟨b, hac⟩ : ∃ b, b = acceptB X root s := ⟨_, rfl⟩
  rw [← hac] at HXA Hac
  generalize trimT s = t at *
  go_enter Tryz.func3, Tryz.ntmps3
  go_upto_region 1 with fail
  try rw [← hW0]
  try rw [← hg0]
  clear hW0 hg0
  go_upto_region 3 with (first
    | (go_at_call 8
       have hdone := hb5
       refine (HP.out _ hb5).mono ?_
       rintro e w6 ⟨rfl, hb6x⟩
       have hb6 := hb5.trans (hb6x.mono hb5.size)
       have q6a := HQ0.out _ hb6
       have q6b := HQ1.out _ hb6
       have q6c := HQ2.out _ hb6)
    | (go_at_call 7
       have hdone := hb4
       refine (HJ.out _ hb4).mono ?_
       rintro e w5 ⟨rfl, hb5x⟩
       have hb5 := hb4.trans (hb5x.mono hb4.size)
       have q5a := HQ0.out _ hb5
       have q5b := HQ1.out _ hb5
       have q5c := HQ2.out _ hb5)
    | (go_at_call 6
       have hdone := hb3
       refine (HK.out _ hb3).mono ?_
       rintro e w4 ⟨rfl, hb4x⟩
       have hb4 := hb3.trans (hb4x.mono hb3.size)
       have q4a := HQ0.out _ hb4
       have q4b := HQ1.out _ hb4
       have q4c := HQ2.out _ hb4)
    | (go_at_call 5
       have hdone := hb2
       refine (HR.out _ hb2).mono ?_
       rintro e w3 ⟨rfl, hb3x⟩
       have hb3 := hb2.trans (hb3x.mono hb2.size)
       have q3a := HQ0.out _ hb3
       have q3b := HQ1.out _ hb3
       have q3c := HQ2.out _ hb3)
    | (go_at_call_of 4 (Value.slice A1 n1 c1)
       have hdone := hb1
       refine (HM.out _ hb1).mono ?_
       rintro e w2 ⟨rfl, hb2x⟩
       have hb2 := hb1.trans (hb2x.mono hb1.size)
       have q2a := HQ0.out _ hb2
       have q2b := HQ1.out _ hb2
       have q2c := HQ2.out _ hb2)
    | (go_at_call_of 4 (Value.slice A0 n0 c0)
       have hdone := hb0
       refine (HL.out _ hb0).mono ?_
       rintro e w1 ⟨rfl, hb1x⟩
       have hb1 := hb0.trans (hb1x.mono hb0.size)
       have q1a := HQ0.out _ hb1
       have q1b := HQ1.out _ hb1
       have q1c := HQ2.out _ hb1))
  clear HL HM HR HK HJ HP hb1 hb2 hb3 hb4 hb5 hb1x hb2x hb3x hb4x hb5x hb6x q1a q1b q1c q2a q2b q2c q3a q3b q3c q4a q4b q4c q5a q5b q5c q6a q6b q6c
  clear hdone
  go_upto_region 4 with (first
    | (go_at_call 10
       refine (HIO.out _ hb6).mono ?_
       rintro e w8 ⟨g, rfl, hI8, hb8x⟩
       have hb8 := hb6.trans (hb8x.mono hb6.size)
       have q8a := HQ0.out _ hb8
       have q8b := HQ1.out _ hb8))
  obtain ⟨B, hB⟩ : ∃ B, B = w6.heap.size := ⟨_, rfl⟩
  rw [← hB] at hI8
  have hWB : W0.heap.size ≤ B := by rw [hB]; exact hb6.size
  clear hB HIO hb8x hb6
  cases b with
  | true =>
    obtain ⟨ho, ha2, ha3, hs1, hs2⟩ := Hac.out rfl
    rw [ha3] at HZA
    rw [hs1] at HXS
    rw [hs2] at HZS
    rw [ho] at HCx
    rw [ha2] at HAx
    replace HTx := hide (fun (wx : World) (hx : Below W0.heap.size W0 wx) => HTx.out ho wx hx)
    clear Hac ho ha2 ha3 hs1 hs2 hac
    go_upto_region 5 with (first
      | (go_at_call 11
         refine (HXA.out _ _ _ hb8 hI8).mono ?_
         rintro e w10 ⟨rfl, hb10x⟩
         have hb10 := hb8.trans (hb10x.mono hb8.size)
         have hI10 := hI8.below hb10x
         have q10a := HQ0.out _ hb10
         have q10c := HQ2.out _ hb10))
    clear HXA q8a q8b hI8 hb8 hb10x
    go_upto_region 7 with (first
      | (go_at_call 12
         refine (HXS.out _ _ _ hb10 hI10).mono ?_
         rintro e V ⟨rfl, hbVx⟩
         have hbV := hb10.trans (hbVx.mono hb10.size)
         have hIV := hI10.below hbVx))
    clear HXS q10a q10c hb10 hI10 hbVx
    have hgV : g0 < V.heap.size := Nat.lt_of_lt_of_le hgb hbV.size
    have q1 := Clash.cell_in (HQ0.out _ hbV) hgV
    have q2 := Clash.cell_in (HQ1.out _ hbV) hgV
    have HCk := hide (fun (wx : World) (hx : Below V.heap.size V wx) => HCx.out wx (hbV.trans (hx.mono hbV.size)))
    have HTr := hide (fun (wx : World) (hx : Below V.heap.size V wx) => HTx.out wx (hbV.trans (hx.mono hbV.size)))
    have HAT := hide (fun (A : Option Addr) (n c : Nat) (wx : World) (hx : Below V.heap.size V wx) (hT : PfOn wx A n t) (hn : n ≤ c) => HAx.out g B A n c wx (hbV.trans (hx.mono hbV.size)) (hIV.below hx) hT hn)
    clear HTx HAx HCx
    refine wp_region_grow [(57, isC (.bool true)), (64, isPf t), (65, isC (.bool true))] [57, 64, 65]
      (by kernel_rfl) (by kernel_rfl) rfl (by kernel_rfl) (by kernel_rfl) ⟨isC_stable _, isPf_stable _, isC_stable _, trivial⟩ ?_
    repeat (first
      | (refine lex_skip rfl ?_; simp only [Act.put, List.setIfInBounds_toArray, List.set_cons_zero, List.set_cons_succ])
      | (refine lex_quiet rfl rfl rfl (fun K hK => ?_); unfold Reg; go_big_quiet_op; refine hK _ ?_; clear hK K)
      | (refine lex_rel rfl rfl (fun w' hb9 hK => ?_) (fun v w' hb9 hv => ?_)
         · clear hK
           unfold grows
           go_simp
           go_at_call 13
           exact call_isC (HCk.out w' hb9)
         obtain rfl := hv
         simp only [Act.put, List.setIfInBounds_toArray, List.set_cons_zero, List.set_cons_succ])
      | (refine lex_rel rfl rfl (fun w' hb9 hK => ?_) (fun v w' hb9 hv => ?_)
         · clear hK
           unfold grows
           go_simp
           go_at_call 14
           exact (HTr.out w' hb9).mono fun _ _ ⟨A, n, c, he, hn, hT, hb1⟩ => ⟨_, he, hb1, A, n, c, rfl, hn, hT⟩
         obtain ⟨A8, n8, c8, rfl, hn8, hT8⟩ := hv
         simp only [Act.put, List.setIfInBounds_toArray, List.set_cons_zero, List.set_cons_succ])
      | (refine lex_rel rfl rfl (fun w' hb9 hK => ?_) (fun v w' hb9 hv => ?_)
         · obtain ⟨A9, n9, c9, e9, hn9, hT9⟩ := hK.at_ 64 rfl rfl (by intro h; cases h)
           have e10 : Value.slice A8 n8 c8 = .slice A9 n9 c9 := e9
           injection e10 with e11 e12 e13
           subst e11 e12 e13
           clear hK e9
           unfold grows
           go_simp
           go_at_call 11
           exact call_isC (HAT.out _ _ _ w' hb9 hT9 hn9)
         obtain rfl := hv
         simp only [Act.put, List.setIfInBounds_toArray, List.set_cons_zero, List.set_cons_succ]))
    refine lex_nil (fun w9 hC9 hX9 => ?_)
    have hb9 := reg_iff.1 hC9
    clear hC9 hX9
    clear HCk HTr HAT
    have hb7 := hbV.trans (hb9.mono hbV.size)
    have hI7 := hIV.below hb9
    clear q1 q2 hb9 hbV hIV hgV
    go_wp2
    go_loopw [9] (fun v wr => ∃ i : Nat, i ≤ n1 ∧ v = .int .i64 (i : Int) ∧ IdxB wr B g (putsX X (m.take i)) ∧ Below W0.heap.size W0 wr) (fun v _ => n1 - (RowKit.intOf v).toNat)
    case atStart => exact ⟨0, Nat.zero_le _, rfl, hI7, hb7⟩
    case round =>
      obtain ⟨i, hi, rfl, hI, hb⟩ := hrel
      have hbs := hb.size
      clear hI7 hb7
      by_cases hlt : i < n1
      · obtain ⟨ad, q, A', n', c', rfl, hbl, hx, hss, d1, d2⟩ := PIn.at_ Hm.out hlt
        have hq := Hms.out q (List.mem_of_getElem? hx)
        have hst := putsX_take (l := X) hx
        have hr := Hr.out i
        have hYl := Hl.out i
        obtain ⟨x, bd⟩ := q
        simp only [] at d1 d2 hq hst
        have hrdw : Reads W0 W0.heap.size 1 A' n' (bcs bd) := hss
        have Hrd := hide (fun (wx : World) (hbx : Below W0.heap.size W0 wx) => hrdw.below hbx)
        have Hc := hide (fun (wx : World) (hbx : Below W0.heap.size W0 wx) => And.intro ((hbx.cell (p := ad.add (i * 2)) (by rw [block_of_add]; exact hbl)).trans d1) ((hbx.cell (p := ⟨(ad.add (i * 2)).block, (ad.add (i * 2)).off + 1, none⟩) (by simp only [block_of_add]; exact hbl)).trans d2))
        have hx9 : x.size ≤ 1000000000 := by omega
        have hi1 : (0 : Int) ≤ (i : Int) := by omega
        have hi2 : (i : Int) < (n1 : Int) := by omega
        have Hst := hide hst
        generalize putsX X (m.take i) = Y at *
        have HPt := hide (fun (wx : World) (hI9 : IdxB wx B g Y) (hr9 : Reads wx B 1 A' n' (bcs bd)) => putX_any x bd A' n' c' hI9 hr (by omega) hr9 hx9)
        have hde := hI.below (drew_b wr)
        have hrdd := (Hrd.out wr.drew hb.drew).more hWB
        have hcc := Hc.out wr.drew hb.drew
        generalize errX Y x bd = ec at *
        generalize putX Y x bd = Y2 at *
        clear hr hss hx d1 d2 hst hx9 hq hrdw Hms Hr Hl HQ0 HQ1 HQ2 Hlen Hm HW hI hYl HZA HZS
        go_upto_region 12 with fail
        go_region_held3 (fun w' => w'.cell? (ad.add (i * 2)) = some (.string x) ∧ w'.cell? ⟨(ad.add (i * 2)).block, (ad.add (i * 2)).off + 1, none⟩ = some (.slice A' n' c')) (first | exact Hc.out w9 hbk9 | exact hcc | go_keep)
          (first
            | (go_at_call 15
               refine (HPt.out _ hde hrdd).mono ?_
               rintro e w9 ⟨rfl, hI9, hb9, hT9⟩
               have hbk9 : Below W0.heap.size W0 w9 := hb.drew.trans (hb9.mono hWB)))
        go_wp2
        go_roundw
        case rel => exact ⟨i + 1, by omega, by go_num, by rw [Hst.out]; exact hI9, hbk9⟩
        case measure => simp [RowKit.intOf]; omega
      · have hi2 : i = n1 := by omega
        rw [List.take_of_length_le (by rw [Hlen.out]; omega)] at hI
        clear Hms Hr Hl Hlen Hm
        subst hi2
        have qa := HQ0.out _ hb
        have qb := HQ1.out _ hb
        go_wp2_with (first
          | (go_at_call 11
             refine (HZA.out _ _ _ hb hI).mono ?_
             rintro e w12 ⟨rfl, hb12x⟩
             have hb12 := hb.trans (hb12x.mono hbs)
             have hI12 := hI.below hb12x
             have q12a := HQ0.out _ hb12
             have q12c := HQ2.out _ hb12)
          | (go_at_call 12
             refine (HZS.out _ _ _ hb12 hI12).mono ?_
             rintro e w13 ⟨rfl, hb13x⟩
             have hb13 := hb12.trans (hb13x.mono hb12.size))
          | (go_at_call 9
             refine (HW.out _).mono ?_
             rintro e wE ⟨rfl, hbE⟩
             have hbe := hb13.trans (hbE.mono hb13.size)))
        go_ret
        exact ⟨rfl, hbw0.trans (hbe.mono hbw0.size)⟩
  | false =>
    clear Hac HZA HZS HXS hac
    go_upto_region 5 with (first
      | (go_at_call 11
         refine (HXA.out _ _ _ hb8 hI8).mono ?_
         rintro e w10 ⟨rfl, hb10x⟩
         have hb10 := hb8.trans (hb10x.mono hb8.size)
         have hI10 := hI8.below hb10x
         have q10a := HQ0.out _ hb10
         have q10c := HQ2.out _ hb10))
    clear HXA q8a q8b hI8 hb8 hb10x
    go_upto_region 7 with fail
    clear q10a q10c
    obtain ⟨V, hV⟩ : ∃ V, V = w10 := ⟨_, rfl⟩
    subst hV
    have hbV := hb10
    have hIV := hI10
    clear hb10 hI10
    have hgV : g0 < V.heap.size := Nat.lt_of_lt_of_le hgb hbV.size
    have q1 := Clash.cell_in (HQ0.out _ hbV) hgV
    have q2 := Clash.cell_in (HQ1.out _ hbV) hgV
    have HCk := hide (fun (wx : World) (hx : Below V.heap.size V wx) => HCx.out wx (hbV.trans (hx.mono hbV.size)))
    cases ho : okPf s with
    | false =>
      rw [ho] at HCk
      clear HTx HAx HCx ho
      refine wp_region_grow [(57, isC (.bool false))] [57]
        (by kernel_rfl) (by kernel_rfl) rfl (by kernel_rfl) (by kernel_rfl) ⟨isC_stable _, trivial⟩ ?_
      repeat (first
        | (refine lex_skip rfl ?_; simp only [Act.put, List.setIfInBounds_toArray, List.set_cons_zero, List.set_cons_succ])
        | (refine lex_quiet rfl rfl rfl (fun K hK => ?_); unfold Reg; go_big_quiet_op; refine hK _ ?_; clear hK K)
        | (refine lex_rel rfl rfl (fun w' hb9 hK => ?_) (fun v w' hb9 hv => ?_)
           · clear hK
             unfold grows
             go_simp
             go_at_call 13
             exact call_isC (HCk.out w' hb9)
           obtain rfl := hv
           simp only [Act.put, List.setIfInBounds_toArray, List.set_cons_zero, List.set_cons_succ]))
      refine lex_nil (fun w9 hC9 hX9 => ?_)
      have hb9 := reg_iff.1 hC9
      clear hC9 hX9
      clear HCk
      have hb7 := hbV.trans (hb9.mono hbV.size)
      have hI7 := hIV.below hb9
      clear q1 q2 hb9 hbV hIV hgV
      go_wp2
      go_loopw [9] (fun v wr => ∃ i : Nat, i ≤ n1 ∧ v = .int .i64 (i : Int) ∧ IdxB wr B g (putsX X (m.take i)) ∧ Below W0.heap.size W0 wr) (fun v _ => n1 - (RowKit.intOf v).toNat)
      case atStart => exact ⟨0, Nat.zero_le _, rfl, hI7, hb7⟩
      case round =>
        obtain ⟨i, hi, rfl, hI, hb⟩ := hrel
        have hbs := hb.size
        clear hI7 hb7
        by_cases hlt : i < n1
        · obtain ⟨ad, q, A', n', c', rfl, hbl, hx, hss, d1, d2⟩ := PIn.at_ Hm.out hlt
          have hq := Hms.out q (List.mem_of_getElem? hx)
          have hst := putsX_take (l := X) hx
          have hr := Hr.out i
          have hYl := Hl.out i
          obtain ⟨x, bd⟩ := q
          simp only [] at d1 d2 hq hst
          have hrdw : Reads W0 W0.heap.size 1 A' n' (bcs bd) := hss
          have Hrd := hide (fun (wx : World) (hbx : Below W0.heap.size W0 wx) => hrdw.below hbx)
          have Hc := hide (fun (wx : World) (hbx : Below W0.heap.size W0 wx) => And.intro ((hbx.cell (p := ad.add (i * 2)) (by rw [block_of_add]; exact hbl)).trans d1) ((hbx.cell (p := ⟨(ad.add (i * 2)).block, (ad.add (i * 2)).off + 1, none⟩) (by simp only [block_of_add]; exact hbl)).trans d2))
          have hx9 : x.size ≤ 1000000000 := by omega
          have hi1 : (0 : Int) ≤ (i : Int) := by omega
          have hi2 : (i : Int) < (n1 : Int) := by omega
          have Hst := hide hst
          generalize putsX X (m.take i) = Y at *
          have HPt := hide (fun (wx : World) (hI9 : IdxB wx B g Y) (hr9 : Reads wx B 1 A' n' (bcs bd)) => putX_any x bd A' n' c' hI9 hr (by omega) hr9 hx9)
          have hde := hI.below (drew_b wr)
          have hrdd := (Hrd.out wr.drew hb.drew).more hWB
          have hcc := Hc.out wr.drew hb.drew
          generalize errX Y x bd = ec at *
          generalize putX Y x bd = Y2 at *
          clear hr hss hx d1 d2 hst hx9 hq hrdw Hms Hr Hl HQ0 HQ1 HQ2 Hlen Hm HW hI hYl 
          go_upto_region 12 with fail
          go_region_held3 (fun w' => w'.cell? (ad.add (i * 2)) = some (.string x) ∧ w'.cell? ⟨(ad.add (i * 2)).block, (ad.add (i * 2)).off + 1, none⟩ = some (.slice A' n' c')) (first | exact Hc.out w9 hbk9 | exact hcc | go_keep)
            (first
              | (go_at_call 15
                 refine (HPt.out _ hde hrdd).mono ?_
                 rintro e w9 ⟨rfl, hI9, hb9, hT9⟩
                 have hbk9 : Below W0.heap.size W0 w9 := hb.drew.trans (hb9.mono hWB)))
          go_wp2
          go_roundw
          case rel => exact ⟨i + 1, by omega, by go_num, by rw [Hst.out]; exact hI9, hbk9⟩
          case measure => simp [RowKit.intOf]; omega
        · have hi2 : i = n1 := by omega
          rw [List.take_of_length_le (by rw [Hlen.out]; omega)] at hI
          clear Hms Hr Hl Hlen Hm
          subst hi2
          go_wp2_with (first
            | (go_at_call 9
               refine (HW.out _).mono ?_
               rintro e wE ⟨rfl, hbE⟩
               have hbe := hb.trans (hbE.mono hbs)))
          go_ret
          exact ⟨rfl, hbw0.trans (hbe.mono hbw0.size)⟩
    | true =>
      rw [ho] at HCk
      replace HTx := hide (fun (wx : World) (hx : Below W0.heap.size W0 wx) => HTx.out ho wx hx)
      obtain ⟨b2, hb2⟩ : ∃ b, b = acceptB X root t := ⟨_, rfl⟩
      rw [← hb2] at HAx
      clear ho hb2
      have HTr := hide (fun (wx : World) (hx : Below V.heap.size V wx) => HTx.out wx (hbV.trans (hx.mono hbV.size)))
      have HAT := hide (fun (A : Option Addr) (n c : Nat) (wx : World) (hx : Below V.heap.size V wx) (hT : PfOn wx A n t) (hn : n ≤ c) => HAx.out g B A n c wx (hbV.trans (hx.mono hbV.size)) (hIV.below hx) hT hn)
      clear HTx HAx HCx
      cases b2 with
      | false =>
        refine wp_region_grow [(57, isC (.bool true)), (64, isPf t), (65, isC (.bool false))] [57, 64, 65]
          (by kernel_rfl) (by kernel_rfl) rfl (by kernel_rfl) (by kernel_rfl) ⟨isC_stable _, isPf_stable _, isC_stable _, trivial⟩ ?_
        repeat (first
          | (refine lex_skip rfl ?_; simp only [Act.put, List.setIfInBounds_toArray, List.set_cons_zero, List.set_cons_succ])
          | (refine lex_quiet rfl rfl rfl (fun K hK => ?_); unfold Reg; go_big_quiet_op; refine hK _ ?_; clear hK K)
          | (refine lex_rel rfl rfl (fun w' hb9 hK => ?_) (fun v w' hb9 hv => ?_)
             · clear hK
               unfold grows
               go_simp
               go_at_call 13
               exact call_isC (HCk.out w' hb9)
             obtain rfl := hv
             simp only [Act.put, List.setIfInBounds_toArray, List.set_cons_zero, List.set_cons_succ])
          | (refine lex_rel rfl rfl (fun w' hb9 hK => ?_) (fun v w' hb9 hv => ?_)
             · clear hK
               unfold grows
               go_simp
               go_at_call 14
               exact (HTr.out w' hb9).mono fun _ _ ⟨A, n, c, he, hn, hT, hb1⟩ => ⟨_, he, hb1, A, n, c, rfl, hn, hT⟩
             obtain ⟨A8, n8, c8, rfl, hn8, hT8⟩ := hv
             simp only [Act.put, List.setIfInBounds_toArray, List.set_cons_zero, List.set_cons_succ])
          | (refine lex_rel rfl rfl (fun w' hb9 hK => ?_) (fun v w' hb9 hv => ?_)
             · obtain ⟨A9, n9, c9, e9, hn9, hT9⟩ := hK.at_ 64 rfl rfl (by intro h; cases h)
               have e10 : Value.slice A8 n8 c8 = .slice A9 n9 c9 := e9
               injection e10 with e11 e12 e13
               subst e11 e12 e13
               clear hK e9
               unfold grows
               go_simp
               go_at_call 11
               exact call_isC (HAT.out _ _ _ w' hb9 hT9 hn9)
             obtain rfl := hv
             simp only [Act.put, List.setIfInBounds_toArray, List.set_cons_zero, List.set_cons_succ]))
        refine lex_nil (fun w9 hC9 hX9 => ?_)
        have hb9 := reg_iff.1 hC9
        clear hC9 hX9
        clear HCk HTr HAT
        have hb7 := hbV.trans (hb9.mono hbV.size)
        have hI7 := hIV.below hb9
        clear q1 q2 hb9 hbV hIV hgV
        go_wp2
        go_loopw [9] (fun v wr => ∃ i : Nat, i ≤ n1 ∧ v = .int .i64 (i : Int) ∧ IdxB wr B g (putsX X (m.take i)) ∧ Below W0.heap.size W0 wr) (fun v _ => n1 - (RowKit.intOf v).toNat)
        case atStart => exact ⟨0, Nat.zero_le _, rfl, hI7, hb7⟩
        case round =>
          obtain ⟨i, hi, rfl, hI, hb⟩ := hrel
          have hbs := hb.size
          clear hI7 hb7
          by_cases hlt : i < n1
          · obtain ⟨ad, q, A', n', c', rfl, hbl, hx, hss, d1, d2⟩ := PIn.at_ Hm.out hlt
            have hq := Hms.out q (List.mem_of_getElem? hx)
            have hst := putsX_take (l := X) hx
            have hr := Hr.out i
            have hYl := Hl.out i
            obtain ⟨x, bd⟩ := q
            simp only [] at d1 d2 hq hst
            have hrdw : Reads W0 W0.heap.size 1 A' n' (bcs bd) := hss
            have Hrd := hide (fun (wx : World) (hbx : Below W0.heap.size W0 wx) => hrdw.below hbx)
            have Hc := hide (fun (wx : World) (hbx : Below W0.heap.size W0 wx) => And.intro ((hbx.cell (p := ad.add (i * 2)) (by rw [block_of_add]; exact hbl)).trans d1) ((hbx.cell (p := ⟨(ad.add (i * 2)).block, (ad.add (i * 2)).off + 1, none⟩) (by simp only [block_of_add]; exact hbl)).trans d2))
            have hx9 : x.size ≤ 1000000000 := by omega
            have hi1 : (0 : Int) ≤ (i : Int) := by omega
            have hi2 : (i : Int) < (n1 : Int) := by omega
            have Hst := hide hst
            generalize putsX X (m.take i) = Y at *
            have HPt := hide (fun (wx : World) (hI9 : IdxB wx B g Y) (hr9 : Reads wx B 1 A' n' (bcs bd)) => putX_any x bd A' n' c' hI9 hr (by omega) hr9 hx9)
            have hde := hI.below (drew_b wr)
            have hrdd := (Hrd.out wr.drew hb.drew).more hWB
            have hcc := Hc.out wr.drew hb.drew
            generalize errX Y x bd = ec at *
            generalize putX Y x bd = Y2 at *
            clear hr hss hx d1 d2 hst hx9 hq hrdw Hms Hr Hl HQ0 HQ1 HQ2 Hlen Hm HW hI hYl 
            go_upto_region 12 with fail
            go_region_held3 (fun w' => w'.cell? (ad.add (i * 2)) = some (.string x) ∧ w'.cell? ⟨(ad.add (i * 2)).block, (ad.add (i * 2)).off + 1, none⟩ = some (.slice A' n' c')) (first | exact Hc.out w9 hbk9 | exact hcc | go_keep)
              (first
                | (go_at_call 15
                   refine (HPt.out _ hde hrdd).mono ?_
                   rintro e w9 ⟨rfl, hI9, hb9, hT9⟩
                   have hbk9 : Below W0.heap.size W0 w9 := hb.drew.trans (hb9.mono hWB)))
            go_wp2
            go_roundw
            case rel => exact ⟨i + 1, by omega, by go_num, by rw [Hst.out]; exact hI9, hbk9⟩
            case measure => simp [RowKit.intOf]; omega
          · have hi2 : i = n1 := by omega
            rw [List.take_of_length_le (by rw [Hlen.out]; omega)] at hI
            clear Hms Hr Hl Hlen Hm
            subst hi2
            go_wp2_with (first
              | (go_at_call 9
                 refine (HW.out _).mono ?_
                 rintro e wE ⟨rfl, hbE⟩
                 have hbe := hb.trans (hbE.mono hbs)))
            go_ret
            exact ⟨rfl, hbw0.trans (hbe.mono hbw0.size)⟩
      | true =>
        refine wp_region_grow [(57, isC (.bool true)), (64, isPf t), (65, isC (.bool true))] [57, 64, 65]
          (by kernel_rfl) (by kernel_rfl) rfl (by kernel_rfl) (by kernel_rfl) ⟨isC_stable _, isPf_stable _, isC_stable _, trivial⟩ ?_
        repeat (first
          | (refine lex_skip rfl ?_; simp only [Act.put, List.setIfInBounds_toArray, List.set_cons_zero, List.set_cons_succ])
          | (refine lex_quiet rfl rfl rfl (fun K hK => ?_); unfold Reg; go_big_quiet_op; refine hK _ ?_; clear hK K)
          | (refine lex_rel rfl rfl (fun w' hb9 hK => ?_) (fun v w' hb9 hv => ?_)
             · clear hK
               unfold grows
               go_simp
               go_at_call 13
               exact call_isC (HCk.out w' hb9)
             obtain rfl := hv
             simp only [Act.put, List.setIfInBounds_toArray, List.set_cons_zero, List.set_cons_succ])
          | (refine lex_rel rfl rfl (fun w' hb9 hK => ?_) (fun v w' hb9 hv => ?_)
             · clear hK
               unfold grows
               go_simp
               go_at_call 14
               exact (HTr.out w' hb9).mono fun _ _ ⟨A, n, c, he, hn, hT, hb1⟩ => ⟨_, he, hb1, A, n, c, rfl, hn, hT⟩
             obtain ⟨A8, n8, c8, rfl, hn8, hT8⟩ := hv
             simp only [Act.put, List.setIfInBounds_toArray, List.set_cons_zero, List.set_cons_succ])
          | (refine lex_rel rfl rfl (fun w' hb9 hK => ?_) (fun v w' hb9 hv => ?_)
             · obtain ⟨A9, n9, c9, e9, hn9, hT9⟩ := hK.at_ 64 rfl rfl (by intro h; cases h)
               have e10 : Value.slice A8 n8 c8 = .slice A9 n9 c9 := e9
               injection e10 with e11 e12 e13
               subst e11 e12 e13
               clear hK e9
               unfold grows
               go_simp
               go_at_call 11
               exact call_isC (HAT.out _ _ _ w' hb9 hT9 hn9)
             obtain rfl := hv
             simp only [Act.put, List.setIfInBounds_toArray, List.set_cons_zero, List.set_cons_succ]))
        refine lex_nil (fun w9 hC9 hX9 => ?_)
        have hb9 := reg_iff.1 hC9
        clear hC9 hX9
        clear HCk HTr HAT
        have hb7 := hbV.trans (hb9.mono hbV.size)
        have hI7 := hIV.below hb9
        clear q1 q2 hb9 hbV hIV hgV
        go_wp2
        go_loopw [9] (fun v wr => ∃ i : Nat, i ≤ n1 ∧ v = .int .i64 (i : Int) ∧ IdxB wr B g (putsX X (m.take i)) ∧ Below W0.heap.size W0 wr) (fun v _ => n1 - (RowKit.intOf v).toNat)
        case atStart => exact ⟨0, Nat.zero_le _, rfl, hI7, hb7⟩
        case round =>
          obtain ⟨i, hi, rfl, hI, hb⟩ := hrel
          have hbs := hb.size
          clear hI7 hb7
          by_cases hlt : i < n1
          · obtain ⟨ad, q, A', n', c', rfl, hbl, hx, hss, d1, d2⟩ := PIn.at_ Hm.out hlt
            have hq := Hms.out q (List.mem_of_getElem? hx)
            have hst := putsX_take (l := X) hx
            have hr := Hr.out i
            have hYl := Hl.out i
            obtain ⟨x, bd⟩ := q
            simp only [] at d1 d2 hq hst
            have hrdw : Reads W0 W0.heap.size 1 A' n' (bcs bd) := hss
            have Hrd := hide (fun (wx : World) (hbx : Below W0.heap.size W0 wx) => hrdw.below hbx)
            have Hc := hide (fun (wx : World) (hbx : Below W0.heap.size W0 wx) => And.intro ((hbx.cell (p := ad.add (i * 2)) (by rw [block_of_add]; exact hbl)).trans d1) ((hbx.cell (p := ⟨(ad.add (i * 2)).block, (ad.add (i * 2)).off + 1, none⟩) (by simp only [block_of_add]; exact hbl)).trans d2))
            have hx9 : x.size ≤ 1000000000 := by omega
            have hi1 : (0 : Int) ≤ (i : Int) := by omega
            have hi2 : (i : Int) < (n1 : Int) := by omega
            have Hst := hide hst
            generalize putsX X (m.take i) = Y at *
            have HPt := hide (fun (wx : World) (hI9 : IdxB wx B g Y) (hr9 : Reads wx B 1 A' n' (bcs bd)) => putX_any x bd A' n' c' hI9 hr (by omega) hr9 hx9)
            have hde := hI.below (drew_b wr)
            have hrdd := (Hrd.out wr.drew hb.drew).more hWB
            have hcc := Hc.out wr.drew hb.drew
            generalize errX Y x bd = ec at *
            generalize putX Y x bd = Y2 at *
            clear hr hss hx d1 d2 hst hx9 hq hrdw Hms Hr Hl HQ0 HQ1 HQ2 Hlen Hm HW hI hYl 
            go_upto_region 12 with fail
            go_region_held3 (fun w' => w'.cell? (ad.add (i * 2)) = some (.string x) ∧ w'.cell? ⟨(ad.add (i * 2)).block, (ad.add (i * 2)).off + 1, none⟩ = some (.slice A' n' c')) (first | exact Hc.out w9 hbk9 | exact hcc | go_keep)
              (first
                | (go_at_call 15
                   refine (HPt.out _ hde hrdd).mono ?_
                   rintro e w9 ⟨rfl, hI9, hb9, hT9⟩
                   have hbk9 : Below W0.heap.size W0 w9 := hb.drew.trans (hb9.mono hWB)))
            go_wp2
            go_roundw
            case rel => exact ⟨i + 1, by omega, by go_num, by rw [Hst.out]; exact hI9, hbk9⟩
            case measure => simp [RowKit.intOf]; omega
          · have hi2 : i = n1 := by omega
            rw [List.take_of_length_le (by rw [Hlen.out]; omega)] at hI
            clear Hms Hr Hl Hlen Hm
            subst hi2
            go_wp2_with (first
              | (go_at_call 9
                 refine (HW.out _).mono ?_
                 rintro e wE ⟨rfl, hbE⟩
                 have hbe := hb.trans (hbE.mono hbs)))
            go_ret
            exact ⟨rfl, hbw0.trans (hbe.mono hbw0.size)⟩
theorem jsound_walk (SA : SpecAcceptJ) (SC : SpecCheckPf) (ST : SpecTrimPf) (SS : SpecSol) (l m : List En) (root : List Nd) (s : List Sp) (p : List Pk) (A0 A1 A2 A3 A4 : Option Addr) (n0 c0 n1 c1 n2 c2 n3 c3 n4 c4 : Nat) (w : World) (h : EnOn w A0 n0 l) (hm : EnOn w A1 n1 m) (h' : NdOn w A2 n2 root) (h'' : PfOn w A3 n3 s) (h3 : PkOn w A4 n4 p) (hn : n0 ≤ 9223372036854775807) (hnm : n1 ≤ 9223372036854775807) (hn' : n2 ≤ 9223372036854775807) (hn'' : n3 ≤ 9223372036854775807) (hn3 : n4 ≤ 9223372036854775807) (hc3 : n3 ≤ c3) (hc4 : n4 ≤ c4) (hTb : Units w) :
    Calls Tryz.prog 3 #[.slice A0 n0 c0, .slice A1 n1 c1, .agg #[.slice A2 n2 c2, .slice A3 n3 c3, .slice A4 n4 c4]] w fun e w' => e = .returned (.bool true) ∧ Below w.heap.size w w' := by
  cases hsk : skipS l m root s p with
  | true => exact jsound_skip SA l m root s p A0 A1 A2 A3 A4 n0 c0 n1 c1 n2 c2 n3 c3 n4 c4 w h hm h' h'' h3 hn hnm hn' hn'' hn3 hsk
  | false => exact jsound_main SA SC ST SS l m root s p A0 A1 A2 A3 A4 n0 c0 n1 c1 n2 c2 n3 c3 n4 c4 w h hm h' h'' h3 hn hnm hn' hn'' hn3 hc3 hc4 hTb hsk
end Go.Proofs.YtdmejcfnolhplaaGreatDoor.Judge
