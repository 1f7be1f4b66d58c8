/-
  Some texts of this claim, one behind the other: ReachAwake, FitAwake. What each proves, and its condition, stands at its head.
-/
import Derived.Test.YtjbjdoioallpkaaGreatDoorZ44
import Derived.Lib.SlBytesConst
import Derived.Lib.SmallJoins
/-
  The chapter's example (awake): it holds. No condition.
-/
namespace Go.Proofs.YtjbjdoioallpkaaGreatDoor.Reach
open Go Go.RowKit Go.Lib Go.Sort Go.Proofs.YtjbjdoioallpkaaGreatDoor.Span Go.Proofs.YtjbjdoioallpkaaGreatDoor.Need Go.Proofs.YtjbjdoioallpkaaGreatDoor.Mani Go.Proofs.YtjbjdoioallpkaaGreatDoor.Wire Go.Proofs.YtjbjdoioallpkaaGreatDoor.Depot Go.Proofs.YtjbjdoioallpkaaGreatDoor.Index
set_option linter.unusedVariables false
/-- A put of bytes in a block of their own type. -/
theorem putF_any (g : Nat) (l : List Kn) (nm : ByteArray) (bd : List UInt8) (A : Option Addr) (n c B : Nat) (w : World) (h : IdxB w B g l) (hl : RisesK l) (hlen : l.length ≤ 100000) (hr : Reads w w.heap.size 1 A n (bcs bd)) (hd : ∀ ad, A = some ad → 0 < n → ∃ cur m, w.heap[ad.block]? = some (.cells cur 5 m)) (hnm : nm.size ≤ 1000000000) :
    Calls Tryz.prog 21 #[.pointer (some ⟨g, 0, none⟩), .string nm, .slice A n c] w fun e w' =>
      e = .returned (.int .i64 (errX l nm bd)) ∧ IdxB w' B g (putX l nm bd) ∧ Below B w w' := by
  have hle := h.le
  obtain ⟨h1, mo, h2, h3⟩ := h
  refine (putT_any g mo l nm bd A n c w h2 hl hlen hr hd hnm).mono ?_
  rintro e w' ⟨he, ⟨mo', h4, h5⟩, hg⟩
  refine ⟨he, ⟨h1, mo', h4, fun b hb => ?_⟩, (Below.refl _ _).grown hg hle (fun k hk => by injection hk with hk; rw [← hk]; exact IdxB.row h1 h3)⟩
  rcases h5 with rfl | ⟨_, b', e2, h6⟩
  · exact h3 b hb
  · rw [hb] at e2
    injection e2 with e2
    rw [e2]; exact Nat.le_trans hle h6
theorem spIn_one (w : World) (x y : Int) (B g : Nat) (h : Blk w g 58 #[.int .i64 x, .int .i64 y]) (hB : g < B) : SpIn w B (some ⟨g, 0, none⟩) 1 [(x, y)] :=
  ⟨rfl, fun _ => ⟨_, rfl, hB, fun i s hs => by
    rcases i with _ | i
    · simp at hs
      subst hs
      exact ⟨h.cell 0, h.cell 1⟩
    · simp at hs⟩⟩
theorem ndOn_one (w : World) (g g2 : Nat) (h : Blk w g 58 #[.int .i64 0, .int .i64 1000000000]) (h2 : Blk w g2 49 #[.string (str [97]), .slice (some ⟨g, 0, none⟩) 1 1]) : NdOn w (some ⟨g2, 0, none⟩) 1 exN := by
  refine ⟨[(str [97], .slice (some ⟨g, 0, none⟩) 1 1)], ⟨rfl, fun _ => ⟨_, rfl, h2.lt, fun j u hu => ?_⟩⟩, rfl, fun i r q hr hq => ?_⟩
  · rcases j with _ | j
    · simp [rcs] at hu
      subst hu
      exact h2.cell 0
    · rcases j with _ | j
      · simp [rcs] at hu
        subst hu
        exact h2.cell 1
      · simp [rcs] at hu
  · rcases i with _ | i
    · simp [exN] at hr hq
      subst hr hq
      exact ⟨rfl, _, 1, 1, rfl, spIn_one w 0 1000000000 _ g h h.lt⟩
    · simp at hr
theorem ex_put (B g : Nat) (w : World) (h : IdxB w B g []) :
    Calls Tryz.prog 21 #[.pointer (some ⟨g, 0, none⟩), .string (str [97]), .slice (some ⟨w.heap.size, 0, none⟩) 8 8] (w.alloc (.cells #[.int .u8 1, .int .u8 97, .int .u8 1, .int .u8 0, .int .u8 1, .int .u8 1, .int .u8 98, .int .u8 0] 5 (8, 9))) fun e w' =>
      e = .returned (.int .i64 0) ∧ IdxB w' B g exX ∧ Below B (w.alloc (.cells #[.int .u8 1, .int .u8 97, .int .u8 1, .int .u8 0, .int .u8 1, .int .u8 1, .int .u8 98, .int .u8 0] 5 (8, 9))) w' := by
  have hb := heap_alloc_new w (.cells #[.int .u8 1, .int .u8 97, .int .u8 1, .int .u8 0, .int .u8 1, .int .u8 1, .int .u8 98, .int .u8 0] 5 (8, 9))
  have hr : Reads (w.alloc (.cells #[.int .u8 1, .int .u8 97, .int .u8 1, .int .u8 0, .int .u8 1, .int .u8 1, .int .u8 98, .int .u8 0] 5 (8, 9))) (w.heap.size + 1) 1 (some ⟨w.heap.size, 0, none⟩) 8 (bcs exB) := by
    refine ⟨rfl, fun _ => ⟨_, rfl, Nat.lt_succ_self _, fun j u hu => ?_⟩⟩
    have hadd : (⟨w.heap.size, 0, none⟩ : Addr).add j = ⟨w.heap.size, j, none⟩ := by unfold Addr.add; split <;> simp_all
    rw [hadd, World.cell?_alloc_mark]
    rw [← hu]
    simp [bcs, exB]
  have := putF_any g [] (str [97]) exB (some ⟨w.heap.size, 0, none⟩) 8 8 B _ (h.below (alloc_b _)) List.Pairwise.nil (by simp) (by rw [World.size_alloc]; exact hr) (fun ad hA _ => by injection hA with hA; subst hA; exact ⟨_, _, hb⟩) (by decide)
  rw [err_ex, puts_ex] at this
  exact this
end Go.Proofs.YtjbjdoioallpkaaGreatDoor.Reach
/-
  The chapter's example (awake): it holds, if the program's Wrong and Solution tell what they have to. Condition: those two premises; the program's own table holds what its text lays in it.
-/
namespace Go.Proofs.YtjbjdoioallpkaaGreatDoor.Fit
open Go Go.RowKit Go.Lib Go.Sort Go.Proofs.YtjbjdoioallpkaaGreatDoor.Span Go.Proofs.YtjbjdoioallpkaaGreatDoor.Need Go.Proofs.YtjbjdoioallpkaaGreatDoor.Mani Go.Proofs.YtjbjdoioallpkaaGreatDoor.Wire Go.Proofs.YtjbjdoioallpkaaGreatDoor.Depot Go.Proofs.YtjbjdoioallpkaaGreatDoor.Index Go.Proofs.YtjbjdoioallpkaaGreatDoor.Reach Go.Proofs.YtjbjdoioallpkaaGreatDoor.Pick
open Go.Proofs.YtjbjdoioallpkaaGreatDoor.Vlq (enc hi_zero held)
open Go.Proofs.YtjbjdoioallpkaaGreatDoor.Label (runes fitL runes_step runes_end rn wd)
open Go.Proofs.YtjbjdoioallpkaaGreatDoor.Ver (Units)
set_option linter.unusedVariables false
def fxB : List UInt8 := [1, 97, 1, 5, 0]
def fxR : List Rl := [(5, [])]
def fxX : List Kn := [(str [97], (fxR, true))]
def fxN : List Nd := [(str [97], [(0, 9)])]
def fxP : List Pk := [(str [97], 5)]
theorem fx_ok : okM (str [97]) fxR = true := by
  unfold okM fxR
  rw [fit_one]
  decide
theorem fx_put : putB (str [97]) fxR = fxB := by
  unfold putB
  rw [if_pos fx_ok]
  have e0 : held 5 = 5 := by decide
  have e1 : encN 5 = [5] := by unfold encN; rw [e0]; unfold enc; rw [show 5 / 128 = 0 from rfl, hi_zero]; rfl
  have e00 : held 1 = 1 := by decide
  have e11 : encN 1 = [1] := by unfold encN; rw [e00]; unfold enc; rw [show 1 / 128 = 0 from rfl, hi_zero]; rfl
  have e02 : held 0 = 0 := by decide
  have e12 : encN 0 = [0] := by unfold encN; rw [e02]; unfold enc; rw [show 0 / 128 = 0 from rfl, hi_zero]; rfl
  have e2 : enc 1 = [1] := by unfold enc; rw [show 1 / 128 = 0 from rfl, hi_zero]; rfl
  have e3 : textB (str [97]) = [1, 97] := by
    unfold textB
    rw [show (str [97]).size = 1 from rfl, e2]
    rfl
  simp only [manB, fxR, listB, flat_one, flat_nil, relB, e3, List.length_singleton, List.length_nil, show ((1 : Nat) : Int) = 1 from rfl, show ((0 : Nat) : Int) = 0 from rfl, e1, e11, e12]
  rfl
theorem fx_good : goodE (str [97]) fxB = true ∧ relE (str [97]) fxB = fxR := by rw [← fx_put]; exact good_put fx_ok
theorem fx_err : errX [] (str [97]) fxB = 0 := by
  rw [errX_zero]
  refine ⟨?_, rfl⟩
  unfold mayX
  rw [fit_one]
  decide
theorem fx_puts : putX [] (str [97]) fxB = fxX := by
  unfold putX
  rw [if_pos fx_err]
  unfold valX
  rw [fx_good.1, fx_good.2]
  rfl
theorem fx_at : atX fxX (str [97]) = some (fxR, true) := by unfold fxX; rw [atX, if_pos rfl]
theorem fx_fine : FineX fxX := by
  intro q hq
  rw [List.mem_singleton.1 hq]
  refine ⟨by decide, fun p hp => ?_⟩
  rw [List.mem_singleton.1 hp]
  exact ⟨by decide, fun y hy => by cases hy⟩
theorem fx_set : SetX fxX := by
  intro q hq r hr
  rw [List.mem_singleton.1 hq] at hr
  rw [List.mem_singleton.1 hr]
  rfl
theorem fx_root : okS fxN = true := by
  have h1 : nlt ByteArray.empty (str [97]) = true := by
    rw [show ByteArray.empty = str [] from rfl, nlt_str]
    decide
  unfold okS
  rw [show okFrom ByteArray.empty fxN = ((fitL (runes (str [97]) 0) && nlt ByteArray.empty (str [97]) && (isSet (-1) [((0 : Int), (9 : Int))] && decide (([((0 : Int), (9 : Int))] : List S).length ≤ 6))) && true) from rfl, fit_one, h1]
  decide
theorem fx_wrong : wrongX fxX fxN [] = (2, str [97]) := rfl
theorem fx_get : getP fxP (str [97]) = some 5 := by unfold fxP; rw [getP, if_pos rfl]
theorem fx_rel : relX fxX (str [97]) 5 = some (5, []) := by
  unfold relX getX
  rw [fx_at]
  rfl
theorem fx_sol : solX fxX fxN fxP = true := by
  refine sol_iff.2 ⟨okP_iff.2 ⟨List.pairwise_singleton _ _, fun q hq => ?_⟩, fun q hq => ?_, fun p hp => ?_, fun p hp q hq => ?_, fun p hp => ?_⟩
  · rw [List.mem_singleton.1 hq]
    exact ⟨fit_one, by decide⟩
  · rw [List.mem_singleton.1 hq]
    unfold metP
    rw [fx_get]
    decide
  · rw [List.mem_singleton.1 hp, fx_rel]
    rfl
  · rw [List.mem_singleton.1 hp] at hq
    unfold needsX at hq
    rw [fx_rel] at hq
    cases hq
  · rw [List.mem_singleton.1 hp]
    exact ((needed_ok fxX fxN fxP).2 _).2 (.root (by simp [namesS, fxN]))
theorem ndOn_fx (w : World) (g g2 : Nat) (h : Blk w g 58 #[.int .i64 0, .int .i64 9]) (h2 : Blk w g2 49 #[.string (str [97]), .slice (some ⟨g, 0, none⟩) 1 1]) : NdOn w (some ⟨g2, 0, none⟩) 1 fxN := by
  refine ⟨[(str [97], .slice (some ⟨g, 0, none⟩) 1 1)], ⟨rfl, fun _ => ⟨_, rfl, h2.lt, fun j u hu => ?_⟩⟩, rfl, fun i r q hr hq => ?_⟩
  · rcases j with _ | j
    · simp [rcs] at hu
      subst hu
      exact h2.cell 0
    · rcases j with _ | j
      · simp [rcs] at hu
        subst hu
        exact h2.cell 1
      · simp [rcs] at hu
  · rcases i with _ | i
    · simp [fxN] at hr hq
      subst hr hq
      exact ⟨rfl, _, 1, 1, rfl, spIn_one w 0 9 _ g h h.lt⟩
    · simp at hr
theorem fx_putany (B g : Nat) (w : World) (h : IdxB w B g []) :
    Calls Tryz.prog 21 #[.pointer (some ⟨g, 0, none⟩), .string (str [97]), .slice (some ⟨w.heap.size, 0, none⟩) 5 5] (w.alloc (.cells #[.int .u8 1, .int .u8 97, .int .u8 1, .int .u8 5, .int .u8 0] 5 (5, 6))) fun e w' =>
      e = .returned (.int .i64 0) ∧ IdxB w' B g fxX ∧ Below B (w.alloc (.cells #[.int .u8 1, .int .u8 97, .int .u8 1, .int .u8 5, .int .u8 0] 5 (5, 6))) w' := by
  have hb := heap_alloc_new w (.cells #[.int .u8 1, .int .u8 97, .int .u8 1, .int .u8 5, .int .u8 0] 5 (5, 6))
  have hr : Reads (w.alloc (.cells #[.int .u8 1, .int .u8 97, .int .u8 1, .int .u8 5, .int .u8 0] 5 (5, 6))) (w.heap.size + 1) 1 (some ⟨w.heap.size, 0, none⟩) 5 (bcs fxB) := by
    refine ⟨rfl, fun _ => ⟨_, rfl, Nat.lt_succ_self _, fun j u hu => ?_⟩⟩
    have hadd : (⟨w.heap.size, 0, none⟩ : Addr).add j = ⟨w.heap.size, j, none⟩ := by unfold Addr.add; split <;> simp_all
    rw [hadd, World.cell?_alloc_mark]
    rw [← hu]
    simp [bcs, fxB]
  have := putF_any g [] (str [97]) fxB (some ⟨w.heap.size, 0, none⟩) 5 5 B _ (h.below (Span.alloc_b _)) List.Pairwise.nil (by simp) (by rw [World.size_alloc]; exact hr) (fun ad hA _ => by injection hA with hA; subst hA; exact ⟨_, _, hb⟩) (by decide)
  rw [fx_err, fx_puts] at this
  exact this
set_option maxHeartbeats 4000000 in
set_option maxRecDepth 100000 in
theorem awakeF_any (SW : SpecWrong) (SS : SpecSol) (w : World) (hT : Units w) : Calls Tryz.prog 8 #[] w (Tells w (.bool true)) := by
  unfold Tells
  have HN := hide (new_any w)
  have hnr : ∀ q ∈ fxN, q.1.size ≤ 100 := fun q hq => by rw [List.mem_singleton.1 hq]; decide
  have HW := hide (fun (A : Option Addr) (g : Nat) (wx : World) (hI : IdxB wx w.heap.size g fxX) (h : NdOn wx A 1 fxN) (hx : Below w.heap.size w wx) => SW fxX fxN [] (.pointer (some ⟨g, 0, none⟩)) A 1 1 none 0 0 wx
    ⟨⟨⟨_, rfl⟩, tells_idx hI fx_fine⟩, fx_fine, fx_set, by decide, h, by omega, fx_root, hnr, PkIn.nil _ _ _, by omega, by omega, (fun q hq => nomatch hq), hT.below hx⟩)
  have HS := hide (fun (A : Option Addr) (g : Nat) (Al : Option Addr) (wx : World) (hI : IdxB wx w.heap.size g fxX) (h : NdOn wx A 1 fxN) (hp : PkOn wx Al 1 fxP) (hx : Below w.heap.size w wx) => SS fxX fxN fxP (.pointer (some ⟨g, 0, none⟩)) A 1 1 Al 1 1 wx
    ⟨⟨⟨_, rfl⟩, tells_idx hI fx_fine⟩, fx_fine, fx_set, by decide, h, by omega, fx_root, hnr, hp, by omega, by omega, (fun q hq => by rw [List.mem_singleton.1 hq]; decide), hT.below hx⟩)
  rw [fx_wrong] at HW
  rw [fx_sol] at HS
  have HP := hide (fun (wx : World) (hI : IdxB wx w.heap.size w.heap.size []) => fx_putany w.heap.size w.heap.size wx hI)
  have kc := fun (w : World) (C : Array Value) (n c : Nat) => Lib.run_convert_bytes_const (P := Tryz.prog) w 44 5 C n c Tryz.underlying44 Tryz.underlying5
  have hst : ((str [97]).toList == [97]) = true := by rw [str_toList]; rfl
  clear hT SW SS
  go_enter Tryz.func8, Tryz.ntmps8
  go_wp2_with (first
    | (go_at_call 13
       have hN7 := hN6
       refine (HS.out _ _ _ _ hI6 hN7 hP6 hbw6).mono ?_
       rintro e w7 ⟨rfl, hb7⟩
       have hbw7 := hbw6.trans (hb7.mono hbw6.size))
    | (go_at_call 11
       refine (HW.out _ _ _ hI4 hN4 hbw4).mono ?_
       rintro e w5 ⟨rfl, hb5⟩
       have hbw5 := hbw4.trans (hb5.mono hbw4.size)
       have hI6 := (hI4.below hb5).below (Span.alloc_b (.cells #[.string (str [97]), .int .i64 5] 53))
       have hN6 := (hN4.on hb5).on (Span.alloc_b (.cells #[.string (str [97]), .int .i64 5] 53))
       have hP6 : PkOn (w5.alloc (.cells #[.string (str [97]), .int .i64 5] 53)) (some ⟨w5.heap.size, 0, none⟩) 1 fxP := (reads_pick w5 (str [97]) 5 _ rfl).more (by simp)
       have hbw6 := hbw5.alloc hbw5.size (.cells #[.string (str [97]), .int .i64 5] 53))
    | (go_at_call 21
       refine (HP.out _ hI1).mono ?_
       rintro e w2 ⟨rfl, hI2, hb2⟩
       have hs1 := Blk.new w2 58 #[.int .i64 0, .int .i64 9]
       have hn1 := Blk.new (w2.alloc (.cells #[.int .i64 0, .int .i64 9] 58)) 49 #[.string (str [97]), .slice (some ⟨w2.heap.size, 0, none⟩) 1 1]
       rw [World.size_alloc] at hn1
       have hN4 := ndOn_fx _ _ _ (hs1.alloc (.cells #[.string (str [97]), .slice (some ⟨w2.heap.size, 0, none⟩) 1 1] 49)) hn1
       have hI4 := (hI2.below (Span.alloc_b (.cells #[.int .i64 0, .int .i64 9] 58))).below (Span.alloc_b (.cells #[.string (str [97]), .slice (some ⟨w2.heap.size, 0, none⟩) 1 1] 49))
       have hbw2 := hb1.trans (((Span.alloc_b _).mono hb1.size).trans hb2)
       have hbw4 := (hbw2.alloc hbw2.size (.cells #[.int .i64 0, .int .i64 9] 58)).alloc (Nat.le_trans hbw2.size (by simp)) (.cells #[.string (str [97]), .slice (some ⟨w2.heap.size, 0, none⟩) 1 1] 49))
    | (go_at_call 20
       refine HN.out.mono ?_
       rintro e w1 ⟨rfl, hI0, hb1⟩
       have hI1 : IdxB w1 w.heap.size w.heap.size [] := ⟨Nat.le_refl _, none, hI0, fun b e => by cases e⟩))
  go_ret
  exact ⟨rfl, hbw7⟩
end Go.Proofs.YtjbjdoioallpkaaGreatDoor.Fit
