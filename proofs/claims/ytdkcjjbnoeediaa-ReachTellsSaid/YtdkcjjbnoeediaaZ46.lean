/-
  Some texts of this claim, one behind the other: ReachAwake. What each proves, and its condition, stands at its head.
-/
import Derived.Test.YtdkcjjbnoeediaaZ31
import Derived.Test.YtdkcjjbnoeediaaZ45
import Derived.Lib.SlBytesConst
import Derived.Lib.SmallJoins
/-
  The chapter's example (awake): it holds. No condition.
-/
namespace Go.Proofs.Ytdkcjjbnoeediaa.Reach
open Go Go.RowKit Go.Lib Go.Sort Go.Proofs.Ytdkcjjbnoeediaa.Span Go.Proofs.Ytdkcjjbnoeediaa.Need Go.Proofs.Ytdkcjjbnoeediaa.Mani Go.Proofs.Ytdkcjjbnoeediaa.Wire Go.Proofs.Ytdkcjjbnoeediaa.Depot Go.Proofs.Ytdkcjjbnoeediaa.Index
set_option linter.unusedVariables false
/-- A put of bytes in a block of their own type. -/
theorem putF_any (g : Nat) (l : List Kn) (nm : ByteArray) (bd : List UInt8) (A : Option Addr) (n c B : Nat) (w : World) (h : IdxB w B g l) (hl : RisesK l) (hlen : l.length ≤ 100000) (hr : Reads w w.heap.size 1 A n (bcs bd)) (hd : ∀ ad, A = some ad → 0 < n → ∃ cur m, w.heap[ad.block]? = some (.cells cur 5 m)) (hnm : nm.size ≤ 1000000000) :
    Calls Try.prog 17 #[.pointer (some ⟨g, 0, none⟩), .string nm, .slice A n c] w fun e w' =>
      e = .returned (.int .i64 (errX l nm bd)) ∧ IdxB w' B g (putX l nm bd) ∧ Below B w w' := by
  have hle := h.le
  obtain ⟨h1, mo, h2, h3⟩ := h
  refine (putT_any g mo l nm bd A n c w h2 hl hlen hr hd hnm).mono ?_
  rintro e w' ⟨he, ⟨mo', h4, h5⟩, hg⟩
  refine ⟨he, ⟨h1, mo', h4, fun b hb => ?_⟩, (Below.refl _ _).grown hg hle (fun k hk => by injection hk with hk; rw [← hk]; exact IdxB.row h1 h3)⟩
  rcases h5 with rfl | ⟨_, b', e2, h6⟩
  · exact h3 b hb
  · rw [hb] at e2
    injection e2 with e2
    rw [e2]; exact Nat.le_trans hle h6
theorem spIn_one (w : World) (x y : Int) (B g : Nat) (h : Blk w g 54 #[.int .i64 x, .int .i64 y]) (hB : g < B) : SpIn w B (some ⟨g, 0, none⟩) 1 [(x, y)] :=
  ⟨rfl, fun _ => ⟨_, rfl, hB, fun i s hs => by
    rcases i with _ | i
    · simp at hs
      subst hs
      exact ⟨h.cell 0, h.cell 1⟩
    · simp at hs⟩⟩
theorem ndOn_one (w : World) (g g2 : Nat) (h : Blk w g 54 #[.int .i64 0, .int .i64 1000000000]) (h2 : Blk w g2 49 #[.string (str [97]), .slice (some ⟨g, 0, none⟩) 1 1]) : NdOn w (some ⟨g2, 0, none⟩) 1 exN := by
  refine ⟨[(str [97], .slice (some ⟨g, 0, none⟩) 1 1)], ⟨rfl, fun _ => ⟨_, rfl, h2.lt, fun j u hu => ?_⟩⟩, rfl, fun i r q hr hq => ?_⟩
  · rcases j with _ | j
    · simp [rcs] at hu
      subst hu
      exact h2.cell 0
    · rcases j with _ | j
      · simp [rcs] at hu
        subst hu
        exact h2.cell 1
      · simp [rcs] at hu
  · rcases i with _ | i
    · simp [exN] at hr hq
      subst hr hq
      exact ⟨rfl, _, 1, 1, rfl, spIn_one w 0 1000000000 _ g h h.lt⟩
    · simp at hr
theorem ex_put (B g : Nat) (w : World) (h : IdxB w B g []) :
    Calls Try.prog 17 #[.pointer (some ⟨g, 0, none⟩), .string (str [97]), .slice (some ⟨w.heap.size, 0, none⟩) 8 8] (w.alloc (.cells #[.int .u8 1, .int .u8 97, .int .u8 1, .int .u8 0, .int .u8 1, .int .u8 1, .int .u8 98, .int .u8 0] 5 (8, 9))) fun e w' =>
      e = .returned (.int .i64 0) ∧ IdxB w' B g exX ∧ Below B (w.alloc (.cells #[.int .u8 1, .int .u8 97, .int .u8 1, .int .u8 0, .int .u8 1, .int .u8 1, .int .u8 98, .int .u8 0] 5 (8, 9))) w' := by
  have hb := heap_alloc_new w (.cells #[.int .u8 1, .int .u8 97, .int .u8 1, .int .u8 0, .int .u8 1, .int .u8 1, .int .u8 98, .int .u8 0] 5 (8, 9))
  have hr : Reads (w.alloc (.cells #[.int .u8 1, .int .u8 97, .int .u8 1, .int .u8 0, .int .u8 1, .int .u8 1, .int .u8 98, .int .u8 0] 5 (8, 9))) (w.heap.size + 1) 1 (some ⟨w.heap.size, 0, none⟩) 8 (bcs exB) := by
    refine ⟨rfl, fun _ => ⟨_, rfl, Nat.lt_succ_self _, fun j u hu => ?_⟩⟩
    have hadd : (⟨w.heap.size, 0, none⟩ : Addr).add j = ⟨w.heap.size, j, none⟩ := by unfold Addr.add; split <;> simp_all
    rw [hadd, World.cell?_alloc_mark]
    rw [← hu]
    simp [bcs, exB]
  have := putF_any g [] (str [97]) exB (some ⟨w.heap.size, 0, none⟩) 8 8 B _ (h.below (alloc_b _)) List.Pairwise.nil (by simp) (by rw [World.size_alloc]; exact hr) (fun ad hA _ => by injection hA with hA; subst hA; exact ⟨_, _, hb⟩) (by decide)
  rw [err_ex, puts_ex] at this
  exact this
set_option maxHeartbeats 4000000 in
set_option maxRecDepth 100000 in
theorem awakeR_any (w : World) : Calls Try.prog 8 #[] w (Tells w (.bool true)) := by
  unfold Tells
  have HN := hide (new_any w)
  have hnm : (str [97]).size ≤ 1000000000 := by decide
  have hnr : ∀ q ∈ exN, q.1.size ≤ 100 := fun q hq => by rw [List.mem_singleton.1 hq]; decide
  have HM := hide (fun (A : Option Addr) (g : Nat) (wx : World) (hI : IdxB wx w.heap.size g exX) (h : NdOn wx A 1 exN) => reachMissing_any exX exN (.pointer (some ⟨g, 0, none⟩)) A 1 1 wx (tells_idx hI fine_ex) fine_ex (by decide) h (by omega) hnr)
  have HA := hide (fun (A : Option Addr) (g : Nat) (wx : World) (hI : IdxB wx w.heap.size g exX) (h : NdOn wx A 1 exN) => reachNames_any exX exN (.pointer (some ⟨g, 0, none⟩)) A 1 1 wx (tells_idx hI fine_ex) fine_ex (by decide) h (by omega) hnr)
  unfold MakesT at HM HA
  rw [miss_ex] at HM
  rw [reach_ex] at HA
  have HP := hide (fun (wx : World) (hI : IdxB wx w.heap.size w.heap.size []) => ex_put w.heap.size w.heap.size wx hI)
  have kc := fun (w : World) (C : Array Value) (n c : Nat) => Lib.run_convert_bytes_const (P := Try.prog) w 41 5 C n c Try.underlying41 Try.underlying5
  have hst : ((str [98]).toList == [98]) = true := by rw [str_toList]; rfl
  go_enter Try.func8, Try.ntmps8
  go_wp2_with (first
    | (go_at_call 13
       have hI6 := hI5
       refine (HA.out _ _ _ hI6 hN5).mono ?_
       rintro e w6 ⟨A6, n6, c6, rfl, hT6, hb6⟩
       obtain rfl : n6 = 2 := hT6.len.symm
       obtain ⟨ad, z, rfl, had, hz, hc⟩ := tcs_at (hT5.on hb6) (k := 0) (by omega)
       have hz2 : z = str [98] := by simpa using hz.symm
       subst hz2
       have hc0 : w6.cell? ad = some (.string (str [98])) := hc
       have hbw6 := hbw5.trans (hb6.mono hbw5.size))
    | (go_at_call 15
       refine (HM.out _ _ _ hI4 hN4).mono ?_
       rintro e w5 ⟨A5, n5, c5, rfl, hT5, hb5⟩
       obtain rfl : n5 = 1 := hT5.len.symm
       have hI5 := hI4.below hb5
       have hN5 := hN4.on hb5
       have hbw5 := hbw4.trans (hb5.mono hbw4.size))
    | (go_at_call 17
       refine (HP.out _ hI1).mono ?_
       rintro e w2 ⟨rfl, hI2, hb2⟩
       have hs1 := Blk.new w2 54 #[.int .i64 0, .int .i64 1000000000]
       have hn1 := Blk.new (w2.alloc (.cells #[.int .i64 0, .int .i64 1000000000] 54)) 49 #[.string (str [97]), .slice (some ⟨w2.heap.size, 0, none⟩) 1 1]
       rw [World.size_alloc] at hn1
       have hN4 := ndOn_one _ _ _ (hs1.alloc (.cells #[.string (str [97]), .slice (some ⟨w2.heap.size, 0, none⟩) 1 1] 49)) hn1
       have hI4 := (hI2.below (alloc_b (.cells #[.int .i64 0, .int .i64 1000000000] 54))).below (alloc_b (.cells #[.string (str [97]), .slice (some ⟨w2.heap.size, 0, none⟩) 1 1] 49))
       have hbw2 := hb1.trans (((alloc_b _).mono hb1.size).trans hb2)
       have hbw4 := (hbw2.alloc hbw2.size (.cells #[.int .i64 0, .int .i64 1000000000] 54)).alloc (Nat.le_trans hbw2.size (by simp)) (.cells #[.string (str [97]), .slice (some ⟨w2.heap.size, 0, none⟩) 1 1] 49))
    | (go_at_call 22
       refine HN.out.mono ?_
       rintro e w1 ⟨rfl, hI0, hb1⟩
       have hI1 : IdxB w1 w.heap.size w.heap.size [] := ⟨Nat.le_refl _, none, hI0, fun b e => by cases e⟩))
  go_ret
  exact ⟨rfl, hbw6⟩
end Go.Proofs.Ytdkcjjbnoeediaa.Reach
