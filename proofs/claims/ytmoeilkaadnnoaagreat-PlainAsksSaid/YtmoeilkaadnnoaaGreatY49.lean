/-
  Some texts of this claim, one behind the other: ReachAwake, PlainAwake. What each proves, and its condition, stands at its head.
-/
import Derived.Test.YtmoeilkaadnnoaaGreatY42
import Derived.Lib.SlBytesConst
import Derived.Lib.SmallJoins
import Derived.Test.YtmoeilkaadnnoaaGreatY43
import Derived.Test.YtmoeilkaadnnoaaGreatY18
/-
  The chapter's example (awake): it holds. No condition.
-/
namespace Go.Proofs.YtmoeilkaadnnoaaGreat.Reach
open Go Go.RowKit Go.Lib Go.Sort Go.Proofs.YtmoeilkaadnnoaaGreat.Span Go.Proofs.YtmoeilkaadnnoaaGreat.Need Go.Proofs.YtmoeilkaadnnoaaGreat.Mani Go.Proofs.YtmoeilkaadnnoaaGreat.Wire Go.Proofs.YtmoeilkaadnnoaaGreat.Depot Go.Proofs.YtmoeilkaadnnoaaGreat.Index
set_option linter.unusedVariables false
theorem putF_any (g : Nat) (l : List Kn) (nm : ByteArray) (bd : List UInt8) (A : Option Addr) (n c B : Nat) (w : World) (h : IdxB w B g l) (hl : RisesK l) (hlen : l.length ≤ 100000) (hr : Reads w w.heap.size 1 A n (bcs bd)) (hd : ∀ ad, A = some ad → 0 < n → ∃ cur m, w.heap[ad.block]? = some (.cells cur 5 m)) (hnm : nm.size ≤ 1000000000) :
    Calls Tryz.prog 24 #[.pointer (some ⟨g, 0, none⟩), .string nm, .slice A n c] w fun e w' =>
      e = .returned (.int .i64 (errX l nm bd)) ∧ IdxB w' B g (putX l nm bd) ∧ Below B w w' := by
  have hle := h.le
  obtain ⟨h1, mo, h2, h3⟩ := h
  refine (putT_any g mo l nm bd A n c w h2 hl hlen hr hd hnm).mono ?_
  rintro e w' ⟨he, ⟨mo', h4, h5⟩, hg⟩
  refine ⟨he, ⟨h1, mo', h4, fun b hb => ?_⟩, (Below.refl _ _).grown hg hle (fun k hk => by injection hk with hk; rw [← hk]; exact IdxB.row h1 h3)⟩
  rcases h5 with rfl | ⟨_, b', e2, h6⟩
  · exact h3 b hb
  · rw [hb] at e2
    injection e2 with e2
    rw [e2]; exact Nat.le_trans hle h6
theorem spIn_one (w : World) (x y : Int) (B g : Nat) (h : Blk w g 61 #[.int .i64 x, .int .i64 y]) (hB : g < B) : SpIn w B (some ⟨g, 0, none⟩) 1 [(x, y)] :=
  ⟨rfl, fun _ => ⟨_, rfl, hB, fun i s hs => by
    rcases i with _ | i
    · simp at hs
      subst hs
      exact ⟨h.cell 0, h.cell 1⟩
    · simp at hs⟩⟩
end Go.Proofs.YtmoeilkaadnnoaaGreat.Reach
/-
  The chapter's example (awake): it holds, if the program's Solve tells what it has to. Condition: that premise.
-/
namespace Go.Proofs.YtmoeilkaadnnoaaGreat.Plain
open Go Go.RowKit Go.Lib Go.Sort Go.Proofs.YtmoeilkaadnnoaaGreat.Span Go.Proofs.YtmoeilkaadnnoaaGreat.Need Go.Proofs.YtmoeilkaadnnoaaGreat.Mani Go.Proofs.YtmoeilkaadnnoaaGreat.Wire Go.Proofs.YtmoeilkaadnnoaaGreat.Depot Go.Proofs.YtmoeilkaadnnoaaGreat.Index Go.Proofs.YtmoeilkaadnnoaaGreat.Reach Go.Proofs.YtmoeilkaadnnoaaGreat.Pick Go.Proofs.YtmoeilkaadnnoaaGreat.Fit
set_option linter.unusedVariables false
theorem px_putanyA (B g : Nat) (w : World) (h : IdxB w B g []) :
    Calls Tryz.prog 24 #[.pointer (some ⟨g, 0, none⟩), .string (str [97]), .slice (some ⟨w.heap.size, 0, none⟩) 12 12] (w.alloc (.cells #[.int .u8 1, .int .u8 97, .int .u8 2, .int .u8 4, .int .u8 0, .int .u8 8, .int .u8 1, .int .u8 1, .int .u8 98, .int .u8 1, .int .u8 0, .int .u8 8] 5 (12, 13))) fun e w' =>
      e = .returned (.int .i64 0) ∧ IdxB w' B g pxY ∧ Below B (w.alloc (.cells #[.int .u8 1, .int .u8 97, .int .u8 2, .int .u8 4, .int .u8 0, .int .u8 8, .int .u8 1, .int .u8 1, .int .u8 98, .int .u8 1, .int .u8 0, .int .u8 8] 5 (12, 13))) w' := by
  have hb := heap_alloc_new w (.cells #[.int .u8 1, .int .u8 97, .int .u8 2, .int .u8 4, .int .u8 0, .int .u8 8, .int .u8 1, .int .u8 1, .int .u8 98, .int .u8 1, .int .u8 0, .int .u8 8] 5 (12, 13))
  have hr : Reads (w.alloc (.cells #[.int .u8 1, .int .u8 97, .int .u8 2, .int .u8 4, .int .u8 0, .int .u8 8, .int .u8 1, .int .u8 1, .int .u8 98, .int .u8 1, .int .u8 0, .int .u8 8] 5 (12, 13))) (w.heap.size + 1) 1 (some ⟨w.heap.size, 0, none⟩) 12 (bcs pxA) := by
    refine ⟨rfl, fun _ => ⟨_, rfl, Nat.lt_succ_self _, fun j u hu => ?_⟩⟩
    have hadd : (⟨w.heap.size, 0, none⟩ : Addr).add j = ⟨w.heap.size, j, none⟩ := by unfold Addr.add; split <;> simp_all
    rw [hadd, World.cell?_alloc_mark]
    rw [← hu]
    simp [bcs, pxA]
  have := putF_any g [] (str [97]) pxA (some ⟨w.heap.size, 0, none⟩) 12 12 B _ (h.below (Span.alloc_b _)) List.Pairwise.nil (by simp) (by rw [World.size_alloc]; exact hr) (fun ad hA _ => by injection hA with hA; subst hA; exact ⟨_, _, hb⟩) (by decide)
  rw [px_errA, px_putsA] at this
  exact this
theorem px_rises : RisesK pxY := List.pairwise_singleton _ _
theorem px_putanyB (B g : Nat) (w : World) (h : IdxB w B g pxY) :
    Calls Tryz.prog 24 #[.pointer (some ⟨g, 0, none⟩), .string (str [98]), .slice (some ⟨w.heap.size, 0, none⟩) 5 5] (w.alloc (.cells #[.int .u8 1, .int .u8 98, .int .u8 1, .int .u8 8, .int .u8 0] 5 (5, 6))) fun e w' =>
      e = .returned (.int .i64 0) ∧ IdxB w' B g pxX ∧ Below B (w.alloc (.cells #[.int .u8 1, .int .u8 98, .int .u8 1, .int .u8 8, .int .u8 0] 5 (5, 6))) w' := by
  have hb := heap_alloc_new w (.cells #[.int .u8 1, .int .u8 98, .int .u8 1, .int .u8 8, .int .u8 0] 5 (5, 6))
  have hr : Reads (w.alloc (.cells #[.int .u8 1, .int .u8 98, .int .u8 1, .int .u8 8, .int .u8 0] 5 (5, 6))) (w.heap.size + 1) 1 (some ⟨w.heap.size, 0, none⟩) 5 (bcs pxB) := by
    refine ⟨rfl, fun _ => ⟨_, rfl, Nat.lt_succ_self _, fun j u hu => ?_⟩⟩
    have hadd : (⟨w.heap.size, 0, none⟩ : Addr).add j = ⟨w.heap.size, j, none⟩ := by unfold Addr.add; split <;> simp_all
    rw [hadd, World.cell?_alloc_mark]
    rw [← hu]
    simp [bcs, pxB]
  have := putF_any g pxY (str [98]) pxB (some ⟨w.heap.size, 0, none⟩) 5 5 B _ (h.below (Span.alloc_b _)) px_rises (by decide) (by rw [World.size_alloc]; exact hr) (fun ad hA _ => by injection hA with hA; subst hA; exact ⟨_, _, hb⟩) (by decide)
  rw [px_errB, px_putsB] at this
  exact this
theorem ndOn_px (w : World) (g g2 : Nat) (h : Blk w g 61 #[.int .i64 0, .int .i64 1000000000]) (h2 : Blk w g2 54 #[.string (str [97]), .slice (some ⟨g, 0, none⟩) 1 1, .string (str [98]), .slice (some ⟨g, 0, none⟩) 1 1]) : NdOn w (some ⟨g2, 0, none⟩) 2 pxN := by
  refine ⟨[(str [97], .slice (some ⟨g, 0, none⟩) 1 1), (str [98], .slice (some ⟨g, 0, none⟩) 1 1)], ⟨rfl, fun _ => ⟨_, rfl, h2.lt, fun j u hu => ?_⟩⟩, rfl, fun i r q hr hq => ?_⟩
  · have hadd : (⟨g2, 0, none⟩ : Addr).add j = ⟨g2, j, none⟩ := by unfold Addr.add; split <;> simp_all
    rw [hadd, h2.cell j, ← hu]
    simp [rcs]
  · rcases i with _ | i
    · simp [pxN] at hr hq
      subst hr hq
      exact ⟨rfl, _, 1, 1, rfl, spIn_one w 0 1000000000 _ g h h.lt⟩
    · rcases i with _ | i
      · simp [pxN] at hr hq
        subst hr hq
        exact ⟨rfl, _, 1, 1, rfl, spIn_one w 0 1000000000 _ g h h.lt⟩
      · simp at hr
set_option maxHeartbeats 8000000 in
set_option maxRecDepth 100000 in
theorem awakeP_any (SV : SpecSolve) (w : World) : Calls Tryz.prog 8 #[] w (Tells w (.bool true)) := by
  unfold Tells
  have HN := hide (new_any w)
  have hnr : ∀ q ∈ pxN, q.1.size ≤ 100 := fun q hq => by
    rcases List.mem_cons.1 hq with rfl | hq
    · decide
    · rw [List.mem_singleton.1 hq]; decide
  have HV := hide (fun (A : Option Addr) (g : Nat) (wx : World) (hI : IdxB wx w.heap.size g pxX) (h : NdOn wx A 2 pxN) => SV pxX pxN 9 (.pointer (some ⟨g, 0, none⟩)) A 2 2 wx
    ⟨⟨⟨_, rfl⟩, tells_idx hI px_fine⟩, px_fine, px_set, px_ver, by decide, h, by omega, px_root, hnr⟩ (by omega) (by omega))
  rw [show (9 : Int).toNat = 9 from rfl, px_solve] at HV
  unfold Solves at HV
  simp only [kindT, nameT, picksT] at HV
  have HP := hide (fun (wx : World) (hI : IdxB wx w.heap.size w.heap.size []) => px_putanyA w.heap.size w.heap.size wx hI)
  have HQ := hide (fun (wx : World) (hI : IdxB wx w.heap.size w.heap.size pxY) => px_putanyB w.heap.size w.heap.size wx hI)
  have kc := fun (w : World) (C : Array Value) (n c : Nat) => Lib.run_convert_bytes_const (P := Tryz.prog) w 50 5 C n c Tryz.underlying50 Tryz.underlying5
  clear SV hnr
  go_enter Tryz.func8, Tryz.ntmps8
  go_upto_region 3 with (first
    | (go_at_call 24
       refine (HP.out _ hI1).mono ?_
       rintro e w2 ⟨rfl, hI2, hb2⟩
       have hbw2 := hb1.trans (((Span.alloc_b _).mono hb1.size).trans hb2))
    | (go_at_call 23
       refine HN.out.mono ?_
       rintro e w1 ⟨rfl, hI0, hb1⟩
       have hI1 : IdxB w1 w.heap.size w.heap.size [] := ⟨Nat.le_refl _, none, hI0, fun b e => by cases e⟩))
  clear hI1 hI0 hb2 HP HN hb1
  go_upto_region 4 with (first
    | (go_at_call 24
       refine (HQ.out _ hI2).mono ?_
       rintro e w3 ⟨rfl, hI3, hb3⟩
       have hbw3 := hbw2.trans (((Span.alloc_b _).mono hbw2.size).trans hb3)
       have hs1 := Blk.new w3 61 #[.int .i64 0, .int .i64 1000000000]
       have hn1 := Blk.new (w3.alloc (.cells #[.int .i64 0, .int .i64 1000000000] 61)) 54 #[.string (str [97]), .slice (some ⟨w3.heap.size, 0, none⟩) 1 1, .string (str [98]), .slice (some ⟨w3.heap.size, 0, none⟩) 1 1]
       rw [World.size_alloc] at hn1
       have hN4 := ndOn_px _ _ _ (hs1.alloc (.cells #[.string (str [97]), .slice (some ⟨w3.heap.size, 0, none⟩) 1 1, .string (str [98]), .slice (some ⟨w3.heap.size, 0, none⟩) 1 1] 54)) hn1
       have hI4 := (hI3.below (Span.alloc_b (.cells #[.int .i64 0, .int .i64 1000000000] 61))).below (Span.alloc_b (.cells #[.string (str [97]), .slice (some ⟨w3.heap.size, 0, none⟩) 1 1, .string (str [98]), .slice (some ⟨w3.heap.size, 0, none⟩) 1 1] 54))
       have hbw4 := (hbw3.alloc hbw3.size (.cells #[.int .i64 0, .int .i64 1000000000] 61)).alloc (Nat.le_trans hbw3.size (by simp)) (.cells #[.string (str [97]), .slice (some ⟨w3.heap.size, 0, none⟩) 1 1, .string (str [98]), .slice (some ⟨w3.heap.size, 0, none⟩) 1 1] 54)))
  clear hI2 hI3 hb3 HQ hs1 hn1 hbw2
  go_upto_region 6 with (first
    | (go_at_call 9
       refine (HV.out _ _ _ hI4 hN4).mono ?_
       rintro e w5 ⟨A5, n5, c5, rfl, hP5, hb5⟩
       have hbw5 := hbw4.trans (hb5.mono hbw4.size)))
  obtain rfl : n5 = 2 := hP5.1
  have hp5 := hP5.2.2.2
  obtain ⟨ad, q0, rfl, hbl, hx0, a0, a1⟩ := PkIn.at_ hp5 (k := 0) (by omega)
  obtain ⟨ad', q1, e1, _, hx1, b0, b1⟩ := PkIn.at_ hp5 (k := 1) (by omega)
  injection e1 with e1
  subst e1
  obtain rfl : (str [97], 4) = q0 := by simpa using hx0
  obtain rfl : (str [98], 8) = q1 := by simpa using hx1
  simp only [] at a0 a1 b0 b1
  have p0 : w5.cell? ad = some (.string (str [97])) := by simpa [Addr.add] using a0
  have p1 : w5.cell? ⟨ad.block, ad.off + 1, none⟩ = some (.int .i64 4) := by simpa [Addr.add] using a1
  have p2 : w5.cell? ⟨ad.block, ad.off + 2, none⟩ = some (.string (str [98])) := by simpa [Addr.add] using b0
  have p3 : w5.cell? ⟨ad.block, ad.off + 2 + 1, none⟩ = some (.int .i64 8) := by simpa [Addr.add] using b1
  have hqA : ∀ wx : World, (Op.equalIn 10000 63 (.agg #[.string (str [97]), .int .i64 4]) (.agg #[.string { data := #[97] }, .int .i64 4])).run Tryz.prog wx = .ok true wx := fun wx => (eq_pick (str [97]) 4 (str [97]) 4 wx).trans (by rw [show sameP (str [97]) 4 (str [97]) 4 = true by unfold sameP; simp])
  have hqB : ∀ wx : World, (Op.equalIn 10000 63 (.agg #[.string (str [98]), .int .i64 8]) (.agg #[.string { data := #[98] }, .int .i64 8])).run Tryz.prog wx = .ok true wx := fun wx => (eq_pick (str [98]) 8 (str [98]) 8 wx).trans (by rw [show sameP (str [98]) 8 (str [98]) 8 = true by unfold sameP; simp])
  have hst : (ByteArray.empty.toList == ([] : List UInt8)) = true := by rw [show ByteArray.empty = str [] from rfl, str_toList]; rfl
  clear hI4 hN4 hb5 hbw4 hP5 hp5 hx0 hx1 HV a0 a1 b0 b1
  go_wp2
  go_ret
  exact ⟨rfl, hbw5⟩
end Go.Proofs.YtmoeilkaadnnoaaGreat.Plain
