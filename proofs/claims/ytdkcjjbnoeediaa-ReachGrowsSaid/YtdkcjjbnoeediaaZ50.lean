/-
  Some texts of this claim, one behind the other: ReachAwake, ReachTellsW, ReachGrowsW. What each proves, and its condition, stands at its head.
-/
import Derived.Test.YtdkcjjbnoeediaaZ49
import Derived.Test.YtdkcjjbnoeediaaZ44
import Derived.Lib.SlBytesConst
import Derived.Lib.SmallJoins
import Derived.Test.YtdkcjjbnoeediaaZ46
import Derived.Test.YtdkcjjbnoeediaaZ47
import Derived.Test.YtdkcjjbnoeediaaZ36
import Derived.Test.YtdkcjjbnoeediaaZ23
import Derived.Test.YtdkcjjbnoeediaaZ48
import Derived.Test.YtdkcjjbnoeediaaZ32
import Derived.Test.YtdkcjjbnoeediaaZ13
/-
  The chapter's example (awake): it holds. No condition.
-/
namespace Go.Proofs.Ytdkcjjbnoeediaa.Reach
open Go Go.RowKit Go.Lib Go.Sort Go.Proofs.Ytdkcjjbnoeediaa.Span Go.Proofs.Ytdkcjjbnoeediaa.Need Go.Proofs.Ytdkcjjbnoeediaa.Mani Go.Proofs.Ytdkcjjbnoeediaa.Wire Go.Proofs.Ytdkcjjbnoeediaa.Depot Go.Proofs.Ytdkcjjbnoeediaa.Index
set_option linter.unusedVariables false
/-- A put of bytes in a block of their own type. -/
theorem putF_any (g : Nat) (l : List Kn) (nm : ByteArray) (bd : List UInt8) (A : Option Addr) (n c B : Nat) (w : World) (h : IdxB w B g l) (hl : RisesK l) (hlen : l.length ≤ 100000) (hr : Reads w w.heap.size 1 A n (bcs bd)) (hd : ∀ ad, A = some ad → 0 < n → ∃ cur m, w.heap[ad.block]? = some (.cells cur 5 m)) (hnm : nm.size ≤ 1000000000) :
    Calls Try.prog 17 #[.pointer (some ⟨g, 0, none⟩), .string nm, .slice A n c] w fun e w' =>
      e = .returned (.int .i64 (errX l nm bd)) ∧ IdxB w' B g (putX l nm bd) ∧ Below B w w' := by
  have hle := h.le
  obtain ⟨h1, mo, h2, h3⟩ := h
  refine (putT_any g mo l nm bd A n c w h2 hl hlen hr hd hnm).mono ?_
  rintro e w' ⟨he, ⟨mo', h4, h5⟩, hg⟩
  refine ⟨he, ⟨h1, mo', h4, fun b hb => ?_⟩, (Below.refl _ _).grown hg hle (fun k hk => by injection hk with hk; rw [← hk]; exact IdxB.row h1 h3)⟩
  rcases h5 with rfl | ⟨_, b', e2, h6⟩
  · exact h3 b hb
  · rw [hb] at e2
    injection e2 with e2
    rw [e2]; exact Nat.le_trans hle h6
theorem spIn_one (w : World) (x y : Int) (B g : Nat) (h : Blk w g 54 #[.int .i64 x, .int .i64 y]) (hB : g < B) : SpIn w B (some ⟨g, 0, none⟩) 1 [(x, y)] :=
  ⟨rfl, fun _ => ⟨_, rfl, hB, fun i s hs => by
    rcases i with _ | i
    · simp at hs
      subst hs
      exact ⟨h.cell 0, h.cell 1⟩
    · simp at hs⟩⟩
theorem ndOn_one (w : World) (g g2 : Nat) (h : Blk w g 54 #[.int .i64 0, .int .i64 1000000000]) (h2 : Blk w g2 49 #[.string (str [97]), .slice (some ⟨g, 0, none⟩) 1 1]) : NdOn w (some ⟨g2, 0, none⟩) 1 exN := by
  refine ⟨[(str [97], .slice (some ⟨g, 0, none⟩) 1 1)], ⟨rfl, fun _ => ⟨_, rfl, h2.lt, fun j u hu => ?_⟩⟩, rfl, fun i r q hr hq => ?_⟩
  · rcases j with _ | j
    · simp [rcs] at hu
      subst hu
      exact h2.cell 0
    · rcases j with _ | j
      · simp [rcs] at hu
        subst hu
        exact h2.cell 1
      · simp [rcs] at hu
  · rcases i with _ | i
    · simp [exN] at hr hq
      subst hr hq
      exact ⟨rfl, _, 1, 1, rfl, spIn_one w 0 1000000000 _ g h h.lt⟩
    · simp at hr
theorem ex_put (B g : Nat) (w : World) (h : IdxB w B g []) :
    Calls Try.prog 17 #[.pointer (some ⟨g, 0, none⟩), .string (str [97]), .slice (some ⟨w.heap.size, 0, none⟩) 8 8] (w.alloc (.cells #[.int .u8 1, .int .u8 97, .int .u8 1, .int .u8 0, .int .u8 1, .int .u8 1, .int .u8 98, .int .u8 0] 5 (8, 9))) fun e w' =>
      e = .returned (.int .i64 0) ∧ IdxB w' B g exX ∧ Below B (w.alloc (.cells #[.int .u8 1, .int .u8 97, .int .u8 1, .int .u8 0, .int .u8 1, .int .u8 1, .int .u8 98, .int .u8 0] 5 (8, 9))) w' := by
  have hb := heap_alloc_new w (.cells #[.int .u8 1, .int .u8 97, .int .u8 1, .int .u8 0, .int .u8 1, .int .u8 1, .int .u8 98, .int .u8 0] 5 (8, 9))
  have hr : Reads (w.alloc (.cells #[.int .u8 1, .int .u8 97, .int .u8 1, .int .u8 0, .int .u8 1, .int .u8 1, .int .u8 98, .int .u8 0] 5 (8, 9))) (w.heap.size + 1) 1 (some ⟨w.heap.size, 0, none⟩) 8 (bcs exB) := by
    refine ⟨rfl, fun _ => ⟨_, rfl, Nat.lt_succ_self _, fun j u hu => ?_⟩⟩
    have hadd : (⟨w.heap.size, 0, none⟩ : Addr).add j = ⟨w.heap.size, j, none⟩ := by unfold Addr.add; split <;> simp_all
    rw [hadd, World.cell?_alloc_mark]
    rw [← hu]
    simp [bcs, exB]
  have := putF_any g [] (str [97]) exB (some ⟨w.heap.size, 0, none⟩) 8 8 B _ (h.below (alloc_b _)) List.Pairwise.nil (by simp) (by rw [World.size_alloc]; exact hr) (fun ad hA _ => by injection hA with hA; subst hA; exact ⟨_, _, hb⟩) (by decide)
  rw [err_ex, puts_ex] at this
  exact this
set_option maxHeartbeats 4000000 in
set_option maxRecDepth 100000 in
theorem awakeR_any (w : World) : Calls Try.prog 8 #[] w (Tells w (.bool true)) := by
  unfold Tells
  have HN := hide (new_any w)
  have hnm : (str [97]).size ≤ 1000000000 := by decide
  have hnr : ∀ q ∈ exN, q.1.size ≤ 100 := fun q hq => by rw [List.mem_singleton.1 hq]; decide
  have HM := hide (fun (A : Option Addr) (g : Nat) (wx : World) (hI : IdxB wx w.heap.size g exX) (h : NdOn wx A 1 exN) => reachMissing_any exX exN (.pointer (some ⟨g, 0, none⟩)) A 1 1 wx (tells_idx hI fine_ex) fine_ex (by decide) h (by omega) hnr)
  have HA := hide (fun (A : Option Addr) (g : Nat) (wx : World) (hI : IdxB wx w.heap.size g exX) (h : NdOn wx A 1 exN) => reachNames_any exX exN (.pointer (some ⟨g, 0, none⟩)) A 1 1 wx (tells_idx hI fine_ex) fine_ex (by decide) h (by omega) hnr)
  unfold MakesT at HM HA
  rw [miss_ex] at HM
  rw [reach_ex] at HA
  have HP := hide (fun (wx : World) (hI : IdxB wx w.heap.size w.heap.size []) => ex_put w.heap.size w.heap.size wx hI)
  have kc := fun (w : World) (C : Array Value) (n c : Nat) => Lib.run_convert_bytes_const (P := Try.prog) w 41 5 C n c Try.underlying41 Try.underlying5
  have hst : ((str [98]).toList == [98]) = true := by rw [str_toList]; rfl
  go_enter Try.func8, Try.ntmps8
  go_wp2_with (first
    | (go_at_call 13
       have hI6 := hI5
       refine (HA.out _ _ _ hI6 hN5).mono ?_
       rintro e w6 ⟨A6, n6, c6, rfl, hT6, hb6⟩
       obtain rfl : n6 = 2 := hT6.len.symm
       obtain ⟨ad, z, rfl, had, hz, hc⟩ := tcs_at (hT5.on hb6) (k := 0) (by omega)
       have hz2 : z = str [98] := by simpa using hz.symm
       subst hz2
       have hc0 : w6.cell? ad = some (.string (str [98])) := hc
       have hbw6 := hbw5.trans (hb6.mono hbw5.size))
    | (go_at_call 15
       refine (HM.out _ _ _ hI4 hN4).mono ?_
       rintro e w5 ⟨A5, n5, c5, rfl, hT5, hb5⟩
       obtain rfl : n5 = 1 := hT5.len.symm
       have hI5 := hI4.below hb5
       have hN5 := hN4.on hb5
       have hbw5 := hbw4.trans (hb5.mono hbw4.size))
    | (go_at_call 17
       refine (HP.out _ hI1).mono ?_
       rintro e w2 ⟨rfl, hI2, hb2⟩
       have hs1 := Blk.new w2 54 #[.int .i64 0, .int .i64 1000000000]
       have hn1 := Blk.new (w2.alloc (.cells #[.int .i64 0, .int .i64 1000000000] 54)) 49 #[.string (str [97]), .slice (some ⟨w2.heap.size, 0, none⟩) 1 1]
       rw [World.size_alloc] at hn1
       have hN4 := ndOn_one _ _ _ (hs1.alloc (.cells #[.string (str [97]), .slice (some ⟨w2.heap.size, 0, none⟩) 1 1] 49)) hn1
       have hI4 := (hI2.below (alloc_b (.cells #[.int .i64 0, .int .i64 1000000000] 54))).below (alloc_b (.cells #[.string (str [97]), .slice (some ⟨w2.heap.size, 0, none⟩) 1 1] 49))
       have hbw2 := hb1.trans (((alloc_b _).mono hb1.size).trans hb2)
       have hbw4 := (hbw2.alloc hbw2.size (.cells #[.int .i64 0, .int .i64 1000000000] 54)).alloc (Nat.le_trans hbw2.size (by simp)) (.cells #[.string (str [97]), .slice (some ⟨w2.heap.size, 0, none⟩) 1 1] 49))
    | (go_at_call 22
       refine HN.out.mono ?_
       rintro e w1 ⟨rfl, hI0, hb1⟩
       have hI1 : IdxB w1 w.heap.size w.heap.size [] := ⟨Nat.le_refl _, none, hI0, fun b e => by cases e⟩))
  go_ret
  exact ⟨rfl, hbw6⟩
end Go.Proofs.Ytdkcjjbnoeediaa.Reach
/-
  The walk of ReachTells. Condition: the slices read as entries and as needs; lengths as a row bounds them.
-/
namespace Go.Proofs.Ytdkcjjbnoeediaa.Reach
open Go Go.RowKit Go.Lib Go.Sort Go.Proofs.Ytdkcjjbnoeediaa.Span Go.Proofs.Ytdkcjjbnoeediaa.Need Go.Proofs.Ytdkcjjbnoeediaa.Mani Go.Proofs.Ytdkcjjbnoeediaa.Wire Go.Proofs.Ytdkcjjbnoeediaa.Depot Go.Proofs.Ytdkcjjbnoeediaa.Index
set_option linter.unusedVariables false
theorem names9 {l : List Nd} (h : Fine l) : Names9 l := fun q hq => by have := h.2 q hq; omega
set_option maxHeartbeats 4000000 in
set_option maxRecDepth 100000 in
/-- Where the law looks at its example alone. -/
theorem tells_skip (l : List En) (root : List Nd) (A0 A1 : Option Addr) (n0 c0 n1 c1 : Nat) (w : World) (h : EnOn w A0 n0 l) (h' : NdOn w A1 n1 root) (hn : n0 ≤ 9223372036854775807) (hn' : n1 ≤ 9223372036854775807) (hsk : largeE l = true ∨ large root = true ∨ okS root = false) :
    Calls Try.prog 3 #[.slice A0 n0 c0, .slice A1 n1 c1] w fun e w' => e = .returned (.bool true) ∧ Below w.heap.size w w' := by
  have HW := hide (fun wx => awakeR_any wx)
  unfold Tells at HW
  have HL := hide (largeE_any l A0 n0 c0 w h hn)
  have HM := hide (fun (wx : World) (hb : Below w.heap.size w wx) => large_any root A1 n1 c1 wx (h'.on hb) hn')
  unfold Tells at HL
  cases g1 : largeE l with
  | true =>
    rw [g1] at HL
    clear h h' hn hn' hsk HM
    go_enter Try.func3, Try.ntmps3
    go_wp2_with (first
      | (go_at_call 8
         refine (HW.out _).mono ?_
         rintro e w2 ⟨rfl, hb2⟩
         have hbw := hb1.trans (hb2.mono hb1.size))
      | (go_at_call 5
         refine HL.out.mono ?_
         rintro e w1 ⟨rfl, hb1⟩))
    go_ret
    exact ⟨rfl, hbw⟩
  | false =>
    rw [g1] at HL hsk
    cases g2 : large root with
    | true =>
      rw [g2] at HM
      clear h h' hn hn' hsk
      go_enter Try.func3, Try.ntmps3
      go_wp2_with (first
        | (go_at_call 8
           refine (HW.out _).mono ?_
           rintro e w2 ⟨rfl, hb2⟩
           have hbw := hb1.trans (hb2.mono hb1.size))
        | (go_at_call 6
           refine (HM.out _ hb0).mono ?_
           rintro e w1 ⟨rfl, hb1x⟩
           have hb1 := hb0.trans (hb1x.mono hb0.size))
        | (go_at_call 5
           refine HL.out.mono ?_
           rintro e w0 ⟨rfl, hb0⟩))
      go_ret
      exact ⟨rfl, hbw⟩
    | false =>
      rw [g2] at HM hsk
      have hok : okS root = false := by
        rcases hsk with e | e | e
        · cases e
        · cases e
        · exact e
      have hfn := fine_of g2
      have hn40 : n1 ≤ 40 := by rw [← h'.len]; exact hfn.1
      have HK := hide (fun (wx : World) (hb : Below w.heap.size w wx) => refCheckN_any root A1 n1 c1 wx (h'.on hb) (names9 hfn) (by omega))
      rw [hok] at HK
      clear h h' hn hn' hsk hfn hn40
      go_enter Try.func3, Try.ntmps3
      go_wp2_with (first
        | (go_at_call 8
           refine (HW.out _).mono ?_
           rintro e w3 ⟨rfl, hb3⟩
           have hbw := hb2.trans (hb3.mono hb2.size))
        | (go_at_call 7
           refine (HK.out _ hb1).mono ?_
           rintro e w2 ⟨rfl, hb2x⟩
           have hb2 := hb1.trans (hb2x.mono hb1.size))
        | (go_at_call 6
           refine (HM.out _ hb0).mono ?_
           rintro e w1 ⟨rfl, hb1x⟩
           have hb1 := hb0.trans (hb1x.mono hb0.size))
        | (go_at_call 5
           refine HL.out.mono ?_
           rintro e w0 ⟨rfl, hb0⟩))
      go_ret
      exact ⟨rfl, hbw⟩
theorem risesN_of {l : List Nd} (h : okS l = true) : RisesN (namesS l) := List.pairwise_map.2 (okS_parts h).2.2.1
set_option maxHeartbeats 16000000 in
set_option maxRecDepth 100000 in
theorem tells_main (l : List En) (root : List Nd) (A0 A1 : Option Addr) (n0 c0 n1 c1 : Nat) (w : World) (h : EnOn w A0 n0 l) (h' : NdOn w A1 n1 root) (g1 : largeE l = false) (g2 : large root = false) (g3 : okS root = true) :
    Calls Try.prog 3 #[.slice A0 n0 c0, .slice A1 n1 c1] w fun e w' => e = .returned (.bool true) ∧ Below w.heap.size w w' := by
  obtain ⟨h30, hs⟩ := fineE_of g1
  have hfn := fine_of g2
  have hn0 : n0 ≤ 30 := by rw [← h.len]; exact h30
  have hn1 : n1 ≤ 40 := by rw [← h'.len]; exact hfn.1
  have hr9 : ∀ q ∈ root, q.1.size ≤ 100 := fun q hq => (hfn.2 q hq).1
  have hrs := risesN_of g3
  have HW := hide (fun wx => awakeR_any wx)
  unfold Tells at HW
  have HL := hide (largeE_any l A0 n0 c0 w h (by omega))
  have HM := hide (fun (wx : World) (hb : Below w.heap.size w wx) => large_any root A1 n1 c1 wx (h'.on hb) (by omega))
  have HK := hide (fun (wx : World) (hb : Below w.heap.size w wx) => refCheckN_any root A1 n1 c1 wx (h'.on hb) (names9 hfn) (by omega))
  unfold Tells at HL
  rw [g1] at HL
  rw [g2] at HM
  rw [g3] at HK
  obtain ⟨hr, hf, hsh, hXl⟩ := take_bounds l l.length h30 hs
  rw [List.take_of_length_le (Nat.le_refl _)] at hr hf hsh hXl
  have HIO := hide (fun (wx : World) (hb : Below w.heap.size w wx) => indexOf_any l A0 n0 c0 wx (h.on hb) (by omega) fun e he => by have := hs e he; omega)
  have HO := hide (fun (wx : World) (hb : Below w.heap.size w wx) => refOfX_any l A0 n0 c0 wx (h.on hb) (by omega) fun e he => by have := hs e he; omega)
  generalize putsX [] l = X at *
  have HRM := hide (fun (A : Option Addr) (n c : Nat) (wx : World) (hb : Below w.heap.size w wx) (hK : InK wx A n X) => refMissing_any X root A n c A1 n1 c1 wx hK hf (by omega) (h'.on hb) hn1)
  unfold MakesT at HRM
  have Hlm := hide (miss_nil hrs)
  have Hlr := hide h'.len
  have Hx := hide (fun (wx : World) (hb : Below w.heap.size w wx) => h'.on hb)
  clear h30 hs hfn hrs g1 g2 g3 h h' hr hsh
  go_enter Try.func3, Try.ntmps3
  go_upto_region 5 with (first
    | (go_at_call 10
       refine (HO.out _ hbw3).mono ?_
       rintro e w4 ⟨Ay, ny, cy, rfl, hK4, hb4⟩
       have hbw4 := hbw3.trans (hb4.mono hbw3.size)
       have hI4 := hI3.below hb4)
    | (go_at_call 9
       refine (HIO.out _ hbw2).mono ?_
       rintro e w3 ⟨g, rfl, hI3, hb3⟩
       have hbw3 := hbw2.trans (hb3.mono hbw2.size))
    | (go_at_call 7
       refine (HK.out _ hbw1).mono ?_
       rintro e w2 ⟨rfl, hb2⟩
       have hbw2 := hbw1.trans (hb2.mono hbw1.size))
    | (go_at_call 6
       refine (HM.out _ hbw0).mono ?_
       rintro e w1 ⟨rfl, hb1⟩
       have hbw1 := hbw0.trans (hb1.mono hbw0.size))
    | (go_at_call 5
       refine HL.out.mono ?_
       rintro e w0 ⟨rfl, hbw0⟩))
  obtain ⟨W5, hW5⟩ : ∃ W, W = w4.alloc (.cells #[.slice Ay ny cy] 31) := ⟨_, rfl⟩
  have hby : Blk W5 w4.heap.size 31 #[.slice Ay ny cy] := by rw [hW5]; exact Blk.new _ _ _
  have hK5 : InK W5 Ay ny X := by rw [hW5]; exact hK4.below (alloc_b _)
  have hI5 : IdxB W5 w2.heap.size g X := by rw [hW5]; exact hI4.below (alloc_b _)
  have hbw5 : Below w.heap.size w W5 := by rw [hW5]; exact hbw4.alloc hbw4.size _
  have hk5 := (hby.cell 0).trans (show (#[Value.slice Ay ny cy] : Array Value)[0]? = some (.slice Ay ny cy) from rfl)
  rw [← hW5]
  clear hW5 hK4 hI4 hI3 hb3 hb4 hb2 hb1 hbw0 hbw1 hbw2 hbw3 hbw4 HL HM HK HIO HO
  generalize w4.heap.size = gy at *
  go_upto_region 7 with (first
    | (go_at_call 11
       refine (HRM.out _ _ _ _ hbw5 hK5).mono ?_
       rintro e V ⟨Am, nm, cm, rfl, hTm, hbV⟩))
  have hIV := hI5.below hbV
  have hKV := hK5.below hbV
  have hbyV := hby.below hbV hby.lt
  have hbwV := hbw5.trans (hbV.mono hbw5.size)
  have hkV := (hbyV.cell 0).trans (show (#[Value.slice Ay ny cy] : Array Value)[0]? = some (.slice Ay ny cy) from rfl)
  have hNV := Hx.out V hbwV
  have hlm := hTm.len
  have hRl := reachX_len (root := root) hf (by rw [Hlr.out]; exact hn1)
  have hml : (missX X root).length ≤ (reachX X root).length := missL_len X (reachX X root)
  have htx := tells_idx hIV hf
  have HN1 := hide (fun (wx : World) (hb : Below V.heap.size V wx) => reachNames_any X root (.pointer (some ⟨g, 0, none⟩)) A1 n1 c1 wx (htx.on hb) hf (by omega) (hNV.on hb) hn1 hr9)
  have HM1 := hide (fun (wx : World) (hb : Below V.heap.size V wx) => reachMissing_any X root (.pointer (some ⟨g, 0, none⟩)) A1 n1 c1 wx (htx.on hb) hf (by omega) (hNV.on hb) hn1 hr9)
  have HW1 := hide (fun (wx : World) (hb : Below V.heap.size V wx) => reachWhole_any X root (.pointer (some ⟨g, 0, none⟩)) A1 n1 c1 wx (htx.on hb) hf (by omega) (hNV.on hb) hn1 hr9)
  have HN2 := hide (fun (wx : World) (hb : Below V.heap.size V wx) => refReach_any X root Ay ny cy A1 n1 c1 wx (hKV.below hb) hf (by omega) (hNV.on hb) hn1)
  have HM0 := hide (fun (wx : World) (hb : Below V.heap.size V wx) => reachMissing_any [] root (.pointer none) A1 n1 c1 wx (tells_nil wx) FineX.nil (by simp) (hNV.on hb) hn1 hr9)
  have HS1 := hide (fun (A A' : Option Addr) (n c n' c' : Nat) (wx : World) (h : TxOn wx A n (reachX X root)) (h' : TxOn wx A' n' (reachX X root)) => names2_yes (reachX X root) A A' n c n' c' wx h h' (by rw [← h.len]; omega))
  have HS2 := hide (fun (A A' : Option Addr) (n c n' c' : Nat) (wx : World) (h : TxOn wx A n (missX X root)) (h' : TxOn wx A' n' (missX X root)) => names2_yes (missX X root) A A' n c n' c' wx h h' (by rw [← h.len]; omega))
  have He := hide (fun (wx : World) (hb : Below V.heap.size V wx) => (hb.cell (p := ⟨gy, 0, none⟩) hbyV.lt).trans hkV)
  unfold MakesT at HN1 HM1 HN2 HM0
  unfold Tells at HW1 HS1 HS2
  rw [hlm] at HW1
  have hdV : Below V.heap.size V V.drew := (Below.refl _ _).drew
  have hTm1 := hide (fun (wx : World) (hb : Below V.heap.size V wx) => hTm.on hb)
  have hww : (((nm : Int) == 0) == ((nm : Int) == 0)) = true := beq_self_eq_true _
  have hnn : ((n1 : Int) == (n1 : Int)) = true := beq_self_eq_true _
  have Hl0 := hide (fun (A : Option Addr) (n : Nat) (wx : World) (h : TxOn wx A n (missX [] root)) => show n = n1 by rw [← h.len, Hlm.out, Hlr.out])
  clear hIV hKV hbyV hkV hNV hlm hRl hml htx hTm hf hXl hr9 Hlm Hlr Hx HRM hI5 hK5 hby hk5 hbw5 hbV
  generalize reachX X root = R1 at *
  generalize missX X root = R2 at *
  generalize missX [] root = R3 at *
  go_region_held3 (fun w' => w'.cell? ⟨gy, 0, none⟩ = some (.slice Ay ny cy)) (first | exact He.out _ hbk9 | exact He.out _ hbk8 | exact He.out _ hbk7 | exact He.out _ hbk6 | exact He.out _ hbk5 | exact He.out _ hbk4 | exact He.out _ hbk3 | exact He.out _ hbk2 | exact He.out _ hdV | go_keep)
    (first
      | (go_at_call 8
         refine (HW.out _).mono ?_
         rintro e w9 ⟨rfl, hb9⟩
         have hbk9 := hbk8.trans (hb9.mono hbk8.size))
      | (go_at_call_of 15 (Value.pointer none)
         refine (HM0.out _ hbk7).mono ?_
         rintro e w8 ⟨A8, n8, c8, rfl, hT8, hb8⟩
         obtain rfl := Hl0.out _ _ _ hT8
         have hbk8 := hbk7.trans (hb8.mono hbk7.size))
      | (go_at_call 16
         refine (HW1.out _ hbk6).mono ?_
         rintro e w7 ⟨rfl, hb7⟩
         have hbk7 := hbk6.trans (hb7.mono hbk6.size))
      | (go_at_call 12
         refine (HS2.out _ _ _ _ _ _ _ hT5 (hTm1.out _ hbk5)).mono ?_
         rintro e w6 ⟨rfl, hb6⟩
         have hbk6 := hbk5.trans (hb6.mono hbk5.size))
      | (go_at_call 15
         refine (HM1.out _ hbk4).mono ?_
         rintro e w5 ⟨A5, n5, c5, rfl, hT5, hb5⟩
         have hbk5 := hbk4.trans (hb5.mono hbk4.size))
      | (go_at_call 12
         refine (HS1.out _ _ _ _ _ _ _ hT2' hT3).mono ?_
         rintro e w4 ⟨rfl, hb4⟩
         have hbk4 := hbk3.trans (hb4.mono hbk3.size))
      | (go_at_call 14
         refine (HN2.out _ hbk2).mono ?_
         rintro e w3 ⟨A3, n3, c3, rfl, hT3, hb3⟩
         have hT2' := hT2.on hb3
         have hbk3 := hbk2.trans (hb3.mono hbk2.size))
      | (go_at_call 13
         refine (HN1.out _ hdV).mono ?_
         rintro e w2' ⟨A2, n2, c2, rfl, hT2, hb2⟩
         have hbk2 := hdV.trans hb2))
  go_wp2
  go_ret
  exact ⟨rfl, hbwV.trans (hbk9.mono hbwV.size)⟩
theorem tells_walk (l : List En) (root : List Nd) (A0 A1 : Option Addr) (n0 c0 n1 c1 : Nat) (w : World) (h : EnOn w A0 n0 l) (h' : NdOn w A1 n1 root) (hn : n0 ≤ 9223372036854775807) (hn' : n1 ≤ 9223372036854775807) :
    Calls Try.prog 3 #[.slice A0 n0 c0, .slice A1 n1 c1] w fun e w' => e = .returned (.bool true) ∧ Below w.heap.size w w' := by
  by_cases hs : largeE l = true ∨ large root = true ∨ okS root = false
  · exact tells_skip l root A0 A1 n0 c0 n1 c1 w h h' hn hn' hs
  · have g1 : largeE l = false := by
      cases e : largeE l with
      | true => exact absurd (.inl e) hs
      | false => rfl
    have g2 : large root = false := by
      cases e : large root with
      | true => exact absurd (.inr (.inl e)) hs
      | false => rfl
    have g3 : okS root = true := by
      cases e : okS root with
      | true => rfl
      | false => exact absurd (.inr (.inr e)) hs
    exact tells_main l root A0 A1 n0 c0 n1 c1 w h h' g1 g2 g3
end Go.Proofs.Ytdkcjjbnoeediaa.Reach
/-
  The walk of ReachGrows. Condition: the slices read as entries and as needs; lengths as a row bounds them.
-/
namespace Go.Proofs.Ytdkcjjbnoeediaa.Reach
open Go Go.RowKit Go.Lib Go.Sort Go.Proofs.Ytdkcjjbnoeediaa.Span Go.Proofs.Ytdkcjjbnoeediaa.Need Go.Proofs.Ytdkcjjbnoeediaa.Mani Go.Proofs.Ytdkcjjbnoeediaa.Wire Go.Proofs.Ytdkcjjbnoeediaa.Depot Go.Proofs.Ytdkcjjbnoeediaa.Index Go.Proofs.Ytdkcjjbnoeediaa.Grow
set_option linter.unusedVariables false
theorem slice_to (A : Option Addr) (n c k : Nat) (w : World) (h1 : k ≤ n) (h2 : n ≤ c) (i : TypeInfo) (hi : Try.prog.info? 43 = some i) :
    (Instr.slice 22 (.slice A n c) none (some (.int .i64 (k : Int))) none).run Try.prog w = .ok (.slice A k c) w := by
  have s0 : (0 : Int) ≤ (k : Int) := by omega
  have s2 : (k : Int) ≤ (c : Int) := by omega
  have e0 : A.map (·.add 0) = A := by cases A <;> simp [Addr.add]
  simp [Instr.slice, run_underlying Try.underlying22, Instr.sliceBounds, run_sliceBound, sizeOf, typeInfo, hi, s0, s2, e0]
/-- Of two names that stand one behind the other, the hinder is not less, nor the same. -/
theorem not_less {x y : ByteArray} (h : nlt x y = true) : Op.bytesLess y.toList x.toList = false ∧ (y.toList == x.toList) = false := by
  rcases tri y x with ⟨_, b, _⟩ | ⟨_, b, _⟩ | ⟨a, _, c⟩
  · rw [b] at h; cases h
  · rw [b] at h; cases h
  · exact ⟨a, c⟩
set_option maxHeartbeats 4000000 in
set_option maxRecDepth 100000 in
theorem grows_skip (l : List En) (root : List Nd) (A0 A1 : Option Addr) (n0 c0 n1 c1 : Nat) (k : Int) (w : World) (h : EnOn w A0 n0 l) (h' : NdOn w A1 n1 root) (hn : n0 ≤ 9223372036854775807) (hn' : n1 ≤ 9223372036854775807) (hsk : largeE l = true ∨ large root = true ∨ okS root = false ∨ k < 0 ∨ (n0 : Int) < k) :
    Calls Try.prog 4 #[.slice A0 n0 c0, .int .i64 k, .slice A1 n1 c1] w fun e w' => e = .returned (.bool true) ∧ Below w.heap.size w w' := by
  have HW := hide (fun wx => awakeR_any wx)
  unfold Tells at HW
  have HL := hide (largeE_any l A0 n0 c0 w h hn)
  have HM := hide (fun (wx : World) (hb : Below w.heap.size w wx) => large_any root A1 n1 c1 wx (h'.on hb) hn')
  unfold Tells at HL
  cases g1 : largeE l with
  | true =>
    rw [g1] at HL
    clear h h' hn hn' hsk HM
    go_enter Try.func4, Try.ntmps4
    go_wp2_with (first
      | (go_at_call 8
         refine (HW.out _).mono ?_
         rintro e w9 ⟨rfl, hb9⟩
         have hbw := hb0.trans (hb9.mono hb0.size))
      | (go_at_call 5
         refine HL.out.mono ?_
         rintro e w0 ⟨rfl, hb0⟩))
    go_ret
    exact ⟨rfl, hbw⟩
  | false =>
    rw [g1] at HL hsk
    cases g2 : large root with
    | true =>
      rw [g2] at HM
      clear h h' hn hn' hsk
      go_enter Try.func4, Try.ntmps4
      go_wp2_with (first
        | (go_at_call 8
           refine (HW.out _).mono ?_
           rintro e w9 ⟨rfl, hb9⟩
           have hbw := hb1.trans (hb9.mono hb1.size))
        | (go_at_call 6
           refine (HM.out _ hb0).mono ?_
           rintro e w1 ⟨rfl, hb1x⟩
           have hb1 := hb0.trans (hb1x.mono hb0.size))
        | (go_at_call 5
           refine HL.out.mono ?_
           rintro e w0 ⟨rfl, hb0⟩))
      go_ret
      exact ⟨rfl, hbw⟩
    | false =>
      rw [g2] at HM hsk
      have hfn := fine_of g2
      have hn40 : n1 ≤ 40 := by rw [← h'.len]; exact hfn.1
      have HK := hide (fun (wx : World) (hb : Below w.heap.size w wx) => refCheckN_any root A1 n1 c1 wx (h'.on hb) (names9 hfn) (by omega))
      cases g3 : okS root with
      | false =>
        rw [g3] at HK
        clear h h' hn hn' hsk hfn hn40
        go_enter Try.func4, Try.ntmps4
        go_wp2_with (first
          | (go_at_call 8
             refine (HW.out _).mono ?_
             rintro e w9 ⟨rfl, hb9⟩
             have hbw := hb2.trans (hb9.mono hb2.size))
          | (go_at_call 7
             refine (HK.out _ hb1).mono ?_
             rintro e w2 ⟨rfl, hb2x⟩
             have hb2 := hb1.trans (hb2x.mono hb1.size))
          | (go_at_call 6
             refine (HM.out _ hb0).mono ?_
             rintro e w1 ⟨rfl, hb1x⟩
             have hb1 := hb0.trans (hb1x.mono hb0.size))
          | (go_at_call 5
             refine HL.out.mono ?_
             rintro e w0 ⟨rfl, hb0⟩))
        go_ret
        exact ⟨rfl, hbw⟩
      | true =>
        rw [g3] at HK hsk
        have hkk : k < 0 ∨ (n0 : Int) < k := by
          rcases hsk with e | e | e | e
          · cases e
          · cases e
          · cases e
          · exact e
        clear h h' hn hn' hsk hfn hn40
        by_cases hk0 : k < 0
        · clear hkk
          go_enter Try.func4, Try.ntmps4
          go_wp2_with (first
            | (go_at_call 8
               refine (HW.out _).mono ?_
               rintro e w9 ⟨rfl, hb9⟩
               have hbw := hb2.trans (hb9.mono hb2.size))
            | (go_at_call 7
               refine (HK.out _ hb1).mono ?_
               rintro e w2 ⟨rfl, hb2x⟩
               have hb2 := hb1.trans (hb2x.mono hb1.size))
            | (go_at_call 6
               refine (HM.out _ hb0).mono ?_
               rintro e w1 ⟨rfl, hb1x⟩
               have hb1 := hb0.trans (hb1x.mono hb0.size))
            | (go_at_call 5
               refine HL.out.mono ?_
               rintro e w0 ⟨rfl, hb0⟩))
          go_ret
          exact ⟨rfl, hbw⟩
        · have hk1 : (n0 : Int) < k := hkk.resolve_left hk0
          clear hkk
          go_enter Try.func4, Try.ntmps4
          go_wp2_with (first
            | (go_at_call 8
               refine (HW.out _).mono ?_
               rintro e w9 ⟨rfl, hb9⟩
               have hbw := hb2.trans (hb9.mono hb2.size))
            | (go_at_call 7
               refine (HK.out _ hb1).mono ?_
               rintro e w2 ⟨rfl, hb2x⟩
               have hb2 := hb1.trans (hb2x.mono hb1.size))
            | (go_at_call 6
               refine (HM.out _ hb0).mono ?_
               rintro e w1 ⟨rfl, hb1x⟩
               have hb1 := hb0.trans (hb1x.mono hb0.size))
            | (go_at_call 5
               refine HL.out.mono ?_
               rintro e w0 ⟨rfl, hb0⟩))
          go_ret
          exact ⟨rfl, hbw⟩
set_option maxHeartbeats 16000000 in
set_option maxRecDepth 100000 in
theorem grows_main (l : List En) (root : List Nd) (A0 A1 : Option Addr) (n0 c0 n1 c1 k : Nat) (w : World) (h : EnOn w A0 n0 l) (h' : NdOn w A1 n1 root) (g1 : largeE l = false) (g2 : large root = false) (g3 : okS root = true) (hk : k ≤ n0) (hnc : n0 ≤ c0) :
    Calls Try.prog 4 #[.slice A0 n0 c0, .int .i64 (k : Int), .slice A1 n1 c1] w fun e w' => e = .returned (.bool true) ∧ Below w.heap.size w w' := by
  obtain ⟨i0, hi0, hz0, hz1, hz2⟩ := info_parts info_entry
  obtain ⟨h30, hs⟩ := fineE_of g1
  have hfn := fine_of g2
  have hn0 : n0 ≤ 30 := by rw [← h.len]; exact h30
  have hn1 : n1 ≤ 40 := by rw [← h'.len]; exact hfn.1
  have hr9 : ∀ q ∈ root, q.1.size ≤ 100 := fun q hq => (hfn.2 q hq).1
  have HW := hide (fun wx => awakeR_any wx)
  unfold Tells at HW
  have HL := hide (largeE_any l A0 n0 c0 w h (by omega))
  have HM := hide (fun (wx : World) (hb : Below w.heap.size w wx) => large_any root A1 n1 c1 wx (h'.on hb) (by omega))
  have HK := hide (fun (wx : World) (hb : Below w.heap.size w wx) => refCheckN_any root A1 n1 c1 wx (h'.on hb) (names9 hfn) (by omega))
  unfold Tells at HL
  rw [g1] at HL
  rw [g2] at HM
  rw [g3] at HK
  have Htb := hide (fun i => take_bounds l i h30 hs)
  have Hs := hide hs
  have Hlen := hide h.len
  have Hrl := hide (show root.length ≤ 40 by rw [h'.len]; exact hn1)
  obtain ⟨_, hf0, _, hXl0⟩ := Htb.out k
  have hEk := en_take h hk
  have HIO := hide (fun (wx : World) (hb : Below w.heap.size w wx) => indexOf_any (l.take k) A0 k c0 wx (hEk.on hb) (by omega) fun e he => by have := hs e (List.mem_of_mem_take he); omega)
  have hts : ∀ wx : World, (Instr.slice 22 (.slice A0 n0 c0) none (some (.int .i64 (k : Int))) none).run Try.prog wx = .ok (.slice A0 k c0) wx := fun wx => slice_to A0 n0 c0 k wx hk hnc i0 hi0
  have Hks := hide (known_stays l k)
  obtain ⟨X0, hX0⟩ : ∃ X0, X0 = putsX [] (l.take k) := ⟨_, rfl⟩
  rw [← hX0] at hf0 hXl0 HIO Hks
  have HX0 := hide hX0
  have Hx := hide (fun (wx : World) (hb : Below w.heap.size w wx) => h'.on hb)
  have HN0 := hide (fun (B g : Nat) (wx : World) (hI : IdxB wx B g X0) (hN : NdOn wx A1 n1 root) => reachNames_any X0 root (.pointer (some ⟨g, 0, none⟩)) A1 n1 c1 wx (tells_idx hI hf0) hf0 (by omega) hN hn1 hr9)
  have HW0 := hide (fun (B g : Nat) (wx : World) (hI : IdxB wx B g X0) (hN : NdOn wx A1 n1 root) => reachWhole_any X0 root (.pointer (some ⟨g, 0, none⟩)) A1 n1 c1 wx (tells_idx hI hf0) hf0 (by omega) hN hn1 hr9)
  unfold MakesT at HN0
  unfold Tells at HW0
  have Hr0 := hide (show (reachX X0 root).length ≤ 100000 by have := reachX_len (root := root) hf0 Hrl.out; omega)
  obtain ⟨wh, hwh⟩ : ∃ wh, wh = (((missX X0 root).length : Int) == 0) := ⟨_, rfl⟩
  rw [← hwh] at HW0
  have Hwh := hide hwh
  have Hr9 := hide hr9
  have hk1 : ¬ (k : Int) < 0 := by omega
  have hk2 : ¬ (n0 : Int) < (k : Int) := by omega
  have hk3 : (k : Int) ≤ (n0 : Int) := by omega
  have hk4 : (0 : Int) ≤ (k : Int) := by omega
  clear hX0 hwh g1 g2 g3 h30 hs hfn hr9 hEk h' hXl0 hf0
  go_enter Try.func4, Try.ntmps4
  go_wp2_with (first
    | (go_at_call 16
       refine (HW0.out _ _ _ hI5 (Hx.out _ hbw5)).mono ?_
       rintro e w6 ⟨rfl, hb6⟩
       have hbw6 := hbw5.trans (hb6.mono hbw5.size)
       have hI6 := hI5.below hb6
       have hT6 := hT5.on hb6)
    | (go_at_call 13
       refine (HN0.out _ _ _ hI4 (Hx.out _ hbw4)).mono ?_
       rintro e w5 ⟨Aa, na, ca, rfl, hT5, hb5⟩
       have hbw5 := hbw4.trans (hb5.mono hbw4.size)
       have hI5 := hI4.below hb5)
    | (go_at_call 9
       refine (HIO.out _ hbw3).mono ?_
       rintro e w4 ⟨g, rfl, hI4, hb4⟩
       have hbw4 := hbw3.trans (hb4.mono hbw3.size))
    | (go_at_call 7
       refine (HK.out _ hbw2).mono ?_
       rintro e w3 ⟨rfl, hb3⟩
       have hbw3 := hbw2.trans (hb3.mono hbw2.size))
    | (go_at_call 6
       refine (HM.out _ hbw1).mono ?_
       rintro e w2 ⟨rfl, hb2⟩
       have hbw2 := hbw1.trans (hb2.mono hbw1.size))
    | (go_at_call 5
       refine HL.out.mono ?_
       rintro e w1 ⟨rfl, hbw1⟩))
  have hB3 : w.heap.size ≤ w3.heap.size := hbw3.size
  have hna : na ≤ 100000 := by rw [← hT6.len]; exact Hr0.out
  clear HL HM HK HIO hts HN0 HW0 hb6 hb5 hb4 hb3 hb2 hI4 hI5 hT5 hbw1 hbw2 hbw3 hbw4 hbw5 Hr0
  generalize w3.heap.size = B at *
  go_loopw [10] (fun v wr => ∃ i : Nat, k ≤ i ∧ i ≤ n0 ∧ v = .int .i64 (i : Int) ∧ IdxB wr B g (putsX [] (l.take i)) ∧ TxOn wr Aa na (reachX X0 root) ∧ Below w.heap.size w wr) (fun v _ => n0 - (RowKit.intOf v).toNat)
  case atStart => exact ⟨k, Nat.le_refl _, hk, rfl, by rw [← HX0.out]; exact hI6, hT6, hbw6⟩
  case round =>
    obtain ⟨i, hki, hi, rfl, hI, hTa, hb⟩ := hrel
    have hbs := hb.size
    clear hI6 hT6 hbw6
    obtain ⟨hr, hf, hsh, hXl⟩ := Htb.out i
    by_cases hlt : i < n0
    · obtain ⟨ad, q, A', n', c', rfl, hbl, hx, hss, d1, d2⟩ := PIn.at_ h hlt
      have hq := Hs.out q (List.mem_of_getElem? hx)
      have hst := putsX_take (l := []) hx
      obtain ⟨x, bd⟩ := q
      simp only [] at d1 d2 hq hst
      have hrdw : Reads w w.heap.size 1 A' n' (bcs bd) := hss
      have Hrd := hide (fun (wx : World) (hbx : Below w.heap.size w wx) => hrdw.below hbx)
      have Hc := hide (fun (wx : World) (hbx : Below w.heap.size w wx) => And.intro ((hbx.cell (p := ad.add (i * 2)) (by rw [block_of_add]; exact hbl)).trans d1) ((hbx.cell (p := ⟨(ad.add (i * 2)).block, (ad.add (i * 2)).off + 1, none⟩) (by simp only [block_of_add]; exact hbl)).trans d2))
      have hx9 : x.size ≤ 1000000000 := by omega
      have hi1 : (0 : Int) ≤ (i : Int) := by omega
      have hi2 : (i : Int) < (n0 : Int) := by omega
      have Hst := hide hst
      generalize putsX [] (l.take i) = Y at *
      have HP := hide (fun (wx : World) (hI9 : IdxB wx B g Y) (hr9 : Reads wx B 1 A' n' (bcs bd)) => putX_any x bd A' n' c' hI9 hr (by omega) hr9 hx9)
      have hde := hI.below (drew_b wr)
      have hrdd := (Hrd.out wr.drew hb.drew).more hB3
      have hcc := Hc.out wr.drew hb.drew
      have hTd := hTa.on (drew_b wr)
      generalize errX Y x bd = ec at *
      generalize putX Y x bd = Y2 at *
      clear hr hf hsh hss hx d1 d2 hst hx9 hq hrdw Hs Htb Hx HX0 Hks Hlen Hwh Hr9 Hrl h HW hI hTa
      go_upto_region 9 with fail
      go_region_held3 (fun w' => w'.cell? (ad.add (i * 2)) = some (.string x) ∧ w'.cell? ⟨(ad.add (i * 2)).block, (ad.add (i * 2)).off + 1, none⟩ = some (.slice A' n' c')) (first | exact Hc.out w9 hbw9 | exact hcc | go_keep)
        (first
          | (go_at_call 17
             refine (HP.out _ hde hrdd).mono ?_
             rintro e w9 ⟨rfl, hI9, hb9, hT9⟩
             have hbw9 : Below w.heap.size w w9 := hb.drew.trans (hb9.mono hB3)
             have hTa9 := hT9 _ _ _ hTd))
      go_wp2
      go_roundw
      case rel => exact ⟨i + 1, by omega, by omega, by go_num, by rw [Hst.out]; exact hI9, hTa9, hbw9⟩
      case measure => simp [RowKit.intOf]; omega
    · have hi2 : i = n0 := by omega
      rw [List.take_of_length_le (by rw [Hlen.out]; omega)] at hI hr hf hsh hXl
      obtain ⟨X1, hX1⟩ : ∃ X1, X1 = putsX [] l := ⟨_, rfl⟩
      have hks := Hks.out
      rw [← hX1] at hI hr hf hsh hXl hks
      have hr1 := reachX_len (root := root) hf Hrl.out
      have hri1 := reachX_rises X1 root
      have Hra := hide (fun (z : ByteArray) (hz : z ∈ reachX X1 root) => reach_asked hz)
      have Hsz := hide (fun (z : ByteArray) (hz : z ∈ reachX X1 root) => may_short hf Hr9.out (reachX_mem.1 hz))
      have Hsub := hide (fun (a : ByteArray) (ha : a ∈ reachX X0 root) => reach_sub hks ha)
      have Hsame := hide (fun hw : wh = true => reach_same (root := root) hks (by
        have e := Hwh.out
        rw [hw] at e
        have e2 := eq_of_beq e.symm
        exact List.length_eq_zero_iff.1 (by omega)))
      have HN1 := hide (fun (wx : World) (hI : IdxB wx B g X1) (hN : NdOn wx A1 n1 root) => reachNames_any X1 root (.pointer (some ⟨g, 0, none⟩)) A1 n1 c1 wx (tells_idx hI hf) hf (by omega) hN hn1 Hr9.out)
      unfold MakesT at HN1
      have HA := hide (fun (Az : Option Addr) (nz cz : Nat) (x : ByteArray) (wx : World) (hz : TxOn wx Az nz (reachX X1 root)) (hn : nz ≤ 1000000) => add_any (reachX X1 root) x Az nz cz wx hz hn)
      unfold MakesT at HA
      have Hal := hide (fun (x : ByteArray) (hx : x ∈ reachX X1 root) => add_same hri1 hx)
      have HQ := hide (fun (Az : Option Addr) (nz cz : Nat) (x : ByteArray) (wx : World) (hI : IdxB wx B g X1) (hN : NdOn wx A1 n1 root) (hz : TxOn wx Az nz (reachX X1 root)) (hn : nz ≤ 1000000) (hx : x ∈ reachX X1 root) => askedW_any X1 root (.pointer (some ⟨g, 0, none⟩)) (reachX X1 root) x A1 Az n1 c1 nz cz wx (tells_idx hI hf) hf hN (by omega) hz hn (fun y hy => by have := Hsz.out y hy; omega) (Hra.out x hx))
      unfold Tells at HQ
      have HS := hide (fun (A A' : Option Addr) (n c n' c' : Nat) (wx : World) (h : TxOn wx A n (reachX X1 root)) (h' : TxOn wx A' n' (reachX X1 root)) (hn : n ≤ 1000000) => names2_yes (reachX X1 root) A A' n c n' c' wx h h' (by omega))
      unfold Tells at HS
      have Hnl := hide (fun (x y : ByteArray) (i : Nat) (hx : (reachX X1 root)[i]? = some x) (hy : (reachX X1 root)[i + 1]? = some y) => not_less (next_less hri1 hx hy))
      have hr2 : (reachX X1 root).length ≤ 100000 := by omega
      subst hi2
      clear Htb Hs Hks hks HX0 Hlen Hwh Hr9 Hrl hr hf hsh hXl h hri1 Hra Hsz hX1 hr1
      generalize reachX X1 root = R1 at *
      generalize reachX X0 root = R0 at *
      go_wp2_with (first
        | (go_at_call 13
           refine (HN1.out _ hI (Hx.out _ hb)).mono ?_
           rintro e V ⟨Ab, nb, cb, rfl, hTb, hbV⟩
           have hbwV := hb.trans (hbV.mono hbs)))
      have hIV := hI.below hbV
      have hTaV := hTa.on hbV
      have hNV := Hx.out V hbwV
      have hnb : nb ≤ 100000 := by rw [← hTb.len]; exact hr2
      have hbVs := hbwV.size
      clear hI hTa HN1 hr2 hb hbs hbV Hx
      go_loopw [12] (fun v wr => ∃ j : Nat, j ≤ na ∧ v = .int .i64 (j : Int) ∧ Below V.heap.size V wr) (fun v _ => na - (RowKit.intOf v).toNat)
      case atStart => exact ⟨0, by omega, rfl, Below.refl _ _⟩
      case round =>
        obtain ⟨j, hj, rfl, hbj⟩ := hrel
        have hbjs := hbj.size
        by_cases hlt2 : j < na
        · obtain ⟨ad, y, rfl, had, hy, hc⟩ := tcs_at (hTaV.on hbj) hlt2
          have Hm := hide (Hsub.out y (List.mem_of_getElem? hy))
          have hTbj := hTb.on hbj
          have Haly := hide (Hal.out y Hm.out)
          clear hy Hsub Hal HQ HS Hnl Hsame HW hTaV hTb hNV hIV
          go_wp2_with (first
            | (go_at_call 18
               refine (HA.out _ _ _ _ _ hTbj (by omega)).mono ?_
               rintro e w5 ⟨A5, n5, c5, rfl, hT5, hb5⟩
               have hbj5 := hbj.trans (hb5.mono hbjs)
               obtain rfl : nb = n5 := by rw [← hT5.len, Haly.out, hTbj.len]
               have hnn : ((nb : Int) != (nb : Int)) = false := bne_self_eq_false _))
          go_roundw
          case rel => exact ⟨j + 1, by omega, by go_num, hbj5⟩
          case measure => simp [RowKit.intOf]; omega
        · have hj2 : j = na := by omega
          have hTa1 := hTaV.on hbj
          have hTb1 := hTb.on hbj
          have hI1 := hIV.below hbj
          have hN1 := hNV.on hbj
          have hbw1 := hbwV.trans (hbj.mono hbVs)
          have hbw1s := hbw1.size
          clear hTaV hTb hIV hNV hbwV hbVs hbj hbjs HA Hal Hsub
          subst hj2
          obtain ⟨U, hU⟩ : ∃ U, U = wr := ⟨wr, rfl⟩
          subst hU
          go_wp2
          go_loopw [13] (fun v wx => ∃ m : Nat, m ≤ nb ∧ v = .int .i64 (m : Int) ∧ Below U.heap.size U wx) (fun v _ => nb - (RowKit.intOf v).toNat)
          case atStart => exact ⟨0, by omega, rfl, Below.refl _ _⟩
          case round =>
            obtain ⟨m, hm, rfl, hbm⟩ := hrel
            have hbms := hbm.size
            by_cases hlt3 : m < nb
            · obtain ⟨ad, y, rfl, had, hy, hc⟩ := tcs_at (hTb1.on hbm) hlt3
              have hmem := hide (List.mem_of_getElem? hy)
              have HQy := hide (fun (wx : World) (hb : Below wr.heap.size wr wx) => HQ.out (some ad) nb cb y wx (hI1.below (hbm.trans (hb.mono hbms))) (hN1.on (hbm.trans (hb.mono hbms))) (hTb1.on (hbm.trans (hb.mono hbms))) (by omega) hmem.out)
              have hi1 : (0 : Int) ≤ (m : Int) := by omega
              have hi2 : (m : Int) < (nb : Int) := by omega
              have hdW : Below wr.heap.size wr wr.drew := drew_b wr
              have Hc := hide (fun (wx : World) (hb : Below wr.heap.size wr wx) => (hb.cell (p := ad.add m) (by rw [block_of_add]; exact had)).trans hc)
              have hcc := Hc.out _ hdW
              by_cases hz : 0 < m
              · have hd : decide ((0 : Int) < (m : Int)) = true := decide_eq_true (by omega)
                obtain ⟨q, hq⟩ : ∃ q : Nat, m = q + 1 := ⟨m - 1, by omega⟩
                obtain ⟨ad', x, had', _, hx, hcx⟩ := tcs_at (hTb1.on hbm) (k := q) (by omega)
                obtain rfl : ad = ad' := by injection had'
                have Hcx := hide (fun (wx : World) (hb : Below wr.heap.size wr wx) => (hb.cell (p := ad.add q) (by rw [block_of_add]; exact had)).trans hcx)
                have hccx := Hcx.out _ hdW
                obtain ⟨hnl1, hnl2⟩ := Hnl.out x y q hx (by rw [← hq]; exact hy)
                have hd2 : decide (0 < m) = true := decide_eq_true (by omega)
                have hq0 : (0 : Int) ≤ (q : Int) := by omega
                have hq1 : (q : Int) < (nb : Int) := by omega
                have hqw : IntKind.i64.wrap ((m : Int) - 1) = (q : Int) := by rw [IntKind.wrap_i64]; omega
                clear hy hc hcx hx hq hz HQ Hnl HS Hsame HW hTa1 hTb1 hI1 hN1
                go_upto_region 19 with fail
                go_region_held3 (fun w' => w'.cell? (ad.add m) = some (.string y) ∧ w'.cell? (ad.add q) = some (.string x)) (first | exact ⟨Hc.out w9 hbk9, Hcx.out w9 hbk9⟩ | exact ⟨hcc, hccx⟩ | go_keep)
                  (first
                    | (go_at_call 19
                       refine (HQy.out _ hdW).mono ?_
                       rintro e w9 ⟨rfl, hb9⟩
                       have hbk9 : Below wr.heap.size wr w9 := hdW.trans hb9))
                go_wp2
                go_roundw
                case rel => exact ⟨m + 1, by omega, by go_num, hbm.trans (hbk9.mono hbms)⟩
                case measure => simp [RowKit.intOf]; omega
              · have hd : decide ((0 : Int) < (m : Int)) = false := decide_eq_false (by omega)
                have hd2 : decide (0 < m) = false := decide_eq_false (by omega)
                clear hy hz HQ Hnl HS Hsame HW hTa1 hTb1 hI1 hN1
                go_upto_region 19 with fail
                have q1 := cell_reg_ hc (by rw [block_of_add]; exact had)
                refine wp_region_grow [(97, isC (.bool true))] [97]
                  (by kernel_rfl) (by kernel_rfl) rfl (by kernel_rfl) (by kernel_rfl) ⟨isC_stable _, trivial⟩ ?_
                repeat (first
                  | (refine lex_skip rfl ?_; simp only [Act.put, List.setIfInBounds_toArray, List.set_cons_zero, List.set_cons_succ])
                  | (refine lex_quiet rfl rfl rfl (fun K hK => ?_); unfold Reg; go_big_quiet_op; refine hK _ ?_; clear hK K)
                  | (refine lex_rel rfl rfl (fun w' hb9 hK => ?_) (fun v w' hb9 hv => ?_)
                     · unfold grows
                       go_simp
                       go_at_call 19
                       exact call_isC (HQy.out w' hb9)
                     obtain rfl := hv
                     simp only [Act.put, List.setIfInBounds_toArray, List.set_cons_zero, List.set_cons_succ]))
                refine lex_nil (fun w9 hC9 _ => ?_)
                have hbk9 := reg_iff.1 hC9
                clear q1
                go_wp2
                go_roundw
                case rel => exact ⟨m + 1, by omega, by go_num, hbm.trans (hbk9.mono hbms)⟩
                case measure => simp [RowKit.intOf]; omega
            · have hm2 : m = nb := by omega
              have hTa2 := hTa1.on hbm
              have hTb2 := hTb1.on hbm
              have hbE := hbw1.trans (hbm.mono hbw1s)
              clear hTa1 hTb1 hI1 hN1 HQ Hnl hbw1 hbw1s
              subst hm2
              cases wh with
              | true =>
                rw [Hsame.out rfl] at hTa2
                clear Hsame
                go_wp2_with (first
                  | (go_at_call 8
                     refine (HW.out _).mono ?_
                     rintro e w9 ⟨rfl, hb9⟩
                     have hbz := hbE.trans ((hb8.trans (hb9.mono hb8.size)).mono hbE.size))
                  | (go_at_call 12
                     refine (HS.out _ _ _ _ _ _ _ hTa2 hTb2 (by omega)).mono ?_
                     rintro e w8 ⟨rfl, hb8⟩))
                go_ret
                exact ⟨rfl, hbz⟩
              | false =>
                clear Hsame HS hTa2 hTb2
                go_wp2_with (first
                  | (go_at_call 8
                     refine (HW.out _).mono ?_
                     rintro e w9 ⟨rfl, hb9⟩
                     have hbz := hbE.trans (hb9.mono hbE.size)))
                go_ret
                exact ⟨rfl, hbz⟩
theorem grows_walk (l : List En) (root : List Nd) (A0 A1 : Option Addr) (n0 c0 n1 c1 : Nat) (k : Int) (w : World) (h : EnOn w A0 n0 l) (h' : NdOn w A1 n1 root) (hn : n0 ≤ 9223372036854775807) (hn' : n1 ≤ 9223372036854775807) (hnc : n0 ≤ c0) :
    Calls Try.prog 4 #[.slice A0 n0 c0, .int .i64 k, .slice A1 n1 c1] w fun e w' => e = .returned (.bool true) ∧ Below w.heap.size w w' := by
  by_cases hs : largeE l = true ∨ large root = true ∨ okS root = false ∨ k < 0 ∨ (n0 : Int) < k
  · exact grows_skip l root A0 A1 n0 c0 n1 c1 k w h h' hn hn' hs
  · have g1 : largeE l = false := by
      cases e : largeE l with
      | true => exact absurd (.inl e) hs
      | false => rfl
    have g2 : large root = false := by
      cases e : large root with
      | true => exact absurd (.inr (.inl e)) hs
      | false => rfl
    have g3 : okS root = true := by
      cases e : okS root with
      | true => rfl
      | false => exact absurd (.inr (.inr (.inl e))) hs
    have k0 : 0 ≤ k := Int.not_lt.1 fun e => hs (.inr (.inr (.inr (.inl e))))
    have k1 : k ≤ (n0 : Int) := Int.not_lt.1 fun e => hs (.inr (.inr (.inr (.inr e))))
    obtain ⟨j, rfl⟩ : ∃ j : Nat, k = (j : Int) := ⟨k.toNat, by omega⟩
    exact grows_main l root A0 A1 n0 c0 n1 c1 j w h h' g1 g2 g3 (by omega) hnc
end Go.Proofs.Ytdkcjjbnoeediaa.Reach
