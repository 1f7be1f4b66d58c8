/-
  Some texts of this claim, one behind the other: ReachAwakeM, ReachAwake, FactAwake, FactReadsW. What each proves, and its condition, stands at its head.
-/
import Derived.Test.YtpicnbidbddggaaGreatY42
import Derived.Test.YtpicnbidbddggaaGreatY39
import Derived.Test.YtpicnbidbddggaaGreatY49
import Derived.Lib.SlBytesConst
import Derived.Lib.SmallJoins
import Derived.Test.YtpicnbidbddggaaGreatY32
import Derived.Test.YtpicnbidbddggaaGreatY46
import Derived.Test.YtpicnbidbddggaaGreatY45
import Derived.Test.YtpicnbidbddggaaGreatY26
import Derived.Test.YtpicnbidbddggaaGreatY40
/-
  The chapter's example, as plain data: a needs b, which is not known. No condition.
-/
namespace Go.Proofs.YtpicnbidbddggaaGreat.Reach
open Go Go.RowKit Go.Lib Go.Sort Go.Proofs.YtpicnbidbddggaaGreat.Span Go.Proofs.YtpicnbidbddggaaGreat.Need Go.Proofs.YtpicnbidbddggaaGreat.Mani Go.Proofs.YtpicnbidbddggaaGreat.Wire Go.Proofs.YtpicnbidbddggaaGreat.Depot Go.Proofs.YtpicnbidbddggaaGreat.Index
open Go.Proofs.YtpicnbidbddggaaGreat.Vlq (enc hi_zero held)
open Go.Proofs.YtpicnbidbddggaaGreat.Label (runes fitL runes_step runes_end rn wd)
set_option linter.unusedVariables false
def exB : List UInt8 := [1, 97, 1, 0, 1, 1, 98, 0]
def exR : List Rl := [(0, [(str [98], [])])]
def exX : List Kn := [(str [97], (exR, true))]
def exN : List Nd := [(str [97], [(0, 1000000000)])]
theorem fit_two : fitL (runes (str [98]) 0) = true := by
  rw [runes_step _ _ (by decide), runes_end _ _ (by decide)]
  decide
theorem nlt_str (l m : List UInt8) : nlt (str l) (str m) = Op.bytesLess l m := by unfold nlt; rw [str_toList, str_toList]
end Go.Proofs.YtpicnbidbddggaaGreat.Reach
/-
  The chapter's example (awake): it holds. No condition.
-/
namespace Go.Proofs.YtpicnbidbddggaaGreat.Reach
open Go Go.RowKit Go.Lib Go.Sort Go.Proofs.YtpicnbidbddggaaGreat.Span Go.Proofs.YtpicnbidbddggaaGreat.Need Go.Proofs.YtpicnbidbddggaaGreat.Mani Go.Proofs.YtpicnbidbddggaaGreat.Wire Go.Proofs.YtpicnbidbddggaaGreat.Depot Go.Proofs.YtpicnbidbddggaaGreat.Index
set_option linter.unusedVariables false
theorem putF_any (g : Nat) (l : List Kn) (nm : ByteArray) (bd : List UInt8) (A : Option Addr) (n c B : Nat) (w : World) (h : IdxB w B g l) (hl : RisesK l) (hlen : l.length ≤ 100000) (hr : Reads w w.heap.size 1 A n (bcs bd)) (hd : ∀ ad, A = some ad → 0 < n → ∃ cur m, w.heap[ad.block]? = some (.cells cur 5 m)) (hnm : nm.size ≤ 1000000000) :
    Calls Tryz.prog 25 #[.pointer (some ⟨g, 0, none⟩), .string nm, .slice A n c] w fun e w' =>
      e = .returned (.int .i64 (errX l nm bd)) ∧ IdxB w' B g (putX l nm bd) ∧ Below B w w' := by
  have hle := h.le
  obtain ⟨h1, mo, h2, h3⟩ := h
  refine (putT_any g mo l nm bd A n c w h2 hl hlen hr hd hnm).mono ?_
  rintro e w' ⟨he, ⟨mo', h4, h5⟩, hg⟩
  refine ⟨he, ⟨h1, mo', h4, fun b hb => ?_⟩, (Below.refl _ _).grown hg hle (fun k hk => by injection hk with hk; rw [← hk]; exact IdxB.row h1 h3)⟩
  rcases h5 with rfl | ⟨_, b', e2, h6⟩
  · exact h3 b hb
  · rw [hb] at e2
    injection e2 with e2
    rw [e2]; exact Nat.le_trans hle h6
theorem spIn_one (w : World) (x y : Int) (B g : Nat) (h : Blk w g 63 #[.int .i64 x, .int .i64 y]) (hB : g < B) : SpIn w B (some ⟨g, 0, none⟩) 1 [(x, y)] :=
  ⟨rfl, fun _ => ⟨_, rfl, hB, fun i s hs => by
    rcases i with _ | i
    · simp at hs
      subst hs
      exact ⟨h.cell 0, h.cell 1⟩
    · simp at hs⟩⟩
end Go.Proofs.YtpicnbidbddggaaGreat.Reach
/-
  The chapter's examples (awake): they hold, if the program's Asked and Released tell what they have to. Condition: those two premises.
-/
namespace Go.Proofs.YtpicnbidbddggaaGreat.Fact
open Go Go.RowKit Go.Lib Go.Sort Go.Proofs.YtpicnbidbddggaaGreat.Span Go.Proofs.YtpicnbidbddggaaGreat.Need Go.Proofs.YtpicnbidbddggaaGreat.Mani Go.Proofs.YtpicnbidbddggaaGreat.Wire Go.Proofs.YtpicnbidbddggaaGreat.Depot Go.Proofs.YtpicnbidbddggaaGreat.Index Go.Proofs.YtpicnbidbddggaaGreat.Reach Go.Proofs.YtpicnbidbddggaaGreat.Term Go.Proofs.YtpicnbidbddggaaGreat.Clash Go.Proofs.YtpicnbidbddggaaGreat.Fit
open Go.Proofs.YtpicnbidbddggaaGreat.Vlq (enc hi_zero held)
open Go.Proofs.YtpicnbidbddggaaGreat.Label (runes fitL)
set_option linter.unusedVariables false
def fyB : List UInt8 := [1, 98, 0]
def fyX : List Kn := [(str [98], ([], true))]
def fyN : List Nd := [(str [97], [(0, 1000000000)])]
theorem fy_ok : okM (str [98]) [] = true := by
  unfold okM
  rw [fit_two]
  decide
theorem fy_put : putB (str [98]) [] = fyB := by
  unfold putB
  rw [if_pos fy_ok]
  have e02 : held 0 = 0 := by decide
  have e12 : encN 0 = [0] := by unfold encN; rw [e02]; unfold enc; rw [show 0 / 128 = 0 from rfl, hi_zero]; rfl
  have e2 : enc 1 = [1] := by unfold enc; rw [show 1 / 128 = 0 from rfl, hi_zero]; rfl
  have e3 : textB (str [98]) = [1, 98] := by
    unfold textB
    rw [show (str [98]).size = 1 from rfl, e2]
    rfl
  simp only [manB, listB, flat_nil, e3, List.length_nil, show ((0 : Nat) : Int) = 0 from rfl, e12]
  rfl
theorem fy_good : goodE (str [98]) fyB = true ∧ relE (str [98]) fyB = [] := by rw [← fy_put]; exact good_put fy_ok
theorem fy_err : errX [] (str [98]) fyB = 0 := by
  rw [errX_zero]
  refine ⟨?_, rfl⟩
  unfold mayX
  rw [fit_two]
  decide
theorem fy_puts : putX [] (str [98]) fyB = fyX := by
  unfold putX
  rw [if_pos fy_err]
  unfold valX
  rw [fy_good.1, fy_good.2]
  rfl
theorem fy_at : atX fyX (str [98]) = some ([], true) := by unfold fyX; rw [atX, if_pos rfl]
theorem fy_okX : OkX fyX := by
  refine ⟨?_, ?_, ?_, ?_, by decide, fun q hq => by rw [List.mem_singleton.1 hq]; exact List.Pairwise.nil⟩
  · intro q hq
    rw [List.mem_singleton.1 hq]
    exact ⟨by decide, fun p hp => by cases hp⟩
  · intro q hq
    rw [List.mem_singleton.1 hq]
    exact fun r hr => by cases hr
  · intro q hq
    rw [List.mem_singleton.1 hq]
    exact fun r hr => by cases hr
  · intro q hq
    rw [List.mem_singleton.1 hq]
    exact fit_two
theorem fy_root : okS fyN = true := by
  have h1 : nlt ByteArray.empty (str [97]) = true := by
    rw [show ByteArray.empty = str [] from rfl, nlt_str]
    decide
  unfold okS
  rw [show okFrom ByteArray.empty fyN = ((fitL (runes (str [97]) 0) && nlt ByteArray.empty (str [97]) && (isSet (-1) [((0 : Int), (1000000000 : Int))] && decide (([((0 : Int), (1000000000 : Int))] : List S).length ≤ 6))) && true) from rfl, fit_one, h1]
  decide
theorem not_all : notS allS = [] := nf_nil.2 fun p h0 h1 => by
  show (!has allS p) = false
  rw [a_has h0 h1]
  rfl
theorem not_none : notS [] = allS := (is_nf allS_set fun p h0 h1 => by
  show has allS p = (!has [] p)
  rw [a_has h0 h1]
  rfl).symm
theorem vers_none : versS [] = [] := nf_nil.2 fun p _ _ => rfl
theorem make_one {t : Tm} (h1 : emptyT t = false) (h2 : fullT t = false) : makeC [t] = some [t] := by
  unfold makeC putsC
  have e : List.foldl (fun c t => putC t false c) [] [t] = [t] := by simp [putC]
  rw [e]
  simp [h1, h2]
theorem fy_asked : askedC fyN (str [97]) = some [⟨str [97], [], true⟩] := by
  unfold askedC
  rw [show findS fyN (str [97]) = some allS from rfl]
  show makeC [⟨str [97], notS allS, true⟩] = _
  rw [not_all]
  exact make_one rfl (by decide)
theorem fy_released : releasedC fyX (str [98]) = some [⟨str [98], allS, false⟩] := by
  unfold releasedC
  rw [fy_at]
  show makeC [⟨str [98], notS (versS []), false⟩] = _
  rw [vers_none, not_none]
  exact make_one (by decide) rfl
theorem fy_show : showC [⟨str [98], allS, false⟩] = str [98, 32, 97, 110, 121] := by
  show showT ⟨str [98], allS, false⟩ = _
  unfold showT
  have h : okT ⟨str [98], allS, false⟩ = true := one_ok fit_two allS_set
  rw [if_pos h]
  rfl
theorem fy_putany (B g : Nat) (w : World) (h : IdxB w B g []) :
    Calls Tryz.prog 25 #[.pointer (some ⟨g, 0, none⟩), .string (str [98]), .slice (some ⟨w.heap.size, 0, none⟩) 3 3] (w.alloc (.cells #[.int .u8 1, .int .u8 98, .int .u8 0] 5 (3, 4))) fun e w' =>
      e = .returned (.int .i64 0) ∧ IdxB w' B g fyX ∧ Below B (w.alloc (.cells #[.int .u8 1, .int .u8 98, .int .u8 0] 5 (3, 4))) w' := by
  have hb := heap_alloc_new w (.cells #[.int .u8 1, .int .u8 98, .int .u8 0] 5 (3, 4))
  have hr : Reads (w.alloc (.cells #[.int .u8 1, .int .u8 98, .int .u8 0] 5 (3, 4))) (w.heap.size + 1) 1 (some ⟨w.heap.size, 0, none⟩) 3 (bcs fyB) := by
    refine ⟨rfl, fun _ => ⟨_, rfl, Nat.lt_succ_self _, fun j u hu => ?_⟩⟩
    have hadd : (⟨w.heap.size, 0, none⟩ : Addr).add j = ⟨w.heap.size, j, none⟩ := by unfold Addr.add; split <;> simp_all
    rw [hadd, World.cell?_alloc_mark]
    rw [← hu]
    simp [bcs, fyB]
  have := putF_any g [] (str [98]) fyB (some ⟨w.heap.size, 0, none⟩) 3 3 B _ (h.below (Span.alloc_b _)) List.Pairwise.nil (by simp) (by rw [World.size_alloc]; exact hr) (fun ad hA _ => by injection hA with hA; subst hA; exact ⟨_, _, hb⟩) (by decide)
  rw [fy_err, fy_puts] at this
  exact this
theorem ndOn_fy (w : World) (g g2 : Nat) (h : Blk w g 63 #[.int .i64 0, .int .i64 1000000000]) (h2 : Blk w g2 56 #[.string (str [97]), .slice (some ⟨g, 0, none⟩) 1 1]) : NdOn w (some ⟨g2, 0, none⟩) 1 fyN := by
  refine ⟨[(str [97], .slice (some ⟨g, 0, none⟩) 1 1)], ⟨rfl, fun _ => ⟨_, rfl, h2.lt, fun j u hu => ?_⟩⟩, rfl, fun i r q hr hq => ?_⟩
  · rcases j with _ | j
    · simp [rcs] at hu
      subst hu
      exact h2.cell 0
    · rcases j with _ | j
      · simp [rcs] at hu
        subst hu
        exact h2.cell 1
      · simp [rcs] at hu
  · rcases i with _ | i
    · simp [fyN] at hr hq
      subst hr hq
      exact ⟨rfl, _, 1, 1, rfl, spIn_one w 0 1000000000 _ g h h.lt⟩
    · simp at hr
set_option maxHeartbeats 4000000 in
set_option maxRecDepth 100000 in
theorem awakeFa_any (SA : SpecAskedF) (SR : SpecReleasedF) (w : World) : Calls Tryz.prog 7 #[] w fun e w' => e = .returned (.bool true) ∧ Below w.heap.size w w' := by
  have HN := hide (new_any w)
  have HA := hide (fun (A : Option Addr) (wx : World) (h : NdOn wx A 1 fyN) => SA fyN (str [97]) A 1 1 wx h (by omega) fy_root (by decide))
  have HR := hide (fun (g : Nat) (wx : World) (hI : IdxB wx w.heap.size g fyX) => SR fyX (str [98]) (.pointer (some ⟨g, 0, none⟩)) wx ⟨⟨_, rfl⟩, tells_idx hI fy_okX.fine, fy_okX⟩ (by decide))
  rw [fy_asked] at HA
  rw [fy_released] at HR
  unfold MakesC at HA HR
  simp only [Option.getD_some, Option.isSome_some] at HA HR
  have HS := hide (fun (A : Option Addr) (n c : Nat) (wx : World) (h : TmOn wx A n [⟨str [98], allS, false⟩]) => refShowC_any [⟨str [98], allS, false⟩] A n c wx h (fun t ht => by rw [List.mem_singleton.1 ht]; exact ⟨by decide, by decide⟩) (by have := TmIn.len h; simp at this; omega))
  rw [fy_show] at HS
  have HP := hide (fun (wx : World) (hI : IdxB wx w.heap.size w.heap.size []) => fy_putany w.heap.size w.heap.size wx hI)
  have kc := fun (w : World) (C : Array Value) (n c : Nat) => Lib.run_convert_bytes_const (P := Tryz.prog) w 51 5 C n c Tryz.underlying51 Tryz.underlying5
  have hst : ((str [98, 32, 97, 110, 121]).toList == [98, 32, 97, 110, 121]) = true := by rw [str_toList]; rfl
  clear SA SR
  go_enter Tryz.func7, Tryz.ntmps7
  go_upto_region 4 with (first
    | (go_at_call 10
       refine (HA.out _ _ hN4).mono ?_
       rintro e w5 ⟨A5, n5, c5, rfl, h5, hb5⟩
       have hbw5 := hbw4.trans (hb5.mono hbw4.size)
       have hI5 := hI4.below hb5)
    | (go_at_call 25
       refine (HP.out _ hI1).mono ?_
       rintro e w2 ⟨rfl, hI2, hb2⟩
       have hs1 := Blk.new w2 63 #[.int .i64 0, .int .i64 1000000000]
       have hn1 := Blk.new (w2.alloc (.cells #[.int .i64 0, .int .i64 1000000000] 63)) 56 #[.string (str [97]), .slice (some ⟨w2.heap.size, 0, none⟩) 1 1]
       rw [World.size_alloc] at hn1
       have hN4 := ndOn_fy _ _ _ (hs1.alloc (.cells #[.string (str [97]), .slice (some ⟨w2.heap.size, 0, none⟩) 1 1] 56)) hn1
       have hI4 := (hI2.below (Span.alloc_b (.cells #[.int .i64 0, .int .i64 1000000000] 63))).below (Span.alloc_b (.cells #[.string (str [97]), .slice (some ⟨w2.heap.size, 0, none⟩) 1 1] 56))
       have hbw2 := hb1.trans (((Span.alloc_b _).mono hb1.size).trans hb2)
       have hbw4 := (hbw2.alloc hbw2.size (.cells #[.int .i64 0, .int .i64 1000000000] 63)).alloc (Nat.le_trans hbw2.size (by simp)) (.cells #[.string (str [97]), .slice (some ⟨w2.heap.size, 0, none⟩) 1 1] 56))
    | (go_at_call 24
       refine HN.out.mono ?_
       rintro e w1 ⟨rfl, hI0, hb1⟩
       have hI1 : IdxB w1 w.heap.size w.heap.size [] := ⟨Nat.le_refl _, none, hI0, fun b e => by cases e⟩))
  have e5 : n5 = 1 := by have := TmIn.len h5; simp at this; omega
  subst e5
  clear HN HP HA hI1 hI4 hI2 hN4 hs1 hn1 hb2
  go_upto_region 5 with (first
    | (go_at_call 12
       refine (HR.out _ _ hI5).mono ?_
       rintro e w6 ⟨A6, n6, c6, rfl, h6, hb6⟩
       have hbw6 := hbw5.trans (hb6.mono hbw5.size)))
  have h56 : TmOn w6 A5 1 [⟨str [97], [], true⟩] := TmOn.on h5 hb6
  obtain ⟨ad, q, A', n', c', rfl, hbl, hq, hs, p1, p2, p3⟩ := TmIn.at_ h56 (k := 0) (by omega)
  have eq : q = ⟨str [97], [], true⟩ := by simpa using hq.symm
  subst eq
  have hn' : n' = 0 := by have := hs.1; simpa using this.symm
  subst hn'
  simp only [Nat.zero_mul] at p1 p2 p3
  have a0 : ad.add 0 = ad := by unfold Addr.add; simp
  rw [a0] at p1 p2 p3
  clear hq hs h56 h5 hI5 HR
  go_wp2_with (first
    | (go_at_call 26
       refine (HS.out _ _ _ _ h6).mono ?_
       rintro e w7 ⟨rfl, hb7⟩
       have hbw7 := hbw6.trans (hb7.mono hbw6.size)))
  go_ret
  exact ⟨rfl, hbw7⟩
end Go.Proofs.YtpicnbidbddggaaGreat.Fact
/-
  The walk of FactReads, if the program's functions of facts tell what they have to. Condition: those premises.
-/
namespace Go.Proofs.YtpicnbidbddggaaGreat.Fact
open Go Go.RowKit Go.Lib Go.Sort Go.Proofs.YtpicnbidbddggaaGreat.Span Go.Proofs.YtpicnbidbddggaaGreat.Need Go.Proofs.YtpicnbidbddggaaGreat.Mani Go.Proofs.YtpicnbidbddggaaGreat.Wire Go.Proofs.YtpicnbidbddggaaGreat.Depot Go.Proofs.YtpicnbidbddggaaGreat.Index Go.Proofs.YtpicnbidbddggaaGreat.Reach Go.Proofs.YtpicnbidbddggaaGreat.Term Go.Proofs.YtpicnbidbddggaaGreat.Clash Go.Proofs.YtpicnbidbddggaaGreat.Fit
set_option linter.unusedVariables false
theorem namesF9 {l : List Nd} (h : Fine l) : Names9 l := fun q hq => by have := h.2 q hq; omega
def skipR (l : List En) (root : List Nd) (nm tn : ByteArray) : Bool := largeE l || (large root || (!okS root || (decide (200 < nm.size) || decide (200 < tn.size))))
set_option maxHeartbeats 8000000 in
set_option maxRecDepth 100000 in
theorem freads_skip (SA : SpecAskedF) (SR : SpecReleasedF) (l : List En) (root : List Nd) (nm : ByteArray) (v : Int) (tn : ByteArray) (A0 A1 : Option Addr) (n0 c0 n1 c1 : Nat) (w : World) (h : EnOn w A0 n0 l) (h' : NdOn w A1 n1 root) (hn : n0 ≤ 9223372036854775807) (hn' : n1 ≤ 9223372036854775807) (hsk : skipR l root nm tn = true) :
    Calls Tryz.prog 3 #[.slice A0 n0 c0, .slice A1 n1 c1, .agg #[.string nm, .int .i64 v, .string tn]] w fun e w' => e = .returned (.bool true) ∧ Below w.heap.size w w' := by
  obtain ⟨W0, hW0⟩ : ∃ W0, W0 = w.alloc (.cells #[.string nm, .int .i64 v, .string tn] 25) := ⟨_, rfl⟩
  have hbW0 : Below w.heap.size w W0 := by rw [hW0]; exact alloc_b _
  have hBc : Blk W0 w.heap.size 25 #[.string nm, .int .i64 v, .string tn] := by rw [hW0]; exact Blk.new w _ _
  have HX := hide (fun wx (hx : Below W0.heap.size W0 wx) => (⟨((hBc.below hx hBc.lt).cell 0).trans rfl, ((hBc.below hx hBc.lt).cell 1).trans rfl, ((hBc.below hx hBc.lt).cell 2).trans rfl⟩ :
    wx.cell? ⟨w.heap.size, 0, none⟩ = some (Value.string nm) ∧ wx.cell? ⟨w.heap.size, 1, none⟩ = some (Value.int .i64 v) ∧ wx.cell? ⟨w.heap.size, 2, none⟩ = some (Value.string tn)))
  have HW := hide (fun wx => awakeFa_any SA SR wx)
  have HL := hide (fun (wx : World) (hb : Below W0.heap.size W0 wx) => largeE_any l A0 n0 c0 wx (h.on (hbW0.trans (hb.mono hbW0.size))) (by omega))
  unfold Tells at HL
  have HR := hide (fun (wx : World) (hb : Below W0.heap.size W0 wx) => large_any root A1 n1 c1 wx (h'.on (hbW0.trans (hb.mono hbW0.size))) (by omega))
  clear SA SR
  cases g1 : largeE l with
  | true =>
    rw [g1] at HL
    clear h h' hn hn' hsk HR
    go_enter Tryz.func3, Tryz.ntmps3
    go_upto_region 1 with fail
    rw [← hW0]
    have hb0 : Below W0.heap.size W0 W0 := Below.refl _ _
    obtain ⟨k00, k01, k02⟩ := HX.out _ hb0
    clear hW0 hBc
    go_wp2_with (first
      | (go_at_call 7
         refine (HW.out _).mono ?_
         rintro e w9 ⟨rfl, hb9⟩
         have hbe := (hbW0.trans (hb1.mono hbW0.size)).trans (hb9.mono (hbW0.trans (hb1.mono hbW0.size)).size))
      | (go_at_call 4
         refine (HL.out _ hb0).mono ?_
         rintro e w1 ⟨rfl, hb1x⟩
         have hb1 := hb0.trans (hb1x.mono hb0.size)
         obtain ⟨k10, k11, k12⟩ := HX.out _ hb1))
    go_ret
    exact ⟨rfl, hbe⟩

  | false =>
  rw [g1] at HL
  cases g2 : large root with
  | true =>
    rw [g2] at HR
    clear h h' hn hn' hsk
    go_enter Tryz.func3, Tryz.ntmps3
    go_upto_region 1 with fail
    rw [← hW0]
    have hb0 : Below W0.heap.size W0 W0 := Below.refl _ _
    obtain ⟨k00, k01, k02⟩ := HX.out _ hb0
    clear hW0 hBc
    go_wp2_with (first
      | (go_at_call 7
         refine (HW.out _).mono ?_
         rintro e w9 ⟨rfl, hb9⟩
         have hbe := (hbW0.trans (hb2.mono hbW0.size)).trans (hb9.mono (hbW0.trans (hb2.mono hbW0.size)).size))
      | (go_at_call 5
         refine (HR.out _ hb1).mono ?_
         rintro e w2 ⟨rfl, hb2x⟩
         have hb2 := hb1.trans (hb2x.mono hb1.size)
         obtain ⟨k20, k21, k22⟩ := HX.out _ hb2)
      | (go_at_call 4
         refine (HL.out _ hb0).mono ?_
         rintro e w1 ⟨rfl, hb1x⟩
         have hb1 := hb0.trans (hb1x.mono hb0.size)
         obtain ⟨k10, k11, k12⟩ := HX.out _ hb1))
    go_ret
    exact ⟨rfl, hbe⟩

  | false =>
  rw [g2] at HR
  have hfn := fine_of g2
  have hn40 : n1 ≤ 40 := by rw [← h'.len]; exact hfn.1
  have HK := hide (fun (wx : World) (hb : Below W0.heap.size W0 wx) => refCheckN_any root A1 n1 c1 wx (h'.on (hbW0.trans (hb.mono hbW0.size))) (namesF9 hfn) (by omega))
  cases g3 : okS root with
  | false =>
    rw [g3] at HK
    clear h h' hn hn' hsk hfn hn40
    go_enter Tryz.func3, Tryz.ntmps3
    go_upto_region 1 with fail
    rw [← hW0]
    have hb0 : Below W0.heap.size W0 W0 := Below.refl _ _
    obtain ⟨k00, k01, k02⟩ := HX.out _ hb0
    clear hW0 hBc
    go_wp2_with (first
      | (go_at_call 7
         refine (HW.out _).mono ?_
         rintro e w9 ⟨rfl, hb9⟩
         have hbe := (hbW0.trans (hb3.mono hbW0.size)).trans (hb9.mono (hbW0.trans (hb3.mono hbW0.size)).size))
      | (go_at_call 6
         refine (HK.out _ hb2).mono ?_
         rintro e w3 ⟨rfl, hb3x⟩
         have hb3 := hb2.trans (hb3x.mono hb2.size)
         obtain ⟨k30, k31, k32⟩ := HX.out _ hb3)
      | (go_at_call 5
         refine (HR.out _ hb1).mono ?_
         rintro e w2 ⟨rfl, hb2x⟩
         have hb2 := hb1.trans (hb2x.mono hb1.size)
         obtain ⟨k20, k21, k22⟩ := HX.out _ hb2)
      | (go_at_call 4
         refine (HL.out _ hb0).mono ?_
         rintro e w1 ⟨rfl, hb1x⟩
         have hb1 := hb0.trans (hb1x.mono hb0.size)
         obtain ⟨k10, k11, k12⟩ := HX.out _ hb1))
    go_ret
    exact ⟨rfl, hbe⟩

  | true =>
  rw [g3] at HK
  by_cases g4 : 200 < nm.size
  · have z1 : (200 : Int) < (nm.size : Int) := by omega
    clear h h' hn hn' hsk hfn hn40 g4
    go_enter Tryz.func3, Tryz.ntmps3
    go_upto_region 1 with fail
    rw [← hW0]
    have hb0 : Below W0.heap.size W0 W0 := Below.refl _ _
    obtain ⟨k00, k01, k02⟩ := HX.out _ hb0
    clear hW0 hBc
    go_wp2_with (first
      | (go_at_call 7
         refine (HW.out _).mono ?_
         rintro e w9 ⟨rfl, hb9⟩
         have hbe := (hbW0.trans (hb3.mono hbW0.size)).trans (hb9.mono (hbW0.trans (hb3.mono hbW0.size)).size))
      | (go_at_call 6
         refine (HK.out _ hb2).mono ?_
         rintro e w3 ⟨rfl, hb3x⟩
         have hb3 := hb2.trans (hb3x.mono hb2.size)
         obtain ⟨k30, k31, k32⟩ := HX.out _ hb3)
      | (go_at_call 5
         refine (HR.out _ hb1).mono ?_
         rintro e w2 ⟨rfl, hb2x⟩
         have hb2 := hb1.trans (hb2x.mono hb1.size)
         obtain ⟨k20, k21, k22⟩ := HX.out _ hb2)
      | (go_at_call 4
         refine (HL.out _ hb0).mono ?_
         rintro e w1 ⟨rfl, hb1x⟩
         have hb1 := hb0.trans (hb1x.mono hb0.size)
         obtain ⟨k10, k11, k12⟩ := HX.out _ hb1))
    go_ret
    exact ⟨rfl, hbe⟩

  · have z1 : ¬ (200 : Int) < (nm.size : Int) := by omega
    have g5 : 200 < tn.size := by
      unfold skipR at hsk
      rw [g1, g2, g3, decide_eq_false g4] at hsk
      simpa using hsk
    have z2 : (200 : Int) < (tn.size : Int) := by omega
    clear h h' hn hn' hsk hfn hn40 g4 g5
    go_enter Tryz.func3, Tryz.ntmps3
    go_upto_region 1 with fail
    rw [← hW0]
    have hb0 : Below W0.heap.size W0 W0 := Below.refl _ _
    obtain ⟨k00, k01, k02⟩ := HX.out _ hb0
    clear hW0 hBc
    go_wp2_with (first
      | (go_at_call 7
         refine (HW.out _).mono ?_
         rintro e w9 ⟨rfl, hb9⟩
         have hbe := (hbW0.trans (hb3.mono hbW0.size)).trans (hb9.mono (hbW0.trans (hb3.mono hbW0.size)).size))
      | (go_at_call 6
         refine (HK.out _ hb2).mono ?_
         rintro e w3 ⟨rfl, hb3x⟩
         have hb3 := hb2.trans (hb3x.mono hb2.size)
         obtain ⟨k30, k31, k32⟩ := HX.out _ hb3)
      | (go_at_call 5
         refine (HR.out _ hb1).mono ?_
         rintro e w2 ⟨rfl, hb2x⟩
         have hb2 := hb1.trans (hb2x.mono hb1.size)
         obtain ⟨k20, k21, k22⟩ := HX.out _ hb2)
      | (go_at_call 4
         refine (HL.out _ hb0).mono ?_
         rintro e w1 ⟨rfl, hb1x⟩
         have hb1 := hb0.trans (hb1x.mono hb0.size)
         obtain ⟨k10, k11, k12⟩ := HX.out _ hb1))
    go_ret
    exact ⟨rfl, hbe⟩

set_option maxHeartbeats 16000000 in
set_option maxRecDepth 100000 in
theorem freads_main (SA : SpecAskedF) (SR : SpecReleasedF) (SN : SpecNeededF) (SRo : SpecRootF) (SAl : SpecAllF) (l : List En) (root : List Nd) (nm : ByteArray) (v : Int) (tn : ByteArray) (A0 A1 : Option Addr) (n0 c0 n1 c1 : Nat) (w : World) (h : EnOn w A0 n0 l) (h' : NdOn w A1 n1 root) (hn : n0 ≤ 9223372036854775807) (hn' : n1 ≤ 9223372036854775807) (hsk : skipR l root nm tn = false) :
    Calls Tryz.prog 3 #[.slice A0 n0 c0, .slice A1 n1 c1, .agg #[.string nm, .int .i64 v, .string tn]] w fun e w' => e = .returned (.bool true) ∧ Below w.heap.size w w' := by
  unfold skipR at hsk
  simp only [Bool.or_eq_false_iff, Bool.not_eq_false', decide_eq_false_iff_not] at hsk
  obtain ⟨g1, g2, g3, g4, g5⟩ := hsk
  have z1 : ¬ (200 : Int) < (nm.size : Int) := by omega
  have z2 : ¬ (200 : Int) < (tn.size : Int) := by omega
  obtain ⟨W0, hW0⟩ : ∃ W0, W0 = w.alloc (.cells #[.string nm, .int .i64 v, .string tn] 25) := ⟨_, rfl⟩
  have hbW0 : Below w.heap.size w W0 := by rw [hW0]; exact alloc_b _
  have hBc : Blk W0 w.heap.size 25 #[.string nm, .int .i64 v, .string tn] := by rw [hW0]; exact Blk.new w _ _
  have HX := hide (fun wx (hx : Below W0.heap.size W0 wx) => (⟨((hBc.below hx hBc.lt).cell 0).trans rfl, ((hBc.below hx hBc.lt).cell 1).trans rfl, ((hBc.below hx hBc.lt).cell 2).trans rfl⟩ :
    wx.cell? ⟨w.heap.size, 0, none⟩ = some (Value.string nm) ∧ wx.cell? ⟨w.heap.size, 1, none⟩ = some (Value.int .i64 v) ∧ wx.cell? ⟨w.heap.size, 2, none⟩ = some (Value.string tn)))
  have HW := hide (fun wx => awakeFa_any SA SR wx)
  have HL := hide (fun (wx : World) (hb : Below W0.heap.size W0 wx) => largeE_any l A0 n0 c0 wx (h.on (hbW0.trans (hb.mono hbW0.size))) (by omega))
  unfold Tells at HL
  have HR := hide (fun (wx : World) (hb : Below W0.heap.size W0 wx) => large_any root A1 n1 c1 wx (h'.on (hbW0.trans (hb.mono hbW0.size))) (by omega))
  rw [g1] at HL
  rw [g2] at HR
  have hfn := fine_of g2
  have hn40 : n1 ≤ 40 := by rw [← h'.len]; exact hfn.1
  have HK := hide (fun (wx : World) (hb : Below W0.heap.size W0 wx) => refCheckN_any root A1 n1 c1 wx (h'.on (hbW0.trans (hb.mono hbW0.size))) (namesF9 hfn) (by omega))
  rw [g3] at HK
  obtain ⟨h30, hs⟩ := fineE_of g1
  obtain ⟨hr, hf, hsh, hXl⟩ := take_bounds l l.length h30 hs
  rw [List.take_of_length_le (Nat.le_refl _)] at hr hf hsh hXl
  have hX : OkX (putsX [] l) := okX_puts hf (by omega)
  have hlen := h.len
  have HIO := hide (fun (wx : World) (hb : Below W0.heap.size W0 wx) => indexOf_any l A0 n0 c0 wx (h.on (hbW0.trans (hb.mono hbW0.size))) (by omega) fun e he => by have := hs e he; omega)
  have HIR := hide (fun (wx : World) (hb : Below W0.heap.size W0 wx) => refOfX_any l A0 n0 c0 wx (h.on (hbW0.trans (hb.mono hbW0.size))) (by omega) fun e he => by have := hs e he; omega)
  generalize putsX [] l = X at *
  have HX0 := hide hX
  have HNd := hide (fun (wx : World) (hb : Below w.heap.size w wx) => h'.on hb)
  clear h hs hr hf hsh hXl hlen h30 h' hn hn' hfn g1 g2
  go_enter Tryz.func3, Tryz.ntmps3
  go_upto_region 1 with fail
  rw [← hW0]
  have hb0 : Below W0.heap.size W0 W0 := Below.refl _ _
  obtain ⟨k00, k01, k02⟩ := HX.out _ hb0
  clear hW0 hBc
  go_upto_region 3 with (first
    | (go_at_call 6
       refine (HK.out _ hb2).mono ?_
       rintro e w3 ⟨rfl, hb3x⟩
       have hb3 := hb2.trans (hb3x.mono hb2.size)
       obtain ⟨k30, k31, k32⟩ := HX.out _ hb3)
    | (go_at_call 5
       refine (HR.out _ hb1).mono ?_
       rintro e w2 ⟨rfl, hb2x⟩
       have hb2 := hb1.trans (hb2x.mono hb1.size)
       obtain ⟨k20, k21, k22⟩ := HX.out _ hb2)
    | (go_at_call 4
       refine (HL.out _ hb0).mono ?_
       rintro e w1 ⟨rfl, hb1x⟩
       have hb1 := hb0.trans (hb1x.mono hb0.size)
       obtain ⟨k10, k11, k12⟩ := HX.out _ hb1))
  clear HL HR HK k00 k01 k02 k10 k11 k12 k20 k21 k22 hb1x hb2x hb3x hb1 hb2 hb0 k30 k31 k32 z1 z2
  go_upto_region 4 with (first
    | (go_at_call 8
       refine (HIO.out _ hb3).mono ?_
       rintro e w4 ⟨g, rfl, hI4, hb4x⟩
       have hb4 := hb3.trans (hb4x.mono hb3.size)))
  go_upto_region 5 with (first
    | (go_at_call 9
       refine (HIR.out _ hb4).mono ?_
       rintro e w5 ⟨Ax, nx, cx, rfl, hK5, hb5x⟩
       have hb5 := hb4.trans (hb5x.mono hb4.size)
       have hI5 := hI4.below hb5x))
  obtain ⟨W6, hW6⟩ : ∃ W, W = w5.alloc (.cells #[.slice Ax nx cx] 33) := ⟨_, rfl⟩
  obtain ⟨gX, hgX⟩ : ∃ g, g = w5.heap.size := ⟨_, rfl⟩
  have hA6 : Below w5.heap.size w5 W6 := by rw [hW6]; exact alloc_b _
  have hBx : Blk W6 gX 33 #[.slice Ax nx cx] := by rw [hW6, hgX]; exact Blk.new _ _ _
  have hb06 : Below W0.heap.size W0 W6 := hb5.trans (hA6.mono hb5.size)
  have hBc6 := HX.out _ hb06
  have hbw6 : Below w.heap.size w W6 := hbW0.trans (hb06.mono hbW0.size)
  have hI6 := hI5.below hA6
  have hK6 := hK5.below hA6
  have HASK : Hid (AskX X (.pointer (some ⟨g, 0, none⟩)) W6) := hide ⟨⟨_, rfl⟩, tells_idx hI6 HX0.out.fine, HX0.out⟩
  have hN6 := HNd.out _ hbw6
  have HQ := hide (fun (wx : World) (hx : Below W6.heap.size W6 wx) => (⟨(HX.out _ (hb06.trans (hx.mono hb06.size))).1, (HX.out _ (hb06.trans (hx.mono hb06.size))).2.1, (HX.out _ (hb06.trans (hx.mono hb06.size))).2.2, ((hBx.below hx hBx.lt).cell 0).trans rfl⟩ :
    wx.cell? ⟨w.heap.size, 0, none⟩ = some (Value.string nm) ∧ wx.cell? ⟨w.heap.size, 1, none⟩ = some (Value.int .i64 v) ∧ wx.cell? ⟨w.heap.size, 2, none⟩ = some (Value.string tn) ∧ wx.cell? ⟨gX, 0, none⟩ = some (Value.slice Ax nx cx)))
  have CA := hide (fun (wx : World) (hx : Below W6.heap.size W6 wx) => SA root nm A1 n1 c1 wx (hN6.on hx) hn40 g3 (by omega))
  have DA := hide (fun (wx : World) (hx : Below W6.heap.size W6 wx) => refAsked_any root nm A1 n1 c1 wx (hN6.on hx) (by omega) g3)
  have CR := hide (fun (wx : World) (hx : Below W6.heap.size W6 wx) => SR X nm (.pointer (some ⟨g, 0, none⟩)) wx (HASK.out.on hx) (by omega))
  have DR := hide (fun (wx : World) (hx : Below W6.heap.size W6 wx) => refReleased_any X nm Ax nx cx wx (hK6.below hx) HX0.out)
  have CN := hide (fun (wx : World) (hx : Below W6.heap.size W6 wx) => SN X nm v tn (.pointer (some ⟨g, 0, none⟩)) wx (HASK.out.on hx) (by omega) (by omega))
  have DN := hide (fun (wx : World) (hx : Below W6.heap.size W6 wx) => refNeeded_any X nm v tn Ax nx cx wx (hK6.below hx) HX0.out)
  have CRo := hide (fun (wx : World) (hx : Below W6.heap.size W6 wx) => SRo root A1 n1 c1 wx (hN6.on hx) hn40 g3)
  have DRo := hide (fun (wx : World) (hx : Below W6.heap.size W6 wx) => refRoot_any root A1 n1 c1 wx (hN6.on hx) (by omega) g3)
  have CAl := hide (fun (wx : World) (hx : Below W6.heap.size W6 wx) => SAl X nm (.pointer (some ⟨g, 0, none⟩)) wx (HASK.out.on hx) (by omega))
  have DAl := hide (fun (wx : World) (hx : Below W6.heap.size W6 wx) => refAll_any X nm Ax nx cx wx (hK6.below hx) HX0.out)
  unfold MakesC at CA CR CN
  unfold MakesR at DA DR DN
  unfold FactsC at CRo DRo CAl DAl
  have FA := hide (fin_asked g3 nm)
  have FR := hide (fin_released HX0.out nm)
  have FN := hide (fin_needed HX0.out nm v tn)
  have FRo := hide (fin_root g3)
  have FAl := hide (fin_all HX0.out nm)
  have LRo : Hid ((rootP root).length ≤ 2000) := hide (by rw [root_len]; have := hN6.len; omega)
  have LAl : Hid ((allP X nm).length ≤ 2000) := hide (by have := all_len HX0.out nm; omega)
  have LRo2 : Hid (((rootP root).map Prod.fst).length ≤ 2000 ∧ ((rootP root).map Prod.snd).length ≤ 2000) := hide (by rw [List.length_map, List.length_map]; exact ⟨LRo.out, LRo.out⟩)
  have LAl2 : Hid (((allP X nm).map Prod.fst).length ≤ 2000 ∧ ((allP X nm).map Prod.snd).length ≤ 2000) := hide (by rw [List.length_map, List.length_map]; exact ⟨LAl.out, LAl.out⟩)
  have hb6 : Below W6.heap.size W6 W6 := Below.refl _ _
  obtain ⟨k0, k1, k2, k3⟩ := HQ.out _ hb6
  try rw [← hgX]
  try rw [← hW6]
  generalize (askedC root nm).getD [] = RA at *
  generalize (askedC root nm).isSome = bA at *
  generalize (releasedC X nm).getD [] = RR at *
  generalize (releasedC X nm).isSome = bR at *
  generalize (neededC X nm v tn).getD [] = RN at *
  generalize (neededC X nm v tn).isSome = bN at *
  generalize (rootP root).map Prod.fst = Rf at *
  generalize (rootP root).map Prod.snd = Rs at *
  generalize (allP X nm).map Prod.fst = Lf at *
  generalize (allP X nm).map Prod.snd = Ls at *
  clear hW6 hgX hA6 hBx hb4 hb5 hb4x hb5x hI4 hI5 hI6 hK5 hK6 hN6 HNd HX0 HASK HIO HIR hX hBc6 HX hb3 LRo LAl SA SR SN SRo SAl g3 g4 g5 hn40
  clear k0 k1 k2 k3
  obtain ⟨k0, k1, k2, k3⟩ := HQ.out _ hb6
  go_upto_region 6 with (first
    | (go_at_call 10
       refine (CA.out _ hb6).mono ?_
       rintro e w7 ⟨A7, n7, c7, rfl, h7, hb7x⟩
       have hb7 := hb6.trans (hb7x.mono hb6.size)
       obtain ⟨k0, k1, k2, k3⟩ := HQ.out _ hb7))
  clear k0 k1 k2 k3
  obtain ⟨k0, k1, k2, k3⟩ := HQ.out _ hb7
  go_upto_region 7 with (first
    | (go_at_call 11
       refine (DA.out _ hb7).mono ?_
       rintro e w8 ⟨A8, n8, c8, rfl, h8r, hb8x⟩
       have hb8 := hb7.trans (hb8x.mono hb7.size)
       obtain ⟨k0, k1, k2, k3⟩ := HQ.out _ hb8
       have h8 : TmOn w8 A8 n8 _ := TmR.in_ h8r
       have h7 := TmOn.on h7 hb8x))
  clear k0 k1 k2 k3
  obtain ⟨k0, k1, k2, k3⟩ := HQ.out _ hb8
  go_upto_region 8 with (first
    | (go_at_call 12
       refine (CR.out _ hb8).mono ?_
       rintro e w9 ⟨A9, n9, c9, rfl, h9, hb9x⟩
       have hb9 := hb8.trans (hb9x.mono hb8.size)
       obtain ⟨k0, k1, k2, k3⟩ := HQ.out _ hb9
       have h7 := TmOn.on h7 hb9x
       have h8 := TmOn.on h8 hb9x))
  clear k0 k1 k2 k3
  obtain ⟨k0, k1, k2, k3⟩ := HQ.out _ hb9
  go_upto_region 9 with (first
    | (go_at_call 13
       refine (DR.out _ hb9).mono ?_
       rintro e w10 ⟨A10, n10, c10, rfl, h10r, hb10x⟩
       have hb10 := hb9.trans (hb10x.mono hb9.size)
       obtain ⟨k0, k1, k2, k3⟩ := HQ.out _ hb10
       have h10 : TmOn w10 A10 n10 _ := TmR.in_ h10r
       have h7 := TmOn.on h7 hb10x
       have h8 := TmOn.on h8 hb10x
       have h9 := TmOn.on h9 hb10x))
  clear k0 k1 k2 k3
  obtain ⟨k0, k1, k2, k3⟩ := HQ.out _ hb10
  go_upto_region 10 with (first
    | (go_at_call 14
       refine (CN.out _ hb10).mono ?_
       rintro e w11 ⟨A11, n11, c11, rfl, h11, hb11x⟩
       have hb11 := hb10.trans (hb11x.mono hb10.size)
       obtain ⟨k0, k1, k2, k3⟩ := HQ.out _ hb11
       have h7 := TmOn.on h7 hb11x
       have h8 := TmOn.on h8 hb11x
       have h9 := TmOn.on h9 hb11x
       have h10 := TmOn.on h10 hb11x))
  clear k0 k1 k2 k3
  obtain ⟨k0, k1, k2, k3⟩ := HQ.out _ hb11
  go_upto_region 11 with (first
    | (go_at_call 15
       refine (DN.out _ hb11).mono ?_
       rintro e w12 ⟨A12, n12, c12, rfl, h12r, hb12x⟩
       have hb12 := hb11.trans (hb12x.mono hb11.size)
       obtain ⟨k0, k1, k2, k3⟩ := HQ.out _ hb12
       have h12 : TmOn w12 A12 n12 _ := TmR.in_ h12r
       have h7 := TmOn.on h7 hb12x
       have h8 := TmOn.on h8 hb12x
       have h9 := TmOn.on h9 hb12x
       have h10 := TmOn.on h10 hb12x
       have h11 := TmOn.on h11 hb12x))
  clear k0 k1 k2 k3
  have SA7 := hide (fun (wx : World) (hx : Below w12.heap.size w12 wx) => sameC_yes RA A7 A8 n7 c7 n8 c8 wx (TmOn.on h7 hx) (TmOn.on h8 hx) FA.out)
  have SR7 := hide (fun (wx : World) (hx : Below w12.heap.size w12 wx) => sameC_yes RR A9 A10 n9 c9 n10 c10 wx (TmOn.on h9 hx) (TmOn.on h10 hx) FR.out)
  have SN7 := hide (fun (wx : World) (hx : Below w12.heap.size w12 wx) => sameC_yes RN A11 A12 n11 c11 n12 c12 wx (TmOn.on h11 hx) (TmOn.on h12 hx) FN.out)
  have hz0 : Below w12.heap.size w12 w12 := Below.refl _ _
  clear h7 h8 h9 h10 h11 h12 h8r h10r h12r CA DA CR DR CN DN FA FR FN
  go_upto_region 13 with (first
    | (go_at_call_of 16 (Value.slice A11 n11 c11)
       have hzz := hz2
       refine (SN7.out _ hz2).mono ?_
       rintro e w15 ⟨rfl, hz3x⟩
       have hz3 := hz2.trans (hz3x.mono hz2.size))
    | (go_at_call_of 16 (Value.slice A9 n9 c9)
       have hzz := hz1
       refine (SR7.out _ hz1).mono ?_
       rintro e w14 ⟨rfl, hz2x⟩
       have hz2 := hz1.trans (hz2x.mono hz1.size))
    | (go_at_call_of 16 (Value.slice A7 n7 c7)
       refine (SA7.out _ hz0).mono ?_
       rintro e w13 ⟨rfl, hz1x⟩
       have hz1 := hz0.trans (hz1x.mono hz0.size)))
  have hb15 : Below W6.heap.size W6 w15 := hb12.trans (hz3.mono hb12.size)
  clear SA7 SR7 SN7 hz0 hz1 hz2 hz3 hz1x hz2x hz3x hb7 hb8 hb9 hb10 hb11 hb7x hb8x hb9x hb10x hb11x hb12x hb12
  obtain ⟨k0, k1, k2, k3⟩ := HQ.out _ hb15
  go_upto_region 14 with (first
    | (go_at_call 17
       refine (CRo.out _ hb15).mono ?_
       rintro e w16 ⟨A16, n16, c16, B16, m16, d16, rfl, h16, s16, hb16x⟩
       have hb16 := hb15.trans (hb16x.mono hb15.size)))
  clear k0 k1 k2 k3
  obtain ⟨k0, k1, k2, k3⟩ := HQ.out _ hb16
  go_upto_region 15 with (first
    | (go_at_call 18
       refine (DRo.out _ hb16).mono ?_
       rintro e w17 ⟨A17, n17, c17, B17, m17, d17, rfl, h17, s17, hb17x⟩
       have hb17 := hb16.trans (hb17x.mono hb16.size)
       have h16 := FcOn.on h16 hb17x
       have s16 := SsOn.on s16 hb17x))
  clear k0 k1 k2 k3
  obtain ⟨k0, k1, k2, k3⟩ := HQ.out _ hb17
  go_upto_region 16 with (first
    | (go_at_call 19
       refine (CAl.out _ hb17).mono ?_
       rintro e w18 ⟨A18, n18, c18, B18, m18, d18, rfl, h18, s18, hb18x⟩
       have hb18 := hb17.trans (hb18x.mono hb17.size)
       have h16 := FcOn.on h16 hb18x
       have s16 := SsOn.on s16 hb18x
       have h17 := FcOn.on h17 hb18x
       have s17 := SsOn.on s17 hb18x))
  clear k0 k1 k2 k3
  obtain ⟨k0, k1, k2, k3⟩ := HQ.out _ hb18
  go_upto_region 17 with (first
    | (go_at_call 20
       refine (DAl.out _ hb18).mono ?_
       rintro e w19 ⟨A19, n19, c19, B19, m19, d19, rfl, h19, s19, hb19x⟩
       have hb19 := hb18.trans (hb19x.mono hb18.size)
       have h16 := FcOn.on h16 hb19x
       have s16 := SsOn.on s16 hb19x
       have h17 := FcOn.on h17 hb19x
       have s17 := SsOn.on s17 hb19x
       have h18 := FcOn.on h18 hb19x
       have s18 := SsOn.on s18 hb19x))
  clear k0 k1 k2 k3
  have S1 := hide (fun (wx : World) (hx : Below w19.heap.size w19 wx) => refSameF_yes Rf Rs A16 A17 B16 B17 n16 c16 n17 c17 m16 d16 m17 d17 wx (FcOn.on h16 hx) (FcOn.on h17 hx) (SsOn.on s16 hx) (SsOn.on s17 hx) (fun c hc => ⟨(FRo.out c hc).1, by have := (FRo.out c hc).2.1; omega⟩) (by have := FcIn.len h16; have := LRo2.out; omega) (by have := SsIn.len s16; have := LRo2.out; omega))
  have S2 := hide (fun (wx : World) (hx : Below w19.heap.size w19 wx) => refSameF_yes Lf Ls A18 A19 B18 B19 n18 c18 n19 c19 m18 d18 m19 d19 wx (FcOn.on h18 hx) (FcOn.on h19 hx) (SsOn.on s18 hx) (SsOn.on s19 hx) (fun c hc => ⟨(FAl.out c hc).1, by have := (FAl.out c hc).2.1; omega⟩) (by have := FcIn.len h18; have := LAl2.out; omega) (by have := SsIn.len s18; have := LAl2.out; omega))
  have hz0 : Below w19.heap.size w19 w19 := Below.refl _ _
  have hbw19 : Below w.heap.size w w19 := hbw6.trans (hb19.mono hbw6.size)
  clear h16 h17 h18 h19 s16 s17 s18 s19 CRo DRo CAl DAl FRo FAl LRo2 LAl2 HQ
  go_wp2_with (first
    | (go_at_call_of 21 (Value.slice A18 n18 c18)
       have hzz := hz1
       refine (S2.out _ hz1).mono ?_
       rintro e w21 ⟨rfl, hz2x⟩
       have hz2 := hz1.trans (hz2x.mono hz1.size))
    | (go_at_call_of 21 (Value.slice A16 n16 c16)
       refine (S1.out _ hz0).mono ?_
       rintro e w20 ⟨rfl, hz1x⟩
       have hz1 := hz0.trans (hz1x.mono hz0.size))
    | (go_at_call 7
       refine (HW.out _).mono ?_
       rintro e w22 ⟨rfl, hb22⟩))
  go_ret
  have hbw21 := hbw19.trans (hz2.mono hbw19.size)
  exact ⟨rfl, hbw21.trans (hb22.mono hbw21.size)⟩
theorem freads_walk (SA : SpecAskedF) (SR : SpecReleasedF) (SN : SpecNeededF) (SRo : SpecRootF) (SAl : SpecAllF) (l : List En) (root : List Nd) (nm : ByteArray) (v : Int) (tn : ByteArray) (A0 A1 : Option Addr) (n0 c0 n1 c1 : Nat) (w : World) (h : EnOn w A0 n0 l) (h' : NdOn w A1 n1 root) (hn : n0 ≤ 9223372036854775807) (hn' : n1 ≤ 9223372036854775807) :
    Calls Tryz.prog 3 #[.slice A0 n0 c0, .slice A1 n1 c1, .agg #[.string nm, .int .i64 v, .string tn]] w fun e w' => e = .returned (.bool true) ∧ Below w.heap.size w w' := by
  cases hsk : skipR l root nm tn with
  | true => exact freads_skip SA SR l root nm v tn A0 A1 n0 c0 n1 c1 w h h' hn hn' hsk
  | false => exact freads_main SA SR SN SRo SAl l root nm v tn A0 A1 n0 c0 n1 c1 w h h' hn hn' hsk
end Go.Proofs.YtpicnbidbddggaaGreat.Fact
