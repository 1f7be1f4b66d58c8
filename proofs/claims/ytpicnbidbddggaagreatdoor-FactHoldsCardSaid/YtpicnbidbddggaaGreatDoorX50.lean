/-
  Some texts of this claim, one behind the other: FactSpec, ReachAwakeM, ReachAwake, FactAwake. What each proves, and its condition, stands at its head.
-/
import Derived.Test.YtpicnbidbddggaaGreatDoorX34
import Derived.Test.YtpicnbidbddggaaGreatDoorX38
import Derived.Test.YtpicnbidbddggaaGreatDoorX44
import Derived.Test.YtpicnbidbddggaaGreatDoorX41
import Derived.Test.YtpicnbidbddggaaGreatDoorX30
import Derived.Test.YtpicnbidbddggaaGreatDoorX28
import Derived.Lib.SlBytesConst
import Derived.Lib.SmallJoins
/-
  What the program's functions of facts have to tell, one sentence each, as premises. Condition: none of its own.
-/
namespace Go.Proofs.YtpicnbidbddggaaGreatDoor.Fact
open Go Go.RowKit Go.Lib Go.Proofs.YtpicnbidbddggaaGreatDoor.Span Go.Proofs.YtpicnbidbddggaaGreatDoor.Need Go.Proofs.YtpicnbidbddggaaGreatDoor.Mani Go.Proofs.YtpicnbidbddggaaGreatDoor.Depot Go.Proofs.YtpicnbidbddggaaGreatDoor.Index Go.Proofs.YtpicnbidbddggaaGreatDoor.Reach Go.Proofs.YtpicnbidbddggaaGreatDoor.Term Go.Proofs.YtpicnbidbddggaaGreatDoor.Clash Go.Proofs.YtpicnbidbddggaaGreatDoor.Fit
set_option linter.unusedVariables false
def AskX (X : List Kn) (pv : Value) (w : World) : Prop := (∃ o : Option Addr, pv = .pointer o) ∧ TellsX w pv X ∧ OkX X
theorem AskX.on {X : List Kn} {pv : Value} {w w' : World} (h : AskX X pv w) (hb : Below w.heap.size w w') : AskX X pv w' := ⟨h.1, h.2.1.on hb, h.2.2⟩
def SpecAskedF : Prop := ∀ (root : List Nd) (nm : ByteArray) (A : Option Addr) (n c : Nat) (w : World), NdOn w A n root → n ≤ 40 → okS root = true → nm.size ≤ 1000000000 → Calls Tryz.prog 22 #[.slice A n c, .string nm] w (MakesC w (askedC root nm))
def SpecReleasedF : Prop := ∀ (X : List Kn) (nm : ByteArray) (pv : Value) (w : World), AskX X pv w → nm.size ≤ 1000000000 → Calls Tryz.prog 23 #[pv, .string nm] w (MakesC w (releasedC X nm))
def SpecRootF : Prop := ∀ (root : List Nd) (A : Option Addr) (n c : Nat) (w : World), NdOn w A n root → n ≤ 40 → okS root = true → Calls Tryz.prog 12 #[.slice A n c] w (FactsC w ((rootP root).map Prod.fst) ((rootP root).map Prod.snd))
def SpecAllF : Prop := ∀ (X : List Kn) (nm : ByteArray) (pv : Value) (w : World), AskX X pv w → nm.size ≤ 1000000000 → Calls Tryz.prog 15 #[pv, .string nm] w (FactsC w ((allP X nm).map Prod.fst) ((allP X nm).map Prod.snd))
theorem okX_puts {l : List En} (hf : FineX (putsX [] l)) (h : (putsX [] l).length ≤ 100) : OkX (putsX [] l) := ⟨hf, SetX.nil.puts l, VerK.nil.puts l, FitX.nil.puts l, h, RisX.nil.puts l⟩
end Go.Proofs.YtpicnbidbddggaaGreatDoor.Fact
/-
  The chapter's example, as plain data: a needs b, which is not known. No condition.
-/
namespace Go.Proofs.YtpicnbidbddggaaGreatDoor.Reach
open Go Go.RowKit Go.Lib Go.Sort Go.Proofs.YtpicnbidbddggaaGreatDoor.Span Go.Proofs.YtpicnbidbddggaaGreatDoor.Need Go.Proofs.YtpicnbidbddggaaGreatDoor.Mani Go.Proofs.YtpicnbidbddggaaGreatDoor.Wire Go.Proofs.YtpicnbidbddggaaGreatDoor.Depot Go.Proofs.YtpicnbidbddggaaGreatDoor.Index
open Go.Proofs.YtpicnbidbddggaaGreatDoor.Vlq (enc hi_zero held)
open Go.Proofs.YtpicnbidbddggaaGreatDoor.Label (runes fitL runes_step runes_end rn wd)
set_option linter.unusedVariables false
def exB : List UInt8 := [1, 97, 1, 0, 1, 1, 98, 0]
def exR : List Rl := [(0, [(str [98], [])])]
def exX : List Kn := [(str [97], (exR, true))]
def exN : List Nd := [(str [97], [(0, 1000000000)])]
theorem fit_two : fitL (runes (str [98]) 0) = true := by
  rw [runes_step _ _ (by decide), runes_end _ _ (by decide)]
  decide
theorem nlt_str (l m : List UInt8) : nlt (str l) (str m) = Op.bytesLess l m := by unfold nlt; rw [str_toList, str_toList]
end Go.Proofs.YtpicnbidbddggaaGreatDoor.Reach
/-
  The chapter's example (awake): it holds. No condition.
-/
namespace Go.Proofs.YtpicnbidbddggaaGreatDoor.Reach
open Go Go.RowKit Go.Lib Go.Sort Go.Proofs.YtpicnbidbddggaaGreatDoor.Span Go.Proofs.YtpicnbidbddggaaGreatDoor.Need Go.Proofs.YtpicnbidbddggaaGreatDoor.Mani Go.Proofs.YtpicnbidbddggaaGreatDoor.Wire Go.Proofs.YtpicnbidbddggaaGreatDoor.Depot Go.Proofs.YtpicnbidbddggaaGreatDoor.Index
set_option linter.unusedVariables false
theorem putF_any (g : Nat) (l : List Kn) (nm : ByteArray) (bd : List UInt8) (A : Option Addr) (n c B : Nat) (w : World) (h : IdxB w B g l) (hl : RisesK l) (hlen : l.length ≤ 100000) (hr : Reads w w.heap.size 1 A n (bcs bd)) (hd : ∀ ad, A = some ad → 0 < n → ∃ cur m, w.heap[ad.block]? = some (.cells cur 5 m)) (hnm : nm.size ≤ 1000000000) :
    Calls Tryz.prog 21 #[.pointer (some ⟨g, 0, none⟩), .string nm, .slice A n c] w fun e w' =>
      e = .returned (.int .i64 (errX l nm bd)) ∧ IdxB w' B g (putX l nm bd) ∧ Below B w w' := by
  have hle := h.le
  obtain ⟨h1, mo, h2, h3⟩ := h
  refine (putT_any g mo l nm bd A n c w h2 hl hlen hr hd hnm).mono ?_
  rintro e w' ⟨he, ⟨mo', h4, h5⟩, hg⟩
  refine ⟨he, ⟨h1, mo', h4, fun b hb => ?_⟩, (Below.refl _ _).grown hg hle (fun k hk => by injection hk with hk; rw [← hk]; exact IdxB.row h1 h3)⟩
  rcases h5 with rfl | ⟨_, b', e2, h6⟩
  · exact h3 b hb
  · rw [hb] at e2
    injection e2 with e2
    rw [e2]; exact Nat.le_trans hle h6
theorem spIn_one (w : World) (x y : Int) (B g : Nat) (h : Blk w g 60 #[.int .i64 x, .int .i64 y]) (hB : g < B) : SpIn w B (some ⟨g, 0, none⟩) 1 [(x, y)] :=
  ⟨rfl, fun _ => ⟨_, rfl, hB, fun i s hs => by
    rcases i with _ | i
    · simp at hs
      subst hs
      exact ⟨h.cell 0, h.cell 1⟩
    · simp at hs⟩⟩
end Go.Proofs.YtpicnbidbddggaaGreatDoor.Reach
/-
  The chapter's examples (awake): they hold, if the program's Asked and Released tell what they have to. Condition: those two premises.
-/
namespace Go.Proofs.YtpicnbidbddggaaGreatDoor.Fact
open Go Go.RowKit Go.Lib Go.Sort Go.Proofs.YtpicnbidbddggaaGreatDoor.Span Go.Proofs.YtpicnbidbddggaaGreatDoor.Need Go.Proofs.YtpicnbidbddggaaGreatDoor.Mani Go.Proofs.YtpicnbidbddggaaGreatDoor.Wire Go.Proofs.YtpicnbidbddggaaGreatDoor.Depot Go.Proofs.YtpicnbidbddggaaGreatDoor.Index Go.Proofs.YtpicnbidbddggaaGreatDoor.Reach Go.Proofs.YtpicnbidbddggaaGreatDoor.Term Go.Proofs.YtpicnbidbddggaaGreatDoor.Clash Go.Proofs.YtpicnbidbddggaaGreatDoor.Fit
open Go.Proofs.YtpicnbidbddggaaGreatDoor.Vlq (enc hi_zero held)
open Go.Proofs.YtpicnbidbddggaaGreatDoor.Label (runes fitL)
set_option linter.unusedVariables false
def fyB : List UInt8 := [1, 98, 0]
def fyX : List Kn := [(str [98], ([], true))]
def fyN : List Nd := [(str [97], [(0, 1000000000)])]
theorem fy_ok : okM (str [98]) [] = true := by
  unfold okM
  rw [fit_two]
  decide
theorem fy_put : putB (str [98]) [] = fyB := by
  unfold putB
  rw [if_pos fy_ok]
  have e02 : held 0 = 0 := by decide
  have e12 : encN 0 = [0] := by unfold encN; rw [e02]; unfold enc; rw [show 0 / 128 = 0 from rfl, hi_zero]; rfl
  have e2 : enc 1 = [1] := by unfold enc; rw [show 1 / 128 = 0 from rfl, hi_zero]; rfl
  have e3 : textB (str [98]) = [1, 98] := by
    unfold textB
    rw [show (str [98]).size = 1 from rfl, e2]
    rfl
  simp only [manB, listB, flat_nil, e3, List.length_nil, show ((0 : Nat) : Int) = 0 from rfl, e12]
  rfl
theorem fy_good : goodE (str [98]) fyB = true ∧ relE (str [98]) fyB = [] := by rw [← fy_put]; exact good_put fy_ok
theorem fy_err : errX [] (str [98]) fyB = 0 := by
  rw [errX_zero]
  refine ⟨?_, rfl⟩
  unfold mayX
  rw [fit_two]
  decide
theorem fy_puts : putX [] (str [98]) fyB = fyX := by
  unfold putX
  rw [if_pos fy_err]
  unfold valX
  rw [fy_good.1, fy_good.2]
  rfl
theorem fy_at : atX fyX (str [98]) = some ([], true) := by unfold fyX; rw [atX, if_pos rfl]
theorem fy_okX : OkX fyX := by
  refine ⟨?_, ?_, ?_, ?_, by decide, fun q hq => by rw [List.mem_singleton.1 hq]; exact List.Pairwise.nil⟩
  · intro q hq
    rw [List.mem_singleton.1 hq]
    exact ⟨by decide, fun p hp => by cases hp⟩
  · intro q hq
    rw [List.mem_singleton.1 hq]
    exact fun r hr => by cases hr
  · intro q hq
    rw [List.mem_singleton.1 hq]
    exact fun r hr => by cases hr
  · intro q hq
    rw [List.mem_singleton.1 hq]
    exact fit_two
theorem fy_root : okS fyN = true := by
  have h1 : nlt ByteArray.empty (str [97]) = true := by
    rw [show ByteArray.empty = str [] from rfl, nlt_str]
    decide
  unfold okS
  rw [show okFrom ByteArray.empty fyN = ((fitL (runes (str [97]) 0) && nlt ByteArray.empty (str [97]) && (isSet (-1) [((0 : Int), (1000000000 : Int))] && decide (([((0 : Int), (1000000000 : Int))] : List S).length ≤ 6))) && true) from rfl, fit_one, h1]
  decide
theorem not_all : notS allS = [] := nf_nil.2 fun p h0 h1 => by
  show (!has allS p) = false
  rw [a_has h0 h1]
  rfl
theorem not_none : notS [] = allS := (is_nf allS_set fun p h0 h1 => by
  show has allS p = (!has [] p)
  rw [a_has h0 h1]
  rfl).symm
theorem vers_none : versS [] = [] := nf_nil.2 fun p _ _ => rfl
theorem make_one {t : Tm} (h1 : emptyT t = false) (h2 : fullT t = false) : makeC [t] = some [t] := by
  unfold makeC putsC
  have e : List.foldl (fun c t => putC t false c) [] [t] = [t] := by simp [putC]
  rw [e]
  simp [h1, h2]
theorem fy_asked : askedC fyN (str [97]) = some [⟨str [97], [], true⟩] := by
  unfold askedC
  rw [show findS fyN (str [97]) = some allS from rfl]
  show makeC [⟨str [97], notS allS, true⟩] = _
  rw [not_all]
  exact make_one rfl (by decide)
theorem fy_released : releasedC fyX (str [98]) = some [⟨str [98], allS, false⟩] := by
  unfold releasedC
  rw [fy_at]
  show makeC [⟨str [98], notS (versS []), false⟩] = _
  rw [vers_none, not_none]
  exact make_one (by decide) rfl
theorem fy_show : showC [⟨str [98], allS, false⟩] = str [98, 32, 97, 110, 121] := by
  show showT ⟨str [98], allS, false⟩ = _
  unfold showT
  have h : okT ⟨str [98], allS, false⟩ = true := one_ok fit_two allS_set
  rw [if_pos h]
  rfl
theorem fy_putany (B g : Nat) (w : World) (h : IdxB w B g []) :
    Calls Tryz.prog 21 #[.pointer (some ⟨g, 0, none⟩), .string (str [98]), .slice (some ⟨w.heap.size, 0, none⟩) 3 3] (w.alloc (.cells #[.int .u8 1, .int .u8 98, .int .u8 0] 5 (3, 4))) fun e w' =>
      e = .returned (.int .i64 0) ∧ IdxB w' B g fyX ∧ Below B (w.alloc (.cells #[.int .u8 1, .int .u8 98, .int .u8 0] 5 (3, 4))) w' := by
  have hb := heap_alloc_new w (.cells #[.int .u8 1, .int .u8 98, .int .u8 0] 5 (3, 4))
  have hr : Reads (w.alloc (.cells #[.int .u8 1, .int .u8 98, .int .u8 0] 5 (3, 4))) (w.heap.size + 1) 1 (some ⟨w.heap.size, 0, none⟩) 3 (bcs fyB) := by
    refine ⟨rfl, fun _ => ⟨_, rfl, Nat.lt_succ_self _, fun j u hu => ?_⟩⟩
    have hadd : (⟨w.heap.size, 0, none⟩ : Addr).add j = ⟨w.heap.size, j, none⟩ := by unfold Addr.add; split <;> simp_all
    rw [hadd, World.cell?_alloc_mark]
    rw [← hu]
    simp [bcs, fyB]
  have := putF_any g [] (str [98]) fyB (some ⟨w.heap.size, 0, none⟩) 3 3 B _ (h.below (Span.alloc_b _)) List.Pairwise.nil (by simp) (by rw [World.size_alloc]; exact hr) (fun ad hA _ => by injection hA with hA; subst hA; exact ⟨_, _, hb⟩) (by decide)
  rw [fy_err, fy_puts] at this
  exact this
theorem ndOn_fy (w : World) (g g2 : Nat) (h : Blk w g 60 #[.int .i64 0, .int .i64 1000000000]) (h2 : Blk w g2 50 #[.string (str [97]), .slice (some ⟨g, 0, none⟩) 1 1]) : NdOn w (some ⟨g2, 0, none⟩) 1 fyN := by
  refine ⟨[(str [97], .slice (some ⟨g, 0, none⟩) 1 1)], ⟨rfl, fun _ => ⟨_, rfl, h2.lt, fun j u hu => ?_⟩⟩, rfl, fun i r q hr hq => ?_⟩
  · rcases j with _ | j
    · simp [rcs] at hu
      subst hu
      exact h2.cell 0
    · rcases j with _ | j
      · simp [rcs] at hu
        subst hu
        exact h2.cell 1
      · simp [rcs] at hu
  · rcases i with _ | i
    · simp [fyN] at hr hq
      subst hr hq
      exact ⟨rfl, _, 1, 1, rfl, spIn_one w 0 1000000000 _ g h h.lt⟩
    · simp at hr
set_option maxHeartbeats 4000000 in
set_option maxRecDepth 100000 in
theorem awakeFa_any (SA : SpecAskedF) (SR : SpecReleasedF) (w : World) : Calls Tryz.prog 9 #[] w fun e w' => e = .returned (.bool true) ∧ Below w.heap.size w w' := by
  have HN := hide (new_any w)
  have HA := hide (fun (A : Option Addr) (wx : World) (h : NdOn wx A 1 fyN) => SA fyN (str [97]) A 1 1 wx h (by omega) fy_root (by decide))
  have HR := hide (fun (g : Nat) (wx : World) (hI : IdxB wx w.heap.size g fyX) => SR fyX (str [98]) (.pointer (some ⟨g, 0, none⟩)) wx ⟨⟨_, rfl⟩, tells_idx hI fy_okX.fine, fy_okX⟩ (by decide))
  rw [fy_asked] at HA
  rw [fy_released] at HR
  unfold MakesC at HA HR
  simp only [Option.getD_some, Option.isSome_some] at HA HR
  have HS := hide (fun (A : Option Addr) (n c : Nat) (wx : World) (h : TmOn wx A n [⟨str [98], allS, false⟩]) => refShowC_any [⟨str [98], allS, false⟩] A n c wx h (fun t ht => by rw [List.mem_singleton.1 ht]; exact ⟨by decide, by decide⟩) (by have := TmIn.len h; simp at this; omega))
  rw [fy_show] at HS
  have HP := hide (fun (wx : World) (hI : IdxB wx w.heap.size w.heap.size []) => fy_putany w.heap.size w.heap.size wx hI)
  have kc := fun (w : World) (C : Array Value) (n c : Nat) => Lib.run_convert_bytes_const (P := Tryz.prog) w 45 5 C n c Tryz.underlying45 Tryz.underlying5
  have hst : ((str [98, 32, 97, 110, 121]).toList == [98, 32, 97, 110, 121]) = true := by rw [str_toList]; rfl
  clear SA SR
  go_enter Tryz.func9, Tryz.ntmps9
  go_upto_region 4 with (first
    | (go_at_call 22
       refine (HA.out _ _ hN4).mono ?_
       rintro e w5 ⟨A5, n5, c5, rfl, h5, hb5⟩
       have hbw5 := hbw4.trans (hb5.mono hbw4.size)
       have hI5 := hI4.below hb5)
    | (go_at_call 21
       refine (HP.out _ hI1).mono ?_
       rintro e w2 ⟨rfl, hI2, hb2⟩
       have hs1 := Blk.new w2 60 #[.int .i64 0, .int .i64 1000000000]
       have hn1 := Blk.new (w2.alloc (.cells #[.int .i64 0, .int .i64 1000000000] 60)) 50 #[.string (str [97]), .slice (some ⟨w2.heap.size, 0, none⟩) 1 1]
       rw [World.size_alloc] at hn1
       have hN4 := ndOn_fy _ _ _ (hs1.alloc (.cells #[.string (str [97]), .slice (some ⟨w2.heap.size, 0, none⟩) 1 1] 50)) hn1
       have hI4 := (hI2.below (Span.alloc_b (.cells #[.int .i64 0, .int .i64 1000000000] 60))).below (Span.alloc_b (.cells #[.string (str [97]), .slice (some ⟨w2.heap.size, 0, none⟩) 1 1] 50))
       have hbw2 := hb1.trans (((Span.alloc_b _).mono hb1.size).trans hb2)
       have hbw4 := (hbw2.alloc hbw2.size (.cells #[.int .i64 0, .int .i64 1000000000] 60)).alloc (Nat.le_trans hbw2.size (by simp)) (.cells #[.string (str [97]), .slice (some ⟨w2.heap.size, 0, none⟩) 1 1] 50))
    | (go_at_call 20
       refine HN.out.mono ?_
       rintro e w1 ⟨rfl, hI0, hb1⟩
       have hI1 : IdxB w1 w.heap.size w.heap.size [] := ⟨Nat.le_refl _, none, hI0, fun b e => by cases e⟩))
  have e5 : n5 = 1 := by have := TmIn.len h5; simp at this; omega
  subst e5
  clear HN HP HA hI1 hI4 hI2 hN4 hs1 hn1 hb2
  go_upto_region 5 with (first
    | (go_at_call 23
       refine (HR.out _ _ hI5).mono ?_
       rintro e w6 ⟨A6, n6, c6, rfl, h6, hb6⟩
       have hbw6 := hbw5.trans (hb6.mono hbw5.size)))
  have h56 : TmOn w6 A5 1 [⟨str [97], [], true⟩] := TmOn.on h5 hb6
  obtain ⟨ad, q, A', n', c', rfl, hbl, hq, hs, p1, p2, p3⟩ := TmIn.at_ h56 (k := 0) (by omega)
  have eq : q = ⟨str [97], [], true⟩ := by simpa using hq.symm
  subst eq
  have hn' : n' = 0 := by have := hs.1; simpa using this.symm
  subst hn'
  simp only [Nat.zero_mul] at p1 p2 p3
  have a0 : ad.add 0 = ad := by unfold Addr.add; simp
  rw [a0] at p1 p2 p3
  clear hq hs h56 h5 hI5 HR
  go_wp2_with (first
    | (go_at_call 24
       refine (HS.out _ _ _ _ h6).mono ?_
       rintro e w7 ⟨rfl, hb7⟩
       have hbw7 := hbw6.trans (hb7.mono hbw6.size)))
  go_ret
  exact ⟨rfl, hbw7⟩
end Go.Proofs.YtpicnbidbddggaaGreatDoor.Fact
