/-
  Some texts of this claim, one behind the other: IndexNames, IndexClone, IndexRefPut, IndexAwake, IndexStaysW. What each proves, and its condition, stands at its head.
-/
import Derived.Test.YtdmejcfnolhplaaGreatZA35
import Derived.Test.YtdmejcfnolhplaaGreatZA4
import Derived.Test.YtdmejcfnolhplaaGreatZA17
import Derived.Shelf.SlMaps.Clone
import Derived.Maps.RangeWalk
import Derived.Sort.KeysCollected
import Derived.Test.YtdmejcfnolhplaaGreatZA34
import Derived.Test.YtdmejcfnolhplaaGreatZA32
import Derived.Test.YtdmejcfnolhplaaGreatZA20
import Derived.Test.YtdmejcfnolhplaaGreatZA30
import Derived.Test.YtdmejcfnolhplaaGreatZA31
/-
  Contracts of the program's Names, Clone and Of: the names that are known, rising; an index that knows the same; one into which entries were put. Condition: names and lists of a length that may be walked.
-/
namespace Go.Proofs.YtdmejcfnolhplaaGreat.Index
open Go Go.RowKit Go.Lib Go.Maps Go.Sort Go.Shelf Go.Proofs.YtdmejcfnolhplaaGreat.Span Go.Proofs.YtdmejcfnolhplaaGreat.Need Go.Proofs.YtdmejcfnolhplaaGreat.Mani Go.Proofs.YtdmejcfnolhplaaGreat.Wire Go.Proofs.YtdmejcfnolhplaaGreat.Depot Go.Proofs.YtdmejcfnolhplaaGreat.MapV
set_option linter.unusedVariables false
def ShortX (l : List Kn) : Prop := ∀ q ∈ l, q.1.size ≤ 1000000000
theorem ShortX.nil : ShortX [] := fun q hq => by cases hq
theorem ShortX.put {l : List Kn} (h : ShortX l) {nm : ByteArray} (hnm : nm.size ≤ 1000000000) (b : List UInt8) : ShortX (putX l nm b) := by
  unfold putX
  split
  · intro q hq
    rcases (insX_mem _ _).1 hq with rfl | hq
    · exact hnm
    · exact h q hq
  · exact h
end Go.Proofs.YtdmejcfnolhplaaGreat.Index
/-
  Contracts of the program's Clone and Of, and of Names at nil: an index that knows the same; one into which entries were put. Condition: names and lists of a length that may be walked.
-/
namespace Go.Proofs.YtdmejcfnolhplaaGreat.Index
open Go Go.RowKit Go.Lib Go.Maps Go.Sort Go.Shelf Go.Proofs.YtdmejcfnolhplaaGreat.Span Go.Proofs.YtdmejcfnolhplaaGreat.Need Go.Proofs.YtdmejcfnolhplaaGreat.Mani Go.Proofs.YtdmejcfnolhplaaGreat.Wire Go.Proofs.YtdmejcfnolhplaaGreat.Depot Go.Proofs.YtdmejcfnolhplaaGreat.MapV
set_option linter.unusedVariables false
theorem puts_short {l : List Kn} (h : ShortX l) (es : List En) (he : ∀ e ∈ es, e.1.size ≤ 1000000000) : ShortX (putsX l es) := by
  induction es generalizing l with
  | nil => exact h
  | cons e t ih => exact ih (h.put (he e (by simp)) e.2) fun x hx => he x (by simp [hx])
def IdxB (w : World) (B g : Nat) (l : List Kn) : Prop := B ≤ g ∧ ∃ mo, Idx w g mo l ∧ ∀ b, mo = some b → B ≤ b
theorem IdxB.row {g B : Nat} {mo : Option Nat} (hg : B ≤ g) (hm : ∀ b, mo = some b → B ≤ b) : B ≤ rowX g mo := by
  cases mo with
  | none => exact hg
  | some b => exact hm b rfl
theorem IdxB.below {w w' : World} {B g : Nat} {l : List Kn} (h : IdxB w B g l) (hb : Below w.heap.size w w') : IdxB w' B g l := by
  obtain ⟨h1, mo, h2, h3⟩ := h
  exact ⟨h1, mo, h2.below hb, h3⟩
theorem IdxB.lt {w : World} {B g : Nat} {l : List Kn} (h : IdxB w B g l) : g < w.heap.size := by
  obtain ⟨_, mo, h2, _⟩ := h
  exact h2.lt
theorem IdxB.le {w : World} {B g : Nat} {l : List Kn} (h : IdxB w B g l) : B ≤ w.heap.size := Nat.le_trans h.1 (Nat.le_of_lt h.lt)
theorem putB_any (g : Nat) (l : List Kn) (nm : ByteArray) (bd : List UInt8) (A : Option Addr) (n c B : Nat) (w : World) (h : IdxB w B g l) (hl : RisesK l) (hlen : l.length ≤ 100000) (hr : Reads w B 1 A n (bcs bd)) (hnm : nm.size ≤ 1000000000) :
    Calls Tryz.prog 27 #[.pointer (some ⟨g, 0, none⟩), .string nm, .slice A n c] w fun e w' =>
      e = .returned (.int .i64 (errX l nm bd)) ∧ IdxB w' B g (putX l nm bd) ∧ Below B w w' := by
  have hle := h.le
  obtain ⟨h1, mo, h2, h3⟩ := h
  refine (put_any g mo l nm bd A n c B w h2 hl hlen hr (IdxB.row h1 h3) hnm).mono ?_
  rintro e w' ⟨he, ⟨mo', h4, h5⟩, hg⟩
  refine ⟨he, ⟨h1, mo', h4, fun b hb => ?_⟩, (Below.refl _ _).grown hg hle (fun k hk => by injection hk with hk; rw [← hk]; exact IdxB.row h1 h3)⟩
  rcases h5 with rfl | ⟨_, b', e2, h6⟩
  · exact h3 b hb
  · rw [hb] at e2
    injection e2 with e2
    rw [e2]; exact Nat.le_trans hle h6
set_option maxHeartbeats 4000000 in
set_option maxRecDepth 100000 in
theorem indexOf_any (l : List En) (A : Option Addr) (n c : Nat) (w : World) (h : EnOn w A n l) (hn : n ≤ 100000) (hl : ∀ e ∈ l, e.1.size ≤ 1000000000) :
    Calls Tryz.prog 10 #[.slice A n c] w fun e w' => ∃ g, e = .returned (.pointer (some ⟨g, 0, none⟩)) ∧ IdxB w' w.heap.size g (putsX [] l) ∧ Below w.heap.size w w' := by
  have HN := hide (new_any w)
  have Hlen := hide h.len
  go_enter Tryz.func10, Tryz.ntmps10
  go_wp2_with (first
    | (go_at_call 26
       refine HN.out.mono ?_
       rintro e w1 ⟨rfl, hI1, hb1⟩))
  go_loopw [9] (fun v wr => ∃ (i : Nat), i ≤ n ∧ v = .int .i64 (i : Int) ∧ IdxB wr w.heap.size w.heap.size (putsX [] (l.take i)) ∧ Below w.heap.size w wr) (fun v _ => n - (RowKit.intOf v).toNat)
  case atStart => exact ⟨0, by omega, rfl, ⟨Nat.le_refl _, none, hI1, fun b e => by cases e⟩, hb1⟩
  case round =>
    obtain ⟨i, hi, rfl, hI, hb⟩ := hrel
    have hbs := hb.size
    clear hI1 hb1
    by_cases hlt : i < n
    · obtain ⟨ad, q, A', n', c', rfl, hbl, hx, hs, c1, c2⟩ := PIn.at_ (EnIn.below h hb) hlt
      have hnm := hl q (List.mem_of_getElem? hx)
      have hst := putsX_take (l := []) hx
      have hrise := putsX_rises (l := []) List.Pairwise.nil (l.take i)
      have hplen := putsX_len [] (l.take i)
      have htl : (l.take i).length ≤ i := by rw [List.length_take]; omega
      have hpl : (putsX [] (l.take i)).length ≤ 100000 := by
        have e0 : ([] : List Kn).length = 0 := rfl
        omega
      obtain ⟨x, s⟩ := q
      simp only [] at c1 c2 hnm hst
      have hrd : Reads wr w.heap.size 1 A' n' (bcs s) := hs
      have HP := hide (fun (wx : World) (hx : Below wr.heap.size wr wx) => putB_any w.heap.size _ x s A' n' c' w.heap.size wx (hI.below hx) hrise hpl (hrd.below (hx.mono hbs)) hnm)
      have Hst := hide hst
      clear hst hrise hplen htl hpl hx hs hrd hI hnm
      generalize putsX [] (l.take i) = X at *
      go_wp2_with (first
        | (go_at_call 27
           refine (HP.out _ (alloc_b _)).mono ?_
           rintro e w2 ⟨rfl, hI2, hb2⟩))
      have hbw : Below w.heap.size w w2 := (hb.alloc hbs _).trans hb2
      go_roundw
      case rel => exact ⟨i + 1, by omega, by go_num, by rw [Hst.out]; exact hI2, hbw⟩
      case measure => simp [RowKit.intOf]; omega
    · have hi2 : i = n := by omega
      subst hi2
      rw [List.take_of_length_le (by rw [Hlen.out]; exact Nat.le_refl _)] at hI
      go_wp2
      go_ret
      exact ⟨w.heap.size, rfl, hI, hb⟩
end Go.Proofs.YtdmejcfnolhplaaGreat.Index
/-
  Contracts of the document's Put and Of: what an index knows behind a put, and behind entries. Condition: lists and names of a length that may be walked.
-/
namespace Go.Proofs.YtdmejcfnolhplaaGreat.Index
open Go Go.RowKit Go.Lib Go.Proofs.YtdmejcfnolhplaaGreat.Span Go.Proofs.YtdmejcfnolhplaaGreat.Need Go.Proofs.YtdmejcfnolhplaaGreat.Mani Go.Proofs.YtdmejcfnolhplaaGreat.Wire Go.Proofs.YtdmejcfnolhplaaGreat.Depot
open Go.Proofs.YtdmejcfnolhplaaGreat.Label (runes fitL)
set_option linter.unusedVariables false
def PutsD (w : World) (g : Nat) (l : List Kn) (nm : ByteArray) (bd : List UInt8) (e : Ending) (w' : World) : Prop :=
  e = .returned (.int .i64 (errX l nm bd)) ∧ Doc w' g (putX l nm bd) ∧ w.grownBy w' (some g)
theorem Doc.below {w w' : World} {g : Nat} {l : List Kn} (h : Doc w g l) (hb : Below w.heap.size w w') : Doc w' g l := by
  obtain ⟨A, n, c, h1, h2⟩ := h
  exact ⟨A, n, c, h1.below hb h1.lt, h2.below hb⟩
theorem putsD_same {w w' : World} {g : Nat} {l : List Kn} {nm : ByteArray} {bd : List UInt8} {e : Ending} {c : Int} (h : Doc w g l) (he : errX l nm bd = c) (hc : c ≠ 0) (hb : Below w.heap.size w w') (e1 : e = .returned (.int .i64 c)) : PutsD w g l nm bd e w' := by
  refine ⟨by rw [he]; exact e1, ?_, only_of_below hb _⟩
  unfold putX
  rw [if_neg (by rw [he]; exact hc)]
  exact h.below hb
theorem insX_step {K q : Kn} {l : List Kn} {i : Nat} (p : Bool) (h : l[i]? = some q) : insX K p (l.drop i) = if p = false ∧ nlt K.1 q.1 = true then K :: q :: insX K true (l.drop (i + 1)) else q :: insX K p (l.drop (i + 1)) := by
  obtain ⟨hi, e⟩ := List.getElem?_eq_some_iff.1 h
  rw [List.drop_eq_getElem_cons hi, e]
  rfl
set_option maxHeartbeats 16000000 in
set_option maxRecDepth 100000 in
theorem refPutX_any (g : Nat) (l : List Kn) (nm : ByteArray) (bd : List UInt8) (w : World) (h : Doc w g l) (hlen : l.length ≤ 100000) (hnm : nm.size ≤ 1000000000) (hbd : bd.length ≤ 1000000000) :
    Calls Tryz.prog 28 #[.pointer (some ⟨g, 0, none⟩), .string nm, .string (str bd)] w (PutsD w g l nm bd) := by
  obtain ⟨i0, hi0, hz0, hz1, hz2⟩ := info_parts info_known
  have H := hide h
  obtain ⟨A, n, c, bX, hK⟩ := h
  have hln := hK.len
  have hn : n ≤ 100000 := by omega
  have hsz := str_size bd
  have HW := hide (Label.refFit_any nm w hnm)
  have HH := hide (fun (wx : World) (hb : Below w.heap.size w wx) => refHasX_any l nm A n c wx (hK.below hb) (by omega))
  unfold Tells at HH
  have HR := hide (fun (wx : World) => refReadD_any nm bd wx)
  unfold ManR at HR
  have hmay : mayX nm bd = (fitL (runes nm 0) && decide ((str bd).size ≤ 8192)) := by unfold mayX; rw [hsz]
  have Hnew := hide (putX_new (l := l) (nm := nm) (bd := bd))
  have hval : valX nm bd = (relE nm bd, goodE nm bd) := rfl
  generalize fitL (runes nm 0) = F at *
  generalize str bd = s at *
  have hs9 : s.size ≤ 1000000000 := by omega
  clear hsz hbd
  cases F
  · have E : Hid (errX l nm bd = 1) := hide (by unfold errX; rw [if_pos (by rw [hmay]; rfl)])
    clear hmay hlen HH HR Hnew bX hK hval hln
    go_enter Tryz.func28, Tryz.ntmps28
    go_wp2_with (first
      | (go_at_call 23
         refine HW.out.mono ?_
         rintro e w1 ⟨rfl, hb1⟩))
    go_ret
    exact putsD_same H.out E.out (by decide) hb1 rfl
  · by_cases h8 : s.size ≤ 8192
    · have hz : ¬ ((8192 : Int) < (s.size : Int)) := by omega
      have hm1 : mayX nm bd = true := by rw [hmay, decide_eq_true h8]; rfl
      have Hm1 := hide hm1
      clear hmay hm1 h8
      cases ho : atX l nm with
      | some k0 =>
        have E : Hid (errX l nm bd = 6) := hide (by unfold errX; rw [if_neg (by rw [Hm1.out]; simp), if_pos (by rw [ho]; rfl)])
        have e0 : (atX l nm).isSome = true := by rw [ho]; rfl
        rw [e0] at HH
        clear ho e0 hlen HR Hnew hK hval hln
        go_enter Tryz.func28, Tryz.ntmps28
        go_wp2_with (first
          | (go_at_call 23
             refine HW.out.mono ?_
             rintro e w1 ⟨rfl, hb1⟩
             have k1 := ((bX.below hb1 bX.lt).cell 0).trans (show (#[Value.slice A n c] : Array Value)[0]? = some (.slice A n c) from rfl))
          | (go_at_call 45
             refine (HH.out _ hb1).mono ?_
             rintro e w2 ⟨rfl, hb2⟩
             have hbw2 := hb1.trans (hb2.mono hb1.size)))
        go_ret
        exact putsD_same H.out E.out (by decide) hbw2 rfl
      | none =>
        have E : Hid (errX l nm bd = 0) := hide (by unfold errX; rw [if_neg (by rw [Hm1.out]; simp), if_neg (by rw [ho]; simp)])
        have e0 : (atX l nm).isSome = false := by rw [ho]; rfl
        rw [e0] at HH
        obtain ⟨M, hM⟩ : ∃ M, M = insX (nm, valX nm bd) false l := ⟨_, rfl⟩
        have HP : Hid (putX l nm bd = M) := hide (by rw [Hnew.out E.out, hM])
        have HM := hide hM
        have Hlen := hide hln
        have HD := hide (fun i q p => @insX_step (nm, valX nm bd) q l i p)
        rw [hval] at HM HD
        have HK := hide hK
        generalize relE nm bd = rl at *
        generalize goodE nm bd = gd at *
        have hgl := bX.lt
        clear ho e0 hlen Hnew hK hval hln hM
        go_enter Tryz.func28, Tryz.ntmps28
        go_upto_region 6 with (first
          | (go_at_call 23
             refine HW.out.mono ?_
             rintro e w1 ⟨rfl, hb1⟩
             have k1 := ((bX.below hb1 bX.lt).cell 0).trans (show (#[Value.slice A n c] : Array Value)[0]? = some (.slice A n c) from rfl))
          | (go_at_call 45
             refine (HH.out _ hb1).mono ?_
             rintro e w2 ⟨rfl, hb2⟩
             have hbw2 := hb1.trans (hb2.mono hb1.size))
          | (go_at_call 46
             refine (HR.out _).mono ?_
             rintro e w3 ⟨A2, n2, c2, B2, rs2, rfl, hR3, hb3⟩
             have hbw3 := hbw2.trans (hb3.mono hbw2.size)))
        obtain ⟨W, hW⟩ : ∃ W, W = w3.alloc (.cells #[.string nm, .slice A2 n2 c2] 100) := ⟨_, rfl⟩
        have hMW : Blk W w3.heap.size 100 #[.string nm, .slice A2 n2 c2] := by rw [hW]; exact Blk.new _ _ _
        have hRW : Rls W B2 (.slice A2 n2 c2) n2 rs2 rl := by rw [hW]; exact hR3.below (alloc_b _)
        have hbW : Below w.heap.size w W := by rw [hW]; exact hbw3.alloc hbw3.size _
        have hXW := bX.below hbW bX.lt
        have hb7 : w.heap.size ≤ w3.heap.size := hbw3.size
        rw [← hW]
        clear hW hR3 hb3 hbw3 hbw2 hb2 hb1 k1 HW HH HR bX
        generalize w3.heap.size = b7 at *
        go_wp2
        go_loopw [9, 10, 11] (fun u b v wr => ∃ (i m : Nat) (p : Bool) (rs : List Rk) (out : List Kn), i ≤ n ∧ v = .int .i64 (i : Int) ∧ b = .bool p ∧ Kns wr w.heap.size u m rs out ∧ m ≤ i + 1 ∧ Hid (p = false → m ≤ i) ∧ Hid (out ++ insX (nm, rl, gd) p (l.drop i) = M) ∧ Blk wr g 33 #[.slice A n c] ∧ Blk wr b7 100 #[.string nm, .slice A2 n2 c2] ∧ Rls wr B2 (.slice A2 n2 c2) n2 rs2 rl ∧ Below w.heap.size w wr) (fun _ _ v _ => n - (RowKit.intOf v).toNat)
        case atStart => exact ⟨0, 0, false, [], [], by omega, rfl, rfl, Kns.nil_ _ _, by omega, hide (fun _ => by omega), hide (by rw [HM.out]; rfl), hXW, hMW, hRW, hbW⟩
        case round =>
          obtain ⟨i, m, p, rs, out, hi, rfl, rfl, hk, hmi, hmq, hout, hX, hMb, hR, hb⟩ := hrel
          clear hXW hMW hRW hbW
          have hbs := hb.size
          obtain ⟨Ax, cx, rfl, hcx, hrd⟩ := hk.told
          have kX := (hX.cell 0).trans (show (#[Value.slice A n c] : Array Value)[0]? = some (.slice A n c) from rfl)
          have kM0 := (hMb.cell 0).trans (show (#[Value.string nm, .slice A2 n2 c2] : Array Value)[0]? = some (.string nm) from rfl)
          have kM1 := (hMb.cell 1).trans (show (#[Value.string nm, .slice A2 n2 c2] : Array Value)[1]? = some (.slice A2 n2 c2) from rfl)
          by_cases hlt : i < n
          · obtain ⟨ad, q, A', n', c', B', rs', rfl, hbl, hx, hRq0, d1, d2, d3⟩ := InK.at_ HK.out hlt
            have hRq := hRq0.below hb
            have Hc := hide (fun (wx : World) (hbx : Below w.heap.size w wx) => And.intro ((hbx.cell (p := ad.add (i * 3)) (by rw [block_of_add]; exact hbl)).trans d1) (And.intro ((hbx.cell (p := ⟨(ad.add (i * 3)).block, (ad.add (i * 3)).off + 1, none⟩) (by simp only [block_of_add]; exact hbl)).trans d2) ((hbx.cell (p := ⟨(ad.add (i * 3)).block, (ad.add (i * 3)).off + 2, none⟩) (by simp only [block_of_add]; exact hbl)).trans d3)))
            clear d1 d2 d3 hRq0 hbl
            have hd := hout.out
            rw [HD.out i q p hx] at hd
            obtain ⟨x, kr, kb⟩ := q
            simp only [] at Hc hRq hd
            obtain ⟨c1, c2', c3⟩ := Hc.out wr hb
            have hfit : KFit wr (x, .slice A' n' c', kb) (x, kr, kb) := ⟨rfl, rfl, A', n', c', B', rs', rfl, hRq⟩
            have hfitN : KFit wr (nm, .slice A2 n2 c2, gd) (nm, rl, gd) := ⟨rfl, rfl, A2, n2, c2, B2, rs2, rfl, hR⟩
            clear hrd hx hout HD HK hRq
            cases p with
            | true =>
              rw [if_neg (by simp)] at hd
              have Ho := hide (show (out ++ [(x, kr, kb)]) ++ insX (nm, rl, gd) true (l.drop (i + 1)) = M by rw [← hd]; simp)
              clear hd hfitN
              go_wp2_with (first
                | (at_builtin
                   refine wpList_append_any _ rfl (.tmp 61) (.tmp 69) _ rfl w.heap.size 104 i0 _ 3 48 Tryz.underlying31 hi0 hz0 hz1 hz2 rfl (by omega) _ (m) (kcs rs) rfl
                     (own_below hk.1 (alloc_b (.cells #[.string x, .slice A' n' c', .bool kb] 104))) _ _ 1 _ _ rfl (reads_known wr x A' n' c' kb _ _ rfl) (one_known _ _ _ _ _) (by unfold maxLen; omega) (by omega) (by simp; omega) ?_
                   intro u1 y1 hown1 hg1 _
                   have hA1 := alloc_b (w := wr) (.cells #[.string x, .slice A' n' c', .bool kb] 104)
                   have hk1 : Kns y1 w.heap.size u1 (m + 1) _ _ := (hk.below hA1).cat (AllK.one (hfit.below hA1)) hown1 hg1
                   have ho1 := (hk.below hA1).1
                   have hb1 : Below w.heap.size w y1 := (hb.trans (hA1.mono hbs)).grown hg1 (Nat.le_trans hbs hA1.size) (fun k hk => (ho1.lt k hk).1)
                   have hX1 : Blk y1 g 33 _ := (hX.below hA1 hX.lt).grown hg1 (fun e => by have := (ho1.lt _ e.symm).1; omega)
                   have hM1 : Blk y1 b7 100 _ := (hMb.below hA1 hMb.lt).grown hg1 (farT_own ho1 (T := 100) (by decide) _ _ _ (hMb.below hA1 hMb.lt))
                   have hR1 := (hR.below hA1).far (farT_own ho1 (by decide)) (farT_own ho1 (by decide)) (farT_own ho1 (by decide)) hg1
                   have hbs1 := hb1.size
                   obtain ⟨Au1, cu1, rfl, _, _⟩ := hk1.told))
              go_roundw
              case rel => exact ⟨i + 1, m + 1, true, _, _, by omega, by go_num, rfl, hk1, by omega, hide (fun h => by cases h), Ho, hX1, hM1, hR1, hb1⟩
              case measure => simp [RowKit.intOf]; omega
            | false =>
              have hmi2 := hmq.out rfl
              cases f : Op.bytesLess nm.toList x.toList with
              | true =>
                rw [if_pos ⟨rfl, f⟩] at hd
                have Ho := hide (show ((out ++ [(nm, rl, gd)]) ++ [(x, kr, kb)]) ++ insX (nm, rl, gd) true (l.drop (i + 1)) = M by rw [← hd]; simp)
                clear hd
                go_wp2_with (first
                  | (at_builtin
                     refine wpList_append_any _ rfl (.tmp 61) (.tmp 69) _ rfl w.heap.size 104 i0 _ 3 48 Tryz.underlying31 hi0 hz0 hz1 hz2 rfl (by omega) _ (m + 1) (kcs (rs ++ [(nm, .slice A2 n2 c2, gd)])) rfl
                       (own_below hk1.1 (alloc_b (.cells #[.string x, .slice A' n' c', .bool kb] 104))) _ _ 1 _ _ rfl (reads_known y1 x A' n' c' kb _ _ rfl) (one_known _ _ _ _ _) (by unfold maxLen; omega) (by omega) (by simp; omega) ?_
                     intro u2 y2 hown2 hg2 _
                     have hA2 := alloc_b (w := y1) (.cells #[.string x, .slice A' n' c', .bool kb] 104)
                     have hk2 : Kns y2 w.heap.size u2 (m + 1 + 1) _ _ := (hk1.below hA2).cat (AllK.one (hfit1.below hA2)) hown2 hg2
                     have ho2 := (hk1.below hA2).1
                     have hb2 : Below w.heap.size w y2 := (hb1.trans (hA2.mono hbs1)).grown hg2 (Nat.le_trans hbs1 hA2.size) (fun k hk => (ho2.lt k hk).1)
                     have hX2 : Blk y2 g 33 _ := (hX1.below hA2 hX1.lt).grown hg2 (fun e => by have := (ho2.lt _ e.symm).1; omega)
                     have hM2 : Blk y2 b7 100 _ := (hM1.below hA2 hM1.lt).grown hg2 (farT_own ho2 (T := 100) (by decide) _ _ _ (hM1.below hA2 hM1.lt))
                     have hR2 := (hR1.below hA2).far (farT_own ho2 (by decide)) (farT_own ho2 (by decide)) (farT_own ho2 (by decide)) hg2
                     have hbs2 := hb2.size
                     obtain ⟨Au2, cu2, rfl, _, _⟩ := hk2.told)
                  | (at_builtin
                     refine wpList_append_any _ rfl (.tmp 55) (.tmp 59) _ rfl w.heap.size 104 i0 _ 3 48 Tryz.underlying31 hi0 hz0 hz1 hz2 rfl (by omega) _ (m) (kcs rs) rfl
                       (own_below hk.1 (alloc_b (.cells #[.string nm, .slice A2 n2 c2, .bool gd] 104))) _ _ 1 _ _ rfl (reads_known wr nm A2 n2 c2 gd _ _ rfl) (one_known _ _ _ _ _) (by unfold maxLen; omega) (by omega) (by simp; omega) ?_
                     intro u1 y1 hown1 hg1 _
                     have hA1 := alloc_b (w := wr) (.cells #[.string nm, .slice A2 n2 c2, .bool gd] 104)
                     have hk1 : Kns y1 w.heap.size u1 (m + 1) _ _ := (hk.below hA1).cat (AllK.one (hfitN.below hA1)) hown1 hg1
                     have ho1 := (hk.below hA1).1
                     have hb1 : Below w.heap.size w y1 := (hb.trans (hA1.mono hbs)).grown hg1 (Nat.le_trans hbs hA1.size) (fun k hk => (ho1.lt k hk).1)
                     have hX1 : Blk y1 g 33 _ := (hX.below hA1 hX.lt).grown hg1 (fun e => by have := (ho1.lt _ e.symm).1; omega)
                     have hM1 : Blk y1 b7 100 _ := (hMb.below hA1 hMb.lt).grown hg1 (farT_own ho1 (T := 100) (by decide) _ _ _ (hMb.below hA1 hMb.lt))
                     have hR1 := (hR.below hA1).far (farT_own ho1 (by decide)) (farT_own ho1 (by decide)) (farT_own ho1 (by decide)) hg1
                     have hbs1 := hb1.size
                     obtain ⟨Au1, cu1, rfl, _, _⟩ := hk1.told
                     have hfit1 := (hfit.below hA1).far (farT_own ho1 (by decide)) (farT_own ho1 (by decide)) (farT_own ho1 (by decide)) hg1
                     have kX1 := (hX1.cell 0).trans (show (#[Value.slice (some ad) n c] : Array Value)[0]? = some (.slice (some ad) n c) from rfl)
                     obtain ⟨c1', c2x, c3'⟩ := Hc.out y1 hb1))
                go_roundw
                case rel => exact ⟨i + 1, m + 1 + 1, true, _, _, by omega, by go_num, rfl, hk2, by omega, hide (fun h => by cases h), Ho, hX2, hM2, hR2, hb2⟩
                case measure => simp [RowKit.intOf]; omega
              | false =>
                rw [if_neg (fun h => by have h2 : Op.bytesLess nm.toList x.toList = true := h.2; rw [f] at h2; cases h2)] at hd
                have Ho := hide (show (out ++ [(x, kr, kb)]) ++ insX (nm, rl, gd) false (l.drop (i + 1)) = M by rw [← hd]; simp)
                clear hd hfitN
                go_wp2_with (first
                  | (at_builtin
                     refine wpList_append_any _ rfl (.tmp 61) (.tmp 69) _ rfl w.heap.size 104 i0 _ 3 48 Tryz.underlying31 hi0 hz0 hz1 hz2 rfl (by omega) _ (m) (kcs rs) rfl
                       (own_below hk.1 (alloc_b (.cells #[.string x, .slice A' n' c', .bool kb] 104))) _ _ 1 _ _ rfl (reads_known wr x A' n' c' kb _ _ rfl) (one_known _ _ _ _ _) (by unfold maxLen; omega) (by omega) (by simp; omega) ?_
                     intro u1 y1 hown1 hg1 _
                     have hA1 := alloc_b (w := wr) (.cells #[.string x, .slice A' n' c', .bool kb] 104)
                     have hk1 : Kns y1 w.heap.size u1 (m + 1) _ _ := (hk.below hA1).cat (AllK.one (hfit.below hA1)) hown1 hg1
                     have ho1 := (hk.below hA1).1
                     have hb1 : Below w.heap.size w y1 := (hb.trans (hA1.mono hbs)).grown hg1 (Nat.le_trans hbs hA1.size) (fun k hk => (ho1.lt k hk).1)
                     have hX1 : Blk y1 g 33 _ := (hX.below hA1 hX.lt).grown hg1 (fun e => by have := (ho1.lt _ e.symm).1; omega)
                     have hM1 : Blk y1 b7 100 _ := (hMb.below hA1 hMb.lt).grown hg1 (farT_own ho1 (T := 100) (by decide) _ _ _ (hMb.below hA1 hMb.lt))
                     have hR1 := (hR.below hA1).far (farT_own ho1 (by decide)) (farT_own ho1 (by decide)) (farT_own ho1 (by decide)) hg1
                     have hbs1 := hb1.size
                     obtain ⟨Au1, cu1, rfl, _, _⟩ := hk1.told))
                go_roundw
                case rel => exact ⟨i + 1, m + 1, false, _, _, by omega, by go_num, rfl, hk1, by omega, hide (fun _ => by omega), Ho, hX1, hM1, hR1, hb1⟩
                case measure => simp [RowKit.intOf]; omega
          · have hi2 : i = n := by omega
            have hd := hout.out
            rw [List.drop_of_length_le (by have := Hlen.out; omega)] at hd
            have fX := hX.frozen 0
            clear hout HD HK hi2
            cases p with
            | true =>
              have e : Hid (out = M) := hide (by rw [← hd]; simp [insX])
              clear hd
              go_wp2
              have hXs := hX.set_ 0 (.slice Ax m cx)
              have hgs := only_setCell (p := ⟨g, 0, none⟩) (only_self wr g) (.inl rfl) (.slice Ax m cx)
              have hKs := hrd.far (farT_blk hX (by decide)) (farT_blk hX (by decide)) (farT_blk hX (by decide)) (farT_blk hX (by decide)) hgs
              go_ret
              refine ⟨by rw [E.out]; rfl, ?_, only_both (only_of_below hb _) hgs⟩
              rw [HP.out, ← e.out]
              exact ⟨Ax, m, cx, hXs, hKs⟩
            | false =>
              have hmi2 := hmq.out rfl
              have e : Hid (out ++ [(nm, rl, gd)] = M) := hide (by rw [← hd]; simp [insX])
              have hfitN : KFit wr (nm, .slice A2 n2 c2, gd) (nm, rl, gd) := ⟨rfl, rfl, A2, n2, c2, B2, rs2, rfl, hR⟩
              clear hd
              go_wp2_with (first
                | (at_builtin
                   refine wpList_append_any _ rfl (.tmp 73) (.tmp 77) _ rfl w.heap.size 104 i0 _ 3 48 Tryz.underlying31 hi0 hz0 hz1 hz2 rfl (by omega) _ (m) (kcs rs) rfl
                     (own_below hk.1 (alloc_b (.cells #[.string nm, .slice A2 n2 c2, .bool gd] 104))) _ _ 1 _ _ rfl (reads_known wr nm A2 n2 c2 gd _ _ rfl) (one_known _ _ _ _ _) (by unfold maxLen; omega) (by omega) (by simp; omega) ?_
                   intro u1 y1 hown1 hg1 _
                   have hA1 := alloc_b (w := wr) (.cells #[.string nm, .slice A2 n2 c2, .bool gd] 104)
                   have hk1 : Kns y1 w.heap.size u1 (m + 1) _ _ := (hk.below hA1).cat (AllK.one (hfitN.below hA1)) hown1 hg1
                   have ho1 := (hk.below hA1).1
                   have hb1 : Below w.heap.size w y1 := (hb.trans (hA1.mono hbs)).grown hg1 (Nat.le_trans hbs hA1.size) (fun k hk => (ho1.lt k hk).1)
                   have hX1 : Blk y1 g 33 _ := (hX.below hA1 hX.lt).grown hg1 (fun e => by have := (ho1.lt _ e.symm).1; omega)
                   have hM1 : Blk y1 b7 100 _ := (hMb.below hA1 hMb.lt).grown hg1 (farT_own ho1 (T := 100) (by decide) _ _ _ (hMb.below hA1 hMb.lt))
                   have hR1 := (hR.below hA1).far (farT_own ho1 (by decide)) (farT_own ho1 (by decide)) (farT_own ho1 (by decide)) hg1
                   have hbs1 := hb1.size
                   obtain ⟨Au1, cu1, rfl, _, _⟩ := hk1.told
                   have fX1 := hX1.frozen 0
                   have kX1 := (hX1.cell 0).trans (show (#[Value.slice A n c] : Array Value)[0]? = some (.slice A n c) from rfl)))
              have hXs := hX1.set_ 0 (.slice Au1 (m + 1) cu1)
              have hgs := only_setCell (p := ⟨g, 0, none⟩) (only_self y1 g) (.inl rfl) (.slice Au1 (m + 1) cu1)
              obtain ⟨A9, c9, e9, _, hrd1⟩ := hk1.told
              injection e9 with e1 e2 e3
              subst e1
              have hKs := hrd1.far (farT_blk hX1 (by decide)) (farT_blk hX1 (by decide)) (farT_blk hX1 (by decide)) (farT_blk hX1 (by decide)) hgs
              go_ret
              refine ⟨by rw [E.out]; rfl, ?_, only_both (only_of_below hb1 _) hgs⟩
              rw [HP.out, ← e.out]
              exact ⟨_, _, _, hXs, hKs⟩
    · have hz : (8192 : Int) < (s.size : Int) := by omega
      have E : Hid (errX l nm bd = 1) := hide (by unfold errX; rw [if_pos (by rw [hmay, decide_eq_false h8]; rfl)])
      clear hmay hlen HH HR Hnew bX hK hval hln h8
      go_enter Tryz.func28, Tryz.ntmps28
      go_wp2_with (first
        | (go_at_call 23
           refine HW.out.mono ?_
           rintro e w1 ⟨rfl, hb1⟩))
      go_ret
      exact putsD_same H.out E.out (by decide) hb1 rfl
end Go.Proofs.YtdmejcfnolhplaaGreat.Index
/-
  The contract of the document's Of; the chapter's example (awake): it holds. Condition: entries as many as may be walked, their names of at most 1,000,000,000 bytes.
-/
namespace Go.Proofs.YtdmejcfnolhplaaGreat.Index
open Go Go.RowKit Go.Lib Go.Proofs.YtdmejcfnolhplaaGreat.Span Go.Proofs.YtdmejcfnolhplaaGreat.Need Go.Proofs.YtdmejcfnolhplaaGreat.Mani Go.Proofs.YtdmejcfnolhplaaGreat.Wire Go.Proofs.YtdmejcfnolhplaaGreat.Depot
open Go.Proofs.YtdmejcfnolhplaaGreat.Label (runes fitL)
set_option linter.unusedVariables false
set_option maxHeartbeats 4000000 in
set_option maxRecDepth 100000 in
theorem refOfX_any (l : List En) (A : Option Addr) (n c : Nat) (w : World) (h : EnOn w A n l) (hn : n ≤ 100000) (hl : ∀ e ∈ l, e.1.size ≤ 1000000000 ∧ e.2.length ≤ 1000000000) :
    Calls Tryz.prog 11 #[.slice A n c] w fun e w' => ∃ A' n' c', e = .returned (.agg #[.slice A' n' c']) ∧ InK w' A' n' (putsX [] l) ∧ Below w.heap.size w w' := by
  have Hlen := hide h.len
  have b2 := (Blk.new w 33 #[.slice none 0 0]).alloc (.cells #[.slice none 0 0] 33)
  have b3 := Blk.new (w.alloc (.cells #[.slice none 0 0] 33)) 33 #[.slice none 0 0]
  rw [World.size_alloc] at b3
  have hw0 : Below w.heap.size w ((w.alloc (.cells #[.slice none 0 0] 33)).alloc (.cells #[.slice none 0 0] 33)) := ((Below.refl _ _).alloc (Nat.le_refl _) _).alloc (by simp) _
  go_enter Tryz.func11, Tryz.ntmps11
  go_wp2
  go_loopw [4] (fun v wr => ∃ (i : Nat), i ≤ n ∧ v = .int .i64 (i : Int) ∧ Doc wr (w.heap.size + 1) (putsX [] (l.take i)) ∧ Blk wr w.heap.size 33 #[.slice none 0 0] ∧ Below w.heap.size w wr) (fun v _ => n - (RowKit.intOf v).toNat)
  case atStart => exact ⟨0, by omega, rfl, ⟨none, 0, 0, b3, InK.nil _⟩, b2, hw0⟩
  case round =>
    obtain ⟨i, hi, rfl, hD, hk, hb⟩ := hrel
    have hbs := hb.size
    clear b2 b3 hw0
    by_cases hlt : i < n
    · obtain ⟨ad, q, A', n', c', rfl, hbl, hx, hs, c1, c2⟩ := PIn.at_ (EnIn.below h hb) hlt
      have hnm := hl q (List.mem_of_getElem? hx)
      have hst := putsX_take (l := []) hx
      have hplen := putsX_len [] (l.take i)
      have htl : (l.take i).length ≤ i := by rw [List.length_take]; omega
      have hpl : (putsX [] (l.take i)).length ≤ 100000 := by
        have e0 : ([] : List Kn).length = 0 := rfl
        omega
      obtain ⟨x, s⟩ := q
      simp only [] at c1 c2 hnm hst
      have hrd : Reads wr w.heap.size 1 A' n' (bcs s) := hs
      have HP := hide (fun (wx : World) (hx : Below wr.heap.size wr wx) => refPutX_any (w.heap.size + 1) _ x s wx (hD.below hx) hpl hnm.1 hnm.2)
      unfold PutsD at HP
      have hcv := conv_of (c := c') hrd
      have hcv2 := conv_of (c := c') hrd.drew
      have hi1 : (0 : Int) ≤ (i : Int) := by omega
      have hi2 : (i : Int) < (n : Int) := by omega
      have Hst := hide hst
      clear hst hplen htl hpl hx hs hnm
      generalize putsX [] (l.take i) = X at *
      go_upto_region 5 with fail
      go_region_held3 (fun w' => w'.cell? (ad.add (i * 2)) = some (.string x) ∧ w'.cell? ⟨(ad.add (i * 2)).block, (ad.add (i * 2)).off + 1, none⟩ = some (.slice A' n' c') ∧ (convert 55 9 (.slice A' n' c')).run Tryz.prog w' = .ok (.string (str s)) w') (first | exact ⟨e1, e2, e3⟩ | exact ⟨c1, c2, hcv2⟩ | go_keep)
        (first
          | (go_at_call 28
             refine (HP.out _ ?_).mono ?_
             · exact (Below.refl _ _).drew
             rintro e w2 ⟨rfl, hD2, hg2⟩
             have hb2 : Below w.heap.size w w2 := (hb.drew).grown hg2 hbs (fun k hk => by injection hk with hk; omega)
             have hg2' : wr.grownBy w2 (some (w.heap.size + 1)) := only_both (only_of_below ((Below.refl _ _).drew) _) hg2
             have hbk : Below w.heap.size wr w2 := (Below.refl _ _).grown hg2' hbs (fun k hk => by injection hk with hk; omega)
             have e1 := (hbk.cell (p := ad.add (i * 2)) (by rw [block_of_add]; exact hbl)).trans c1
             have e2 := (hbk.cell (p := ⟨(ad.add (i * 2)).block, (ad.add (i * 2)).off + 1, none⟩) (by simp only [block_of_add]; exact hbl)).trans c2
             have e3 := conv_of (c := c') (hrd.below hbk)))
      have hk2 := hk.grown hg2' (by intro e; injection e with e; omega)
      go_wp2
      go_roundw
      case rel => exact ⟨i + 1, by omega, by go_num, by rw [Hst.out]; exact hD2, hk2, hb2⟩
      case measure => simp [RowKit.intOf]; omega
    · have hi2 : i = n := by omega
      subst hi2
      rw [List.take_of_length_le (by rw [Hlen.out]; exact Nat.le_refl _)] at hD
      obtain ⟨A', n', c', bX, hK⟩ := hD
      have kX := (bX.cell 0).trans (show (#[Value.slice A' n' c'] : Array Value)[0]? = some (.slice A' n' c') from rfl)
      have k2 := (hk.cell 0).trans (show (#[Value.slice none 0 0] : Array Value)[0]? = some (.slice none 0 0) from rfl)
      have f2 := hk.frozen 0
      go_wp2
      have hblk := hk.set_ 0 (.slice A' n' c')
      have hgs := only_setCell (p := ⟨w.heap.size, 0, none⟩) (only_self wr w.heap.size) (.inl rfl) (.slice A' n' c')
      have hKs := hK.far (farT_blk hk (by decide)) (farT_blk hk (by decide)) (farT_blk hk (by decide)) (farT_blk hk (by decide)) hgs
      refine bodyPost_ret (results_cell_row rfl _ _ w.heap.size 33 _ (0, 0) _ rfl hblk Tryz.underlying33 rfl rfl) rfl ?_
      exact ⟨A', n', c', rfl, hKs, hb.setCell (p := ⟨w.heap.size, 0, none⟩) (Nat.le_refl _) _⟩
end Go.Proofs.YtdmejcfnolhplaaGreat.Index
/-
  The walk of IndexStays. Condition: the slice reads as entries; lengths as a row bounds them.
-/
namespace Go.Proofs.YtdmejcfnolhplaaGreat.Index
open Go Go.RowKit Go.Lib Go.Proofs.YtdmejcfnolhplaaGreat.Span Go.Proofs.YtdmejcfnolhplaaGreat.Need Go.Proofs.YtdmejcfnolhplaaGreat.Mani Go.Proofs.YtdmejcfnolhplaaGreat.Wire Go.Proofs.YtdmejcfnolhplaaGreat.Depot
set_option linter.unusedVariables false
/-! Contracts at an index whose blocks lie at B or behind. -/
section
variable {g B : Nat} {l : List Kn} {w : World}
end
theorem take_bounds (l : List En) (i : Nat) (h30 : l.length ≤ 30) (hs : ∀ q ∈ l, q.1.size ≤ 200 ∧ q.2.length ≤ 9000) :
    RisesK (putsX [] (l.take i)) ∧ FineX (putsX [] (l.take i)) ∧ ShortX (putsX [] (l.take i)) ∧ (putsX [] (l.take i)).length ≤ 30 := by
  refine ⟨putsX_rises List.Pairwise.nil _, FineX.nil.puts _, puts_short ShortX.nil _ fun e he => by have := hs e (List.mem_of_mem_take he); omega, ?_⟩
  have h1 := putsX_len [] (l.take i)
  have h2 : (l.take i).length ≤ l.length := by rw [List.length_take]; omega
  have h3 : ([] : List Kn).length = 0 := rfl
  omega
end Go.Proofs.YtdmejcfnolhplaaGreat.Index
